/-
  A writer of the program, and one by the document, in memory: which blocks are theirs, and what a step on another one leaves of them. No walk.
-/
import Derived.Test.YtcbnnfeelhlapadGreatDoorWRel
import Derived.Test.YtcbnnfeelhlapadGreatDoorFTakeP
import Derived.Test.YtcbnnfeelhlapadGreatDoorFLists
import Derived.Test.YtcbnnfeelhlapadGreatDoorFStage
import Derived.BigRegion
import Derived.Test.YtcbnnfeelhlapadGreatDoorFPut
import Derived.Laws.IdiomCopy
namespace Go.Proofs.YtcbnnfeelhlapadGreatDoor
set_option maxRecDepth 20000
set_option maxHeartbeats 800000
open Go.RowKit
theorem zu3:∀(l:List Ch) (i r:Nat) (y:Ch) (u:Value) (hi:i<l.length),r<7→(zch l[i]).set r u=zch y→(zaq l).set (i*7+r) u=zaq (l.set i y)
 |[],i,_,_,_,hi,_,_=>absurd hi (Nat.not_lt_zero _)
 |x::l,0,r,y,u,_,hr,hy=>by
  have h7:(zch x).length=7:=rfl
  rw[Nat.zero_mul,Nat.zero_add,zaq,List.set_append_left (h:=by omega),List.set_cons_zero,zaq]
  have hy':(zch x).set r u=zch y:=hy
  rw[hy']
 |x::l,i+1,r,y,u,hi,hr,hy=>by
  have h7:(zch x).length=7:=rfl
  have:=zu3 l i r y u (by simpa using hi) hr hy
  rw[zaq,List.set_append_right (h:=by rw[h7];omega),List.set_cons_succ,zaq,h7,show(i+1)*7+r-7=i*7+r by omega,this]
theorem zuf{w:World}{base g n cap:Nat}{L:List Ch}(h:Own w base (.slice (some ⟨g,0,none⟩) n cap) L)(hn:L.length=n){i r:Nat}(hi:i<L.length)(hr:r<7){y:Ch}{u:Value}(hy:(zch L[i]).set r u=zch y):
 Own (w.setCell ⟨g,i*7+r,none⟩ u) base (.slice (some ⟨g,0,none⟩) n cap) (L.set i y):=by
 unfold Own at h⊢
 rw[List.length_set,←zu3 L i r y u hi hr hy,hn]
 rw[hn]at h
 exact(h.stored _ _).1
def zmb(x:Dd×Value):List Value:=zfd x.1++[x.2]
def zdh:List (Dd×Value)→List Value
 |[]=>[]
 |x::r=>zmb x++zdh r
theorem zf9(x:Dd×Value):(zmb x).length=8:=rfl
theorem zmp:∀l:List (Dd×Value),(zdh l).length=l.length*8
 |[]=>rfl
 |x::r=>by
  rw[zdh,List.length_append,zmp r,List.length_cons,zf9]
  omega
theorem zrg:∀a b:List (Dd×Value),zdh (a++b)=zdh a++zdh b
 |[],b=>rfl
 |x::r,b=>by rw[List.cons_append,zdh,zrg r b,zdh,List.append_assoc]
theorem zmo:∀(l:List (Dd×Value)) (_:∀x∈l,x.2.oneCell'=true) (u:Value),u∈zdh l→u.oneCell'=true
 |[],_,u,h=>by simp[zdh]at h
 |x::r,hl,u,h=>by
  rw[zdh,List.mem_append]at h
  rcases h with h|h
  ·simp[zmb,zfd]at h
   rcases h with rfl|rfl|rfl|rfl|rfl|rfl|rfl|rfl
   all_goals first|rfl|exact hl x (by simp)
  ·exact zmo r (fun y hy=>hl y (by simp[hy])) u h
theorem zrf:∀(l:List (Dd×Value)) (i r:Nat) (hi:i<l.length),r<8→(zdh l)[i*8+r]? =(zmb l[i])[r]?
 |[],i,r,hi,_=>absurd hi (Nat.not_lt_zero _)
 |x::l,0,r,_,hr=>by
  rw[zdh,Nat.zero_mul,Nat.zero_add,List.getElem?_append_left (by rw[zf9];exact hr)]
  rfl
 |x::l,i+1,r,hi,hr=>by
  rw[zdh,List.getElem?_append_right (by rw[zf9];omega),zf9,show(i+1)*8+r-8=i*8+r by omega,zrf l i r (by simpa using hi) hr]
  rfl
def zlu(w:World)(base:Nat)(v:Value)(l:List (Dd×Value)):Prop:=w.ownsRow base 180 8 v l.length (zdh l)
theorem zza(w:World)(base:Nat):zlu w base (.slice none 0 0) []:=World.ownsRow_nil _ _ _ _
theorem zlu.len{w:World}{base:Nat}{v:Value}{l:List (Dd×Value)}(h:zlu w base v l):∃a cap,v= .slice a l.length cap:=by
 rcases h.2 with⟨rfl,hn⟩|⟨g,cap,cur,rfl,_⟩
 ·exact⟨none,0,by rw[hn]⟩
 ·exact⟨_,cap,rfl⟩
theorem zlu.place{w:World}{base:Nat}{v:Value}{l:List (Dd×Value)}(h:zlu w base v l)(hk:0<l.length):∃g cap,v= .slice (some ⟨g,0,none⟩) l.length cap:=by
 rcases h.2 with⟨_,hn⟩|⟨g,cap,cur,rfl,_⟩
 ·omega
 ·exact⟨g,cap,rfl⟩
theorem zlu.below{w w':World}{base:Nat}{v:Value}{l:List (Dd×Value)}(h:zlu w base v l)(hb:Below w.heap.size w w'):zlu w' base v l:=
 World.ownsRow.kept (row:=none) h ⟨hb.os,hb.tape,hb.output,hb.size,fun k hk _=>hb.block k hk⟩ (by cases h':v.ownBlock<;>simp)
structure OoAt(w:World)(B o:Nat)(d:Dd)(tv:Value):Prop where
 deed:zde w B o d
 took:w.cell? ⟨B,o+7,none⟩=some tv
theorem zlu.nth{w:World}{base g n cap:Nat}{l:List (Dd×Value)}(h:zlu w base (.slice (some ⟨g,0,none⟩) n cap) l)(hn:l.length=n){i:Nat}(hi:i<l.length):OoAt w g (i*8) l[i].1 l[i].2:=by
 unfold zlu at h
 rw[hn]at h
 have hlt:=(World.ownsRow.lt h g rfl).2
 have key:∀r,r<8→w.cell? ⟨g,i*8+r,none⟩=(zmb l[i])[r]? :=fun r hr=>by
  rw[World.ownsRow.cellAt h (i*8+r) (by omega),zrf l i r hi hr]
 exact⟨⟨hlt,key 0 (by omega),key 1 (by omega),key 2 (by omega),key 3 (by omega),key 4 (by omega),key 5 (by omega),key 6 (by omega)⟩,key 7 (by omega)⟩
def zer(w:World)(base:Nat):List Value→List (List Ch)→Prop
 |[],[]=>True
 |v::vs,t::ts=>Own w base v t∧zer w base vs ts
 |_,_=>False
theorem zer.len{w:World}{base:Nat}:∀{vs:List Value} {ts:List (List Ch)},zer w base vs ts→vs.length=ts.length
 |[],[],_=>rfl
 |_::_,_::_,h=>by rw[List.length_cons,List.length_cons,zer.len h.2]
 |[],_::_,h=>h.elim
 |_::_,[],h=>h.elim
theorem zer.of_block{w w':World}{base:Nat}:∀{vs:List Value} {ts:List (List Ch)},zer w base vs ts→(∀v∈vs,∀k,v.ownBlock=some k→w'.heap[k]? =w.heap[k]?)→zer w' base vs ts
 |[],[],_,_=>trivial
 |v::vs,_::_,h,hb=>⟨za3 h.1 (hb v (by simp)),zer.of_block h.2 (fun u hu=>hb u (by simp[hu]))⟩
 |[],_::_,h,_=>h.elim
 |_::_,[],h,_=>h.elim
theorem zer.nth{w:World}{base:Nat}:∀{vs:List Value} {ts:List (List Ch)},zer w base vs ts→∀(i:Nat) (hi:i<vs.length) (ht:i<ts.length),Own w base vs[i] ts[i]
 |[],[],_,i,hi,_=>absurd hi (Nat.not_lt_zero _)
 |v::vs,t::ts,h,0,_,_=>h.1
 |v::vs,t::ts,h,i+1,hi,ht=>zer.nth h.2 i (by simpa using hi) (by simpa using ht)
 |[],_::_,h,_,_,_=>h.elim
 |_::_,[],h,_,_,_=>h.elim
theorem zer.lt{w:World}{base:Nat}:∀{vs:List Value} {ts:List (List Ch)},zer w base vs ts→∀v∈vs,∀k,v.ownBlock=some k→base≤k∧k<w.heap.size
 |[],[],_,_,hv,_,_=>by cases hv
 |v::vs,t::ts,h,u,hu,k,e=>by
  rcases List.mem_cons.1 hu with rfl|hu
  ·exact World.ownsRow.lt h.1 k e
  ·exact zer.lt h.2 u hu k e
 |[],_::_,h,_,_,_,_=>h.elim
 |_::_,[],h,_,_,_,_=>h.elim
theorem zer.snoc{w:World}{base:Nat}{v:Value}{t:List Ch}(ho:Own w base v t):∀{vs:List Value} {ts:List (List Ch)},zer w base vs ts→zer w base (vs++[v]) (ts++[t])
 |[],[],_=>⟨ho,trivial⟩
 |_::_,_::_,h=>⟨h.1,zer.snoc ho h.2⟩
 |[],_::_,h=>h.elim
 |_::_,[],h=>h.elim
theorem zer.one{w:World}{base:Nat}:∀{vs:List Value} {ts:List (List Ch)},zer w base vs ts→∀v∈vs,v.oneCell'=true
 |[],[],_,_,hv=>by cases hv
 |v::vs,t::ts,h,u,hu=>by
  rcases List.mem_cons.1 hu with rfl|hu
  ·obtain⟨a,cap,rfl,_⟩:=h.1.lst.len
   rfl
  ·exact zer.one h.2 u hu
 |[],_::_,h,_,_=>h.elim
 |_::_,[],h,_,_=>h.elim
structure PwC(w:World)(P:Nat)(lv ov:Value)(me next seen sent:Int):Prop where
 lt:P<w.heap.size
 me:w.cell? ⟨P,0,none⟩=some (.int .i64 me)
 next:w.cell? ⟨P,1,none⟩=some (.int .i64 next)
 seen:w.cell? ⟨P,2,none⟩=some (.int .i64 seen)
 list:w.cell? ⟨P,3,none⟩=some lv
 opens:w.cell? ⟨P,4,none⟩=some ov
 sent:w.cell? ⟨P,5,none⟩=some (.int .i64 sent)
 free:∀o,o<6→w.frozen? ⟨P,o,none⟩=false
theorem PwC.kept{w w':World}{P:Nat}{lv ov:Value}{me next seen sent:Int}(h:PwC w P lv ov me next seen sent)(hs:w.heap.size≤w'.heap.size)(hb:w'.heap[P]? =w.heap[P]?):PwC w' P lv ov me next seen sent:=by
 have hc:∀o,w'.cell? ⟨P,o,none⟩=w.cell? ⟨P,o,none⟩:=fun o=>World.cell?_of_block (a:=⟨P,o,none⟩) hb
 have hf:∀o,w'.frozen? ⟨P,o,none⟩=w.frozen? ⟨P,o,none⟩:=fun o=>World.frozen?_of_block (a:=⟨P,o,none⟩) hb
 exact⟨Nat.lt_of_lt_of_le h.lt hs,by rw[hc];exact h.me,by rw[hc];exact h.next,by rw[hc];exact h.seen,by rw[hc];exact h.list,by rw[hc];exact h.opens,by rw[hc];exact h.sent,fun o ho=>by rw[hf];exact h.free o ho⟩
structure zcn(w:World)(base:Nat)(S:Nat→Prop)(P:Nat)(lv ov:Value)(tvs:List Value)(l:List Ch)(es:List Dd)(ts:List (List Ch))(me next seen sent:Int):Prop where
 lo:∀k,S k→base≤k∧k<w.heap.size
 hP:S P
 cells:PwC w P lv ov me next seen sent
 ownL:Own w base lv l
 ownO:zlu w base ov (es.zip tvs)
 len:tvs.length=es.length
 tooks:zer w base tvs ts
 lB:∀k,lv.ownBlock=some k→S k∧k≠P
 oB:∀k,ov.ownBlock=some k→S k∧k≠P∧lv.ownBlock≠some k
 tB:∀tv∈tvs,∀k,tv.ownBlock=some k→S k∧k≠P∧lv.ownBlock≠some k∧ov.ownBlock≠some k
 tD:tvs.Pairwise fun a b=>∀k,a.ownBlock=some k→b.ownBlock≠some k
theorem zcn.kept{w w':World}{base P:Nat}{S T:Nat→Prop}{lv ov:Value}{tvs:List Value}{l:List Ch}{es:List Dd}{ts:List (List Ch)}{me next seen sent:Int}(h:zcn w base S P lv ov tvs l es ts me next seen sent)(hk:zak T w w')(hd:∀k,S k→¬T k):zcn w' base S P lv ov tvs l es ts me next seen sent:=by
 have hb:∀k,S k→w'.heap[k]? =w.heap[k]? :=fun k hs=>hk.block k (h.lo k hs).2 (hd k hs)
 exact⟨fun k hs=>⟨(h.lo k hs).1,Nat.lt_of_lt_of_le (h.lo k hs).2 hk.size⟩,h.hP,h.cells.kept hk.size (hb P h.hP),za3 h.ownL (fun k e=>hb k (h.lB k e).1),za3 h.ownO (fun k e=>hb k (h.oB k e).1),h.len,h.tooks.of_block (fun v hv k e=>hb k (h.tB v hv k e).1),h.lB,h.oB,h.tB,h.tD⟩
theorem zcn.below{w w':World}{base P:Nat}{S:Nat→Prop}{lv ov:Value}{tvs:List Value}{l:List Ch}{es:List Dd}{ts:List (List Ch)}{me next seen sent:Int}(h:zcn w base S P lv ov tvs l es ts me next seen sent)(hb:Below w.heap.size w w'):zcn w' base S P lv ov tvs l es ts me next seen sent:=
 h.kept (T:=fun _=>False) (.of_below hb) (fun _ _ e=>e)
theorem zcn.base_le{w:World}{base P:Nat}{S:Nat→Prop}{lv ov:Value}{tvs:List Value}{l:List Ch}{es:List Dd}{ts:List (List Ch)}{me next seen sent:Int}(h:zcn w base S P lv ov tvs l es ts me next seen sent):base≤w.heap.size:=by
 have:=h.lo P h.hP
 omega
theorem zcn.mono{w:World}{base P:Nat}{S T:Nat→Prop}{lv ov:Value}{tvs:List Value}{l:List Ch}{es:List Dd}{ts:List (List Ch)}{me next seen sent:Int}(h:zcn w base S P lv ov tvs l es ts me next seen sent)(hT:∀k,S k→T k)(hl:∀k,T k→base≤k∧k<w.heap.size):zcn w base T P lv ov tvs l es ts me next seen sent:=
 ⟨hl,hT _ h.hP,h.cells,h.ownL,h.ownO,h.len,h.tooks,fun k e=>⟨hT k (h.lB k e).1,(h.lB k e).2⟩,fun k e=>⟨hT k (h.oB k e).1,(h.oB k e).2⟩,fun tv ht k e=>⟨hT k (h.tB tv ht k e).1,(h.tB tv ht k e).2⟩,h.tD⟩
structure znj(w:World)(base:Nat)(S:Nat→Prop)(P:Nat)(l:List Ch)(es:List Dd)(ts:List (List Ch))(me next seen sent:Int)(w':World):Prop where
 at_:∃lv ov tvs,zcn w' base (grow S w w') P lv ov tvs l es ts me next seen sent
 kept:zak S w w'
theorem zkq{w w':World}{base:Nat}{S:Nat→Prop}(hb:base≤w.heap.size)(hs:w.heap.size≤w'.heap.size)(hl:∀k,S k→base≤k∧k<w.heap.size):∀k,grow S w w' k→base≤k∧k<w'.heap.size:=fun k e=>by
 rcases e with e|e
 ·have:=hl k e;omega
 ·omega
structure ScC(w:World)(Q:Nat)(bv ov:Value)(me seen next sent:Int):Prop where
 lt:Q<w.heap.size
 me:w.cell? ⟨Q,0,none⟩=some (.int .i64 me)
 seen:w.cell? ⟨Q,1,none⟩=some (.int .i64 seen)
 next:w.cell? ⟨Q,2,none⟩=some (.int .i64 next)
 base:w.cell? ⟨Q,3,none⟩=some bv
 opens:w.cell? ⟨Q,4,none⟩=some ov
 sent:w.cell? ⟨Q,5,none⟩=some (.int .i64 sent)
 free:∀o,o<6→w.frozen? ⟨Q,o,none⟩=false
theorem ScC.kept{w w':World}{Q:Nat}{bv ov:Value}{me seen next sent:Int}(h:ScC w Q bv ov me seen next sent)(hs:w.heap.size≤w'.heap.size)(hb:w'.heap[Q]? =w.heap[Q]?):ScC w' Q bv ov me seen next sent:=by
 have hc:∀o,w'.cell? ⟨Q,o,none⟩=w.cell? ⟨Q,o,none⟩:=fun o=>World.cell?_of_block (a:=⟨Q,o,none⟩) hb
 have hf:∀o,w'.frozen? ⟨Q,o,none⟩=w.frozen? ⟨Q,o,none⟩:=fun o=>World.frozen?_of_block (a:=⟨Q,o,none⟩) hb
 exact⟨Nat.lt_of_lt_of_le h.lt hs,by rw[hc];exact h.me,by rw[hc];exact h.seen,by rw[hc];exact h.next,by rw[hc];exact h.base,by rw[hc];exact h.opens,by rw[hc];exact h.sent,fun o ho=>by rw[hf];exact h.free o ho⟩
structure zes(w:World)(base:Nat)(S:Nat→Prop)(Q:Nat)(bv ov:Value)(l:List Ch)(es:List Dd)(me seen next sent:Int):Prop where
 lo:∀k,S k→base≤k∧k<w.heap.size
 hQ:S Q
 cells:ScC w Q bv ov me seen next sent
 ownB:Own w base bv l
 ownO:zfy w base ov es
 bB:∀k,bv.ownBlock=some k→S k∧k≠Q
 oB:∀k,ov.ownBlock=some k→S k∧k≠Q∧bv.ownBlock≠some k
theorem zes.kept{w w':World}{base Q:Nat}{S T:Nat→Prop}{bv ov:Value}{l:List Ch}{es:List Dd}{me seen next sent:Int}(h:zes w base S Q bv ov l es me seen next sent)(hk:zak T w w')(hd:∀k,S k→¬T k):zes w' base S Q bv ov l es me seen next sent:=by
 have hb:∀k,S k→w'.heap[k]? =w.heap[k]? :=fun k hs=>hk.block k (h.lo k hs).2 (hd k hs)
 exact⟨fun k hs=>⟨(h.lo k hs).1,Nat.lt_of_lt_of_le (h.lo k hs).2 hk.size⟩,h.hQ,h.cells.kept hk.size (hb Q h.hQ),za3 h.ownB (fun k e=>hb k (h.bB k e).1),za3 h.ownO (fun k e=>hb k (h.oB k e).1),h.bB,h.oB⟩
theorem zes.below{w w':World}{base Q:Nat}{S:Nat→Prop}{bv ov:Value}{l:List Ch}{es:List Dd}{me seen next sent:Int}(h:zes w base S Q bv ov l es me seen next sent)(hb:Below w.heap.size w w'):zes w' base S Q bv ov l es me seen next sent:=
 h.kept (T:=fun _=>False) (.of_below hb) (fun _ _ e=>e)
theorem zes.base_le{w:World}{base Q:Nat}{S:Nat→Prop}{bv ov:Value}{l:List Ch}{es:List Dd}{me seen next sent:Int}(h:zes w base S Q bv ov l es me seen next sent):base≤w.heap.size:=by
 have:=h.lo Q h.hQ
 omega
theorem zes.mono{w:World}{base Q:Nat}{S T:Nat→Prop}{bv ov:Value}{l:List Ch}{es:List Dd}{me seen next sent:Int}(h:zes w base S Q bv ov l es me seen next sent)(hT:∀k,S k→T k)(hl:∀k,T k→base≤k∧k<w.heap.size):zes w base T Q bv ov l es me seen next sent:=
 ⟨hl,hT _ h.hQ,h.cells,h.ownB,h.ownO,fun k e=>⟨hT k (h.bB k e).1,(h.bB k e).2⟩,fun k e=>⟨hT k (h.oB k e).1,(h.oB k e).2⟩⟩
structure zt7(w:World)(base:Nat)(S:Nat→Prop)(Q:Nat)(l:List Ch)(es:List Dd)(me seen next sent:Int)(w':World):Prop where
 at_:∃bv ov,zes w' base (grow S w w') Q bv ov l es me seen next sent
 kept:zak S w w'
theorem za1(w:World)(o:Obj):Below w.heap.size w (w.alloc o):=(Below.refl _ _).alloc (Nat.le_refl _) _
theorem below2(w:World)(o p:Obj):Below w.heap.size w ((w.alloc o).alloc p):=(za1 w o).alloc (by simp) _
theorem done_any(x:Ch)(least:Int)(w:World):
 Calls Tryz.prog 198 #[chV x,.int .i64 least] w fun e w'=>e= .returned (.bool (ze7 least x))∧Below w.heap.size w w':=by
 obtain⟨c,b,no,k,i,o,g⟩:=x
 by_cases h1:o=0
 ·have h1':(o != 0)=false:=by simp[h1]
  have H1:Hid (o=0):=h1
  clear h1
  go_enter Tryz.func198,Tryz.ntmps198
  go_wp2
  go_ret
  exact⟨zbh (by simp[ze7,H1.out]),za1 _ _⟩
 ·have h1':(o != 0)=true:=by simp[h1]
  have H1:Hid (o≠0):=h1
  clear h1
  by_cases h2:o≤least
  ·go_enter Tryz.func198,Tryz.ntmps198
   go_wp2
   go_ret
   exact⟨zbh (by simp[ze7,H1.out,h2]),za1 _ _⟩
  ·go_enter Tryz.func198,Tryz.ntmps198
   go_wp2
   go_ret
   exact⟨zbh (by
    have:¬o≤least:=by omega
    simp[ze7,this]),za1 _ _⟩
structure NBox(n:Int)(B:Nat)(w:World):Prop where
 lt:B<w.heap.size
 at_:w.cell? ⟨B,0,none⟩=some (.int .i64 n)
theorem NBox.low{w w':World}{n:Int}{B base:Nat}(h:NBox n B w)(hB:B<base)(hb:Below base w w'):NBox n B w':=
 ⟨Nat.lt_of_lt_of_le h.lt hb.size,by rw[hb.cell (p:=⟨B,0,none⟩) hB];exact h.at_⟩
theorem of1_any(x:Ch)(least:Int)(B:Nat)(w:World)(h:w.cell? ⟨B,0,none⟩=some (.int .i64 least)):
 Calls Tryz.prog 197 (#[chV x]++ #[.pointer (some ⟨B,0,none⟩)]) w fun e w'=>e= .returned (.bool (ze7 least x))∧Below w.heap.size w w':=by
 have c0:∀o,(w.alloc o).cell? ⟨B,0,none⟩=some (.int .i64 least):=fun o=>Lib.cell?_alloc_some o h
 clear h
 go_enter Tryz.func197,Tryz.ntmps197
 go_wp2_with fail
 refine(done_any x least _).mono ?_
 rintro e w1 ⟨rfl,hb⟩
 have HB:Hid (Below w.heap.size w w1):=bla (za1 _ _) hb
 clear hb c0
 go_wp2
 go_ret
 exact⟨rfl,HB.out⟩
theorem Lst.row{w:World}{a:Option Addr}{n cap:Nat}{l:List Ch}(h:Lst w (.slice a n cap) l)(hp:0<n):∃b off,a=some ⟨b,off,none⟩∧l.length=n∧Row w b off l:=by
 obtain⟨a',len,cap',he,h1,h2,h3⟩:=h
 simp only[Value.slice.injEq]at he
 obtain⟨rfl,rfl,rfl⟩:=he
 rcases h3 with h3|⟨b,off,rfl,hr⟩
 ·omega
 ·exact⟨b,off,rfl,h1,hr⟩
theorem zj6{w:World}{base g n cap:Nat}{e:TypeId}{size:Nat}{xs:List Value}(h:w.ownsRow base e size (.slice (some ⟨g,0,none⟩) n cap) n xs):
 ∀(vs:List Value) (o:Nat),n*size≤o→∀w1:World,w1.ownsRow base e size (.slice (some ⟨g,0,none⟩) n cap) n xs→(w1.setCells g o vs).ownsRow base e size (.slice (some ⟨g,0,none⟩) n cap) n xs
 |[],o,_,w1,h1=>h1
 |v::vs,o,ho,w1,h1=>by
  have:=(h1.stored o v).1
  rw[List.set_eq_of_length_le (by have:=h1.1;omega)]at this
  exact zj6 h vs (o+1) (by omega) _ this
theorem zkc{base g:Nat}(hg:base≤g){W:World}:∀(vs:List Value) (o:Nat) (w1:World),Below base W w1→Below base W (w1.setCells g o vs)
 |[],_,_,h=>h
 |v::vs,o,_,h=>zkc hg vs (o+1) _ (h.setCell (p:=⟨g,o,none⟩) hg v)
theorem own_less{w:World}{base g n cap:Nat}{L:List Ch}(h:Own w base (.slice (some ⟨g,0,none⟩) n cap) L)(hn:L.length=n){i:Nat}(hi:i≤n):Own w base (.slice (some ⟨g,0,none⟩) i cap) (L.take i):=by
 unfold Own at h⊢
 have hlen:(L.take i).length=i:=by rw[List.length_take];omega
 rw[hlen]
 rw[hn]at h
 obtain⟨h1,h2⟩:=h
 refine⟨by rw[zdd,hlen],?_⟩
 rcases h2 with⟨h',_⟩|⟨g',cap',cur,h',hb,hg,hnc,hcm,hcs,htake⟩
 ·simp at h'
 ·simp only[Value.slice.injEq,Option.some.injEq,Addr.mk.injEq,and_true,true_and]at h'
  obtain⟨rfl,rfl⟩:=h'
  refine .inr ⟨g,cap,cur,rfl,hb,hg,by omega,hcm,hcs,?_⟩
  have e:zaq L=zaq (L.take i)++zaq (L.drop i):=by rw[←zfe,List.take_append_drop]
  have:(zaq L).take (i*7)=zaq (L.take i):=by
   have hl7:(zaq (L.take i)).length=i*7:=by rw[zdd,hlen]
   rw[e,List.take_append_of_le_length (by omega),List.take_of_length_le (by omega)]
  rw[←this,←htake,List.take_take,Nat.min_eq_left (by omega)]
theorem zp1{wk:World}{base:Nat}{v:Value}{l:List Ch}(h:Own wk base v l)(hk:0<l.length):∃g cap,v= .slice (some ⟨g,0,none⟩) l.length cap:=by
 obtain⟨_,h2⟩:=h
 rcases h2 with⟨_,hn⟩|⟨g,cap,cur,rfl,_⟩
 ·omega
 ·exact⟨g,cap,rfl⟩
theorem zew{w:World}{base g n cap:Nat}{L:List Ch}(h:Own w base (.slice (some ⟨g,0,none⟩) n cap) L)(hn:L.length=n){j:Nat}(hj:j<n*7):(∃u,w.cell? ⟨g,j,none⟩=some u)∧w.frozen? ⟨g,j,none⟩=false:=by
 unfold Own at h
 rw[hn]at h
 exact zex h hj
theorem zrm(n:Nat):∀v∈(Builtin.zeroCells zfj.cells n).toList,v.oneCell'=true:=by
 intro v hv
 simp only[Builtin.zeroCells,Array.toList_map,List.mem_map]at hv
 obtain⟨i,_,rfl⟩:=hv
 have h7:i % zfj.cells.size<7:=Nat.mod_lt _ (by decide)
 generalize i % zfj.cells.size=r at h7
 rcases(show r=0∨r=1∨r=2∨r=3∨r=4∨r=5∨r=6 by omega)with rfl|rfl|rfl|rfl|rfl|rfl|rfl<;>rfl
theorem zs4{w:World}{base g n cap:Nat}{L:List Ch}(h:Own w base (.slice (some ⟨g,0,none⟩) n cap) L)(hn:L.length=n){i:Nat}(hi:i<n)(ty:TypeId):
 (Builtin.clear_ #[91] ty #[.slice (some ⟨g,i*7,none⟩) (n-i) (cap-i)]).run Tryz.prog w= .ok (.tuple #[]) (w.setCells g (i*7) (Builtin.zeroCells zfj.cells (n-i)).toList):=by
 have hlen:(Builtin.zeroCells zfj.cells (n-i)).toList.length=(n-i)*7:=by rw[Array.length_toList,size_zeroCells];rfl
 have hsp:∀j,j<(Builtin.zeroCells zfj.cells (n-i)).toList.length→i*7+j<n*7:=fun j hj=>by rw[hlen]at hj;omega
 have ho:=h
 unfold Own at ho
 rw[hn]at ho
 have hst:=run_storeCells_cells (P:=Tryz.prog) g (i*7) (Builtin.zeroCells zfj.cells (n-i)).toList 0 w
  (fun j hj=>by obtain⟨⟨u,hu⟩,_⟩:=zex ho (hsp j hj);rw[Nat.add_zero,hu];rfl)
  (fun j hj=>by rw[Nat.add_zero];exact(zex ho (hsp j hj)).2) (zrm _)
 simp only[Nat.add_zero]at hst
 obtain⟨m,hm⟩:∃m,n-i=m+1:=⟨n-i-1,by omega⟩
 rw[hm]at hst⊢
 have hu:Tryz.prog.underlying 91=some (.slice 127):=Tryz.underlying91
 simp[Builtin.clear_,run_underlying hu,hst]
structure zgt(base:Nat)(w:World)(v:Value)(l:List Ch)(p:Ch→Bool)(i j:Nat)(L:List Ch)(wk:World):Prop where
 below:Below base w wk
 own:Own wk base v L
 len:L.length=l.length
 le:i<j
 head:L.take i=(l.take j).filter fun x=> !p x
 tail:L.drop j=l.drop j
theorem zgt.after{base:Nat}{w wk w':World}{v:Value}{l L:List Ch}{p:Ch→Bool}{i j:Nat}(h:zgt base w v l p i j L wk)(hs:base≤wk.heap.size)(hb:Below wk.heap.size wk w'):zgt base w v l p i j L w':=
 ⟨h.below.trans (hb.mono hs),h.own.below hb,h.len,h.le,h.head,h.tail⟩
theorem zks{p:Ch→Bool}{l:List Ch}{j:Nat}(hj:j<l.length):(l.take (j+1)).filter (fun x=> !p x)=(l.take j).filter (fun x=> !p x)++if p l[j]=true then []else [l[j]]:=by
 rw[zcj l j hj,List.filter_append]
 cases h:p l[j]<;>simp[h]
theorem zgt.nth{base:Nat}{w wk:World}{v:Value}{l L:List Ch}{p:Ch→Bool}{i j:Nat}(h:zgt base w v l p i j L wk)(hj:j<l.length):∃hL:j<L.length,L[j]=l[j]:=by
 have hL:j<L.length:=by rw[h.len];exact hj
 refine⟨hL,?_⟩
 have h1:(L.drop j)[0]? =(l.drop j)[0]? :=by rw[h.tail]
 rw[List.getElem?_drop,List.getElem?_drop,Nat.add_zero,List.getElem?_eq_getElem hL,List.getElem?_eq_getElem hj]at h1
 exact Option.some.inj h1
theorem zgt.skip{base:Nat}{w wk:World}{v:Value}{l L:List Ch}{p:Ch→Bool}{i j:Nat}(h:zgt base w v l p i j L wk)(hj:j<l.length)(hp:p l[j]=true):zgt base w v l p i (j+1) L wk:=by
 refine⟨h.below,h.own,h.len,by have:=h.le;omega,?_,?_⟩
 ·rw[zks hj,hp,h.head];simp
 ·rw[←List.drop_drop,h.tail,List.drop_drop]
theorem zgt.keep{base g n cap:Nat}{w wk:World}{l L:List Ch}{p:Ch→Bool}{i j:Nat}(h:zgt base w (.slice (some ⟨g,0,none⟩) n cap) l p i j L wk)(hn:l.length=n)(hj:j<l.length)(hp:p l[j]=false)(y:Ch)(hy:l[j]=y):
 zgt base w (.slice (some ⟨g,0,none⟩) n cap) l p (i+1) (j+1) (L.set i y) (((((((wk.setCell ⟨g,i*7,none⟩ (.int .u8 y.c)).setCell ⟨g,i*7+1,none⟩ (.int .i64 y.by_)).setCell ⟨g,i*7+2,none⟩ (.int .i64 y.no)).setCell ⟨g,i*7+3,none⟩ (.int .i64 y.k)).setCell ⟨g,i*7+4,none⟩ (.int .i64 y.inn)).setCell ⟨g,i*7+5,none⟩ (.int .i64 y.out)).setCell ⟨g,i*7+6,none⟩ (.int .i64 y.gone)):=by
 obtain⟨hb,ho,hl,hle,hh,ht⟩:=h
 have hiL:i<L.length:=by omega
 have ho':=ho
 unfold Own at ho'
 have hg:=(World.ownsRow.lt ho' g rfl).1
 refine⟨?_,?_,by rw[List.length_set,hl],by omega,?_,?_⟩
 ·exact((((((hb.setCell (p:=⟨g,_,none⟩) hg _).setCell (p:=⟨g,_,none⟩) hg _).setCell (p:=⟨g,_,none⟩) hg _).setCell (p:=⟨g,_,none⟩) hg _).setCell (p:=⟨g,_,none⟩) hg _).setCell (p:=⟨g,_,none⟩) hg _).setCell (p:=⟨g,_,none⟩) hg _
 ·unfold Own
  rw[List.length_set,←zz0 L i y hiL,hl,hn]
  rw[hl,hn]at ho'
  exact((((((ho'.stored _ _).1.stored _ _).1.stored _ _).1.stored _ _).1.stored _ _).1.stored _ _).1.stored _ _ |>.1
 ·rw[zks hj,hp,←hh,hy,List.take_succ_eq_append_getElem (by rw[List.length_set];exact hiL),List.getElem_set_self,List.take_set_of_le (Nat.le_refl _)]
  simp
 ·rw[List.drop_set_of_lt (by omega),←List.drop_drop,ht,List.drop_drop]
structure zt8(F:Nat)(caps:Array Value)(p:Ch→Bool)(base:Nat)(K:World→Prop):Prop where
 call:∀args w,Sem.run Tryz.prog (callFunc F args) w= .ok (.enter F args) w
 step:∀x w,K w→Calls Tryz.prog F (#[chV x]++caps) w fun e w'=>e= .returned (.bool (p x))∧Below w.heap.size w w'
 keep:∀w w',K w→Below base w w'→K w'
def hitP(p:Ch→Bool)(l:List Ch)(k:Nat):Bool:=
 match l[k]? with
 |some x=>p x
 |none=>false
theorem zmj{p:Ch→Bool}{l:List Ch}{k:Nat}(h:k<l.length):hitP p l k=p l[k]:=by
 rw[hitP,List.getElem?_eq_getElem h]
theorem zqz{F:Nat}{caps:Array Value}{p:Ch→Bool}{base:Nat}{K:World→Prop}(h:zt8 F caps p base K){w:World}(hb:base≤w.heap.size){b off:Nat}{l:List Ch}(hr:Row w b off l)(hK:K w):
 Step F caps b off l (fun _ w'=>Below w.heap.size w w') (hitP p l):=by
 refine⟨fun k w' hw=>hr.below hw,fun k hk w' hw=> ?_⟩
 refine(h.step l[k] w' (h.keep w w' hK (hw.mono hb))).mono ?_
 rintro e w2 ⟨rfl,hb2⟩
 exact⟨zbh (zmj hk).symm,bla hw hb2⟩
theorem qgb{base g n cap:Nat}{w w':World}{l:List Ch}{p:Ch→Bool}{k:Nat}(ho:Own w base (.slice (some ⟨g,0,none⟩) n cap) l)(hs:base≤w.heap.size)(hb:Below w.heap.size w w')(hk:k<l.length)(hno:∀j,j<k→hitP p l j=false)(hy:hitP p l k=true):
 zgt base w (.slice (some ⟨g,0,none⟩) n cap) l p k (k+1) l w':=by
 refine⟨hb.mono hs,ho.below hb,rfl,Nat.lt_succ_self _,?_,rfl⟩
 rw[zmj hk]at hy
 rw[zks hk,hy]
 simp only[if_true,List.append_nil]
 symm
 rw[List.filter_eq_self]
 intro x hx
 obtain⟨j,hj,rfl⟩:=List.mem_iff_getElem.1 hx
 have hj':j<k:=by rw[List.length_take]at hj;omega
 have:=hno j hj'
 rw[zmj (by omega)]at this
 rw[List.getElem_take,this]
 rfl
theorem del_none{l:List Ch}{p:Ch→Bool}(hno:∀j,j<l.length→hitP p l j=false):l=l.filter fun x=> !p x:=by
 symm
 rw[List.filter_eq_self]
 intro x hx
 obtain⟨j,hj,rfl⟩:=List.mem_iff_getElem.1 hx
 have:=hno j hj
 rw[zmj hj]at this
 rw[this];rfl
theorem zgt.fin{base g n cap:Nat}{w wk:World}{l L:List Ch}{p:Ch→Bool}{i:Nat}(h:zgt base w (.slice (some ⟨g,0,none⟩) n cap) l p i n L wk)(hn:l.length=n)(vs:List Value):
 Own (wk.setCells g (i*7) vs) base (.slice (some ⟨g,0,none⟩) i cap) (l.filter fun x=> !p x)∧Below base w (wk.setCells g (i*7) vs):=by
 have hL:L.length=n:=by rw[h.len,hn]
 have h1:=own_less h.own hL (i:=i) (by have:=h.le;omega)
 rw[h.head,←hn,List.take_length]at h1
 have hli:(l.filter fun x=> !p x).length=i:=by
  have e:=h.head
  rw[←hn,List.take_length]at e
  rw[←e,List.length_take]
  have:=h.le
  omega
 have hg:base≤g:=by
  have ho:=h.own
  unfold Own at ho
  exact(World.ownsRow.lt ho g rfl).1
 refine⟨?_,zkc hg _ _ _ h.below⟩
 unfold Own at h1⊢
 rw[hli]at h1⊢
 exact zj6 h1 vs (i*7) (Nat.le_refl _) wk h1
theorem zka{F:Nat}{caps:Array Value}{p:Ch→Bool}{base:Nat}{K:World→Prop}(hF:zt8 F caps p base K){w:World}{v:Value}{l:List Ch}(ho:Own w base v l)(hs:base≤w.heap.size)(hl:l.length≤1000)(hK:K w):
 Calls Tryz.prog 196 #[v,.func (Fn.func F) #[] caps] w fun e w'=>∃v',e= .returned v'∧Own w' base v' (l.filter fun x=> !p x)∧Below base w w':=by
 have HF:Hid (zt8 F caps p base K):=hF
 have HO:Hid (Own w base v l):=ho
 have HK:Hid (K w):=hK
 have hcall:=hF.call
 by_cases h0:l.length=0
 ·obtain rfl:l=[]:=List.length_eq_zero_iff.1 h0
  obtain⟨a,cap,rfl,_⟩:=ho.lst.len
  clear hF ho hK h0
  go_enter Tryz.func196,Tryz.ntmps196
  go_wp2_with fail
  refine(zgr a cap _ w).mono ?_
  rintro e w1 ⟨rfl,hb⟩
  have HB:Hid _:=hb
  clear hb hcall
  go_wp2
  go_ret
  exact⟨_,rfl,HO.out.below HB.out,HB.out.mono hs⟩
 ·obtain⟨g,cap,rfl⟩:=zp1 ho (by omega)
  have hr:Row w g 0 l:=by
   obtain⟨b',o',e',_,r'⟩:=ho.lst.row (by omega)
   cases e'
   exact r'
  have HR:Hid (Row w g 0 l):=hr
  generalize hn:l.length=n at*
  have HN:Hid (l.length=n):=hn
  clear hF ho hK hr hn
  go_enter Tryz.func196,Tryz.ntmps196
  go_wp2_with fail
  refine(zfi F caps g 0 n cap l _ _ w HN.out (by omega) hcall (zqz HF.out hs HR.out HK.out) (Below.refl _ _)).mono ?_
  intro e w1 hres
  have H1:Hid _:=hres
  clear hres
  rcases H1.out with⟨k,hk,hno,hyes,rfl,hI⟩|⟨hno,rfl,hI⟩
  ·have HD:Hid _:=qgb HO.out hs hI (by rw[HN.out];exact hk) hno hyes
   clear H1 hno hyes hI HO HR
   have hk1:((k:Int)== -1)=false:=beq_eq_false_iff_ne.2 (by omega)
   go_wp2
   go_loopw [5,6,7] (fun s5 s6 _ wr=>∃i j:Nat,∃L:List Ch,j≤n∧s5= .int .i64 i∧s6= .int .i64 j∧Hid (zgt base w (.slice (some ⟨g,0,none⟩) n cap) l p i j L wr)) (fun _ s6 _ _=>n-(intOf s6).toNat)
   case atStart=>exact⟨k,k+1,l,by omega,rfl,by go_num,HD⟩
   case round=>
    obtain⟨i,j,L,hj,rfl,rfl,HJ⟩:=hrel
    clear HD
    have hij:=HJ.out.le
    have hsz:base≤wr.heap.size:=by have:=HJ.out.below.size;omega
    by_cases hlt:j<n
    ·have hjl:j<l.length:=by rw[HN.out];exact hlt
     obtain⟨hjL,hLj⟩:=HJ.out.nth hjl
     obtain⟨b',o',e',_,r'⟩:=HJ.out.own.lst.row (by omega)
     cases e'
     obtain⟨h0,h1,h2,h3,h4,h5,h6⟩:=r'.at_ j hjL
     simp only[Nat.zero_add]at h0 h1 h2 h3 h4 h5 h6
     rw[hLj]at h0 h1 h2 h3 h4 h5 h6
     obtain⟨x,hx⟩:∃x,x=l[j]:=⟨_,rfl⟩
     rw[←hx]at h0 h1 h2 h3 h4 h5 h6
     have HX:Hid _:=hx
     clear r' hLj hjL hx
     go_wp2_with fail
     have HA:Hid (Below wr.heap.size wr (wr.alloc (.cells #[.int .u8 x.c,.int .i64 x.by_,.int .i64 x.no,.int .i64 x.k,.int .i64 x.inn,.int .i64 x.out,.int .i64 x.gone] 127))):=za1 _ _
     refine(HF.out.step x _ (HF.out.keep w _ HK.out (HJ.out.below.trans (HA.out.mono hsz)))).mono ?_
     rintro e w2 ⟨rfl,hb⟩
     have HB:Hid (Below wr.heap.size wr w2):=bla HA.out hb
     have HJ2:Hid _:=HJ.out.after hsz HB.out
     obtain⟨hc,_⟩:=zds hb
     have c0:w2.cell? ⟨wr.heap.size,0,none⟩=some (.int .u8 x.c):=by rw[hc _ _ (by simp)];simp[go_sem]
     have c1:w2.cell? ⟨wr.heap.size,1,none⟩=some (.int .i64 x.by_):=by rw[hc _ _ (by simp)];simp[go_sem]
     have c2:w2.cell? ⟨wr.heap.size,2,none⟩=some (.int .i64 x.no):=by rw[hc _ _ (by simp)];simp[go_sem]
     have c3:w2.cell? ⟨wr.heap.size,3,none⟩=some (.int .i64 x.k):=by rw[hc _ _ (by simp)];simp[go_sem]
     have c4:w2.cell? ⟨wr.heap.size,4,none⟩=some (.int .i64 x.inn):=by rw[hc _ _ (by simp)];simp[go_sem]
     have c5:w2.cell? ⟨wr.heap.size,5,none⟩=some (.int .i64 x.out):=by rw[hc _ _ (by simp)];simp[go_sem]
     have c6:w2.cell? ⟨wr.heap.size,6,none⟩=some (.int .i64 x.gone):=by rw[hc _ _ (by simp)];simp[go_sem]
     clear hc hb HA HB HJ h0 h1 h2 h3 h4 h5 h6 hcall
     cases hp:p x
     ·have HN2:Hid _:=HJ2.out.keep HN.out hjl (by rw[←HX.out];exact hp) x HX.out.symm
      have hin:(i:Int)<(n:Int):=by omega
      have hLn:L.length=n:=by rw[HJ2.out.len,HN.out]
      obtain⟨⟨u0,e0⟩,f0⟩:=zew HJ2.out.own hLn (j:=i*7) (by omega)
      obtain⟨⟨u1,e1⟩,f1⟩:=zew HJ2.out.own hLn (j:=i*7+1) (by omega)
      obtain⟨⟨u2,e2⟩,f2⟩:=zew HJ2.out.own hLn (j:=i*7+2) (by omega)
      obtain⟨⟨u3,e3⟩,f3⟩:=zew HJ2.out.own hLn (j:=i*7+3) (by omega)
      obtain⟨⟨u4,e4⟩,f4⟩:=zew HJ2.out.own hLn (j:=i*7+4) (by omega)
      obtain⟨⟨u5,e5⟩,f5⟩:=zew HJ2.out.own hLn (j:=i*7+5) (by omega)
      obtain⟨⟨u6,e6⟩,f6⟩:=zew HJ2.out.own hLn (j:=i*7+6) (by omega)
      obtain⟨xc,xb,xn,xk,xi,xo,xg⟩:=x
      simp only at c0 c1 c2 c3 c4 c5 c6 HN2
      clear hLn HX HJ2
      go_wp2
      go_roundw
      case rel=>exact⟨i+1,j+1,_,by omega,by go_num,by go_num,HN2⟩
      case measure=>simp[intOf];omega
     ·have HN2:Hid _:=HJ2.out.skip hjl (by rw[←HX.out];exact hp)
      clear c0 c1 c2 c3 c4 c5 c6 HX HJ2
      go_wp2
      go_roundw
      case rel=>exact⟨i,j+1,L,by omega,rfl,by go_num,HN2⟩
      case measure=>simp[intOf];omega
    ·obtain rfl:j=n:=by omega
     have HE:Hid _:=HJ.out.fin HN.out (Builtin.zeroCells zfj.cells (j-i)).toList
     have hcl:=zs4 HJ.out.own (by rw[HJ.out.len,HN.out]) hij
     have hcap:j≤cap:=by
      obtain⟨a',c',e',hc'⟩:=HJ.out.own.lst.len
      rw[HJ.out.len,HN.out]at e' hc'
      simp only[Value.slice.injEq]at e'
      omega
     have hne:¬cap=i:=by omega
     clear HJ hcall
     go_wp2
     go_ret
     exact⟨_,rfl,HE.out⟩
  ·have HI:Hid _:=hI
   have HE:Hid (l=l.filter fun x=> !p x):=del_none (by rw[HN.out];exact hno)
   clear H1 hno hI hcall
   go_wp2
   go_ret
   exact⟨_,rfl,by rw[←HE.out];exact HO.out.below HI.out,HI.out.mono hs⟩
theorem callOf1:∀args w,Sem.run Tryz.prog (callFunc 197 args) w= .ok (.enter 197 args) w:=fun _ _=>by kernel_rfl
theorem qej(least:Int)(B base:Nat)(hB:B<base):zt8 197 #[.pointer (some ⟨B,0,none⟩)] (ze7 least) base (NBox least B):=
 ⟨callOf1,fun x w h=>of1_any x least B w h.at_,fun _ _ h hb=>h.low hB hb⟩
theorem of_lst{w:World}{v:Value}{l:List Ch}(least:Int)(h:Lst w v l)(hl:l.length≤1000):
 Calls Tryz.prog 169 #[v,.int .i64 least] w fun e w'=>∃v',e= .returned v'∧Own w' w.heap.size v' (ofL least l)∧Below w.heap.size w w':=by
 have HL:Hid (Lst (w.alloc (.cells #[.int .i64 least] 3)) v l):=h.below (za1 _ _)
 have HB:Hid (Below w.heap.size w (w.alloc (.cells #[.int .i64 least] 3))):=za1 _ _
 have HN:Hid (NBox least w.heap.size (w.alloc (.cells #[.int .i64 least] 3))):=⟨by simp,by simp[go_sem]⟩
 have hmf:∀(fn:Fn) (first cap:Array Value) (w:World),(Instr.makeFunc fn first cap).run Tryz.prog w= .ok (.func fn first cap) w:=fun _ _ _ _=>rfl
 clear h
 go_enter Tryz.func169,Tryz.ntmps169
 go_wp2_with fail
 refine(zhw HL.out (by omega)).mono ?_
 rintro e w1 ⟨v1,rfl,ho,hb⟩
 have HO:Hid _:=ho
 have HN1:Hid (NBox least w.heap.size w1):=HN.out.low HN.out.lt hb
 have HB1:Hid (Below (w.heap.size+1) (w.alloc (.cells #[.int .i64 least] 3)) w1):=(show Below (w.heap.size+1) _ w1 by simpa using hb)
 have hs:(w.alloc (.cells #[.int .i64 least] 3)).heap.size≤w1.heap.size:=hb.size
 clear ho hb HN HL
 go_wp2_with fail
 refine(zka (qej least w.heap.size _ (by simp)) HO.out hs hl HN1.out).mono ?_
 rintro e w2 ⟨v2,rfl,ho,hb⟩
 have HO2:Hid (Own w2 w.heap.size v2 (ofL least l)):=ho.mono (by simp)
 have HB2:Hid (Below w.heap.size w w2):=(HB.out.trans (HB1.out.mono (by simp))).trans (hb.mono (by simp))
 clear ho hb hs HO HN1 HB HB1
 go_wp2
 go_ret
 exact⟨_,rfl,HO2.out,HB2.out⟩
end Go.Proofs.YtcbnnfeelhlapadGreatDoor