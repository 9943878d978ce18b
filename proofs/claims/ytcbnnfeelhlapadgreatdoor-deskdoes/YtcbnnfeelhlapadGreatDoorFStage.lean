/-
  A list of bytes as a value, empty or not: the contracts of Count, View, Behind and Check over it; the text of what one sees.
-/
import Derived.Test.YtcbnnfeelhlapadGreatDoorLawBehind
import Derived.Test.YtcbnnfeelhlapadGreatDoorFLists
import Derived.Lib.SliceRun
import Derived.Laws.AppendOwnNone
import Derived.Deep.Quiet
namespace Go.Proofs.YtcbnnfeelhlapadGreatDoor
set_option maxHeartbeats 800000
set_option maxRecDepth 20000
open Go.RowKit
def Lst(w:World)(v:Value)(l:List Ch):Prop:=
 ∃(a:Option Addr) (len cap:Nat),v= .slice a len cap∧l.length=len∧len≤cap∧(len=0∨∃b off,a=some ⟨b,off,none⟩∧Row w b off l)
theorem Lst.below{w w':World}{v:Value}{l:List Ch}(h:Lst w v l)(hb:Below w.heap.size w w'):Lst w' v l:=by
 obtain⟨a,len,cap,rfl,h1,h2,h3⟩:=h
 refine⟨a,len,cap,rfl,h1,h2,?_⟩
 rcases h3 with h3|⟨b,off,rfl,hr⟩
 ·exact .inl h3
 ·exact .inr ⟨b,off,rfl,hr.below hb⟩
theorem lst_nil(w:World):Lst w (.slice none 0 0) []:=⟨none,0,0,rfl,rfl,Nat.le_refl _,.inl rfl⟩
theorem qab(a:Option Addr)(cap:Nat)(seen by_:Int)(w:World):
 Calls Tryz.prog 139 #[.slice a 0 cap,.int .i64 seen,.int .i64 by_] w fun e w'=>e= .returned (.slice none 0 0)∧Below w.heap.size w w':=by
 go_enter Tryz.func139,Tryz.ntmps139
 go_wp2
 refine wp_loop_rounds 1 ?_
 rw[rounds_succ]
 go_wp2
 go_ret
 exact⟨rfl,Below.refl _ _⟩
theorem zy2(a:Option Addr)(cap:Nat)(log:Int)(w:World):
 Calls Tryz.prog 157 #[.slice a 0 cap,.int .i64 log] w fun e w'=>e= .returned (.int .i64 0)∧Below w.heap.size w w':=by
 go_enter Tryz.func157,Tryz.ntmps157
 go_wp2
 refine wp_loop_rounds 1 ?_
 rw[rounds_succ]
 go_wp2
 go_ret
 exact⟨rfl,Below.refl _ _⟩
theorem qgf{w:World}{v:Value}{l:List Ch}(h:Lst w v l)(hl:l.length≤1000)(seen by_:Int):
 Calls Tryz.prog 231 #[v,.int .i64 seen,.int .i64 by_] w fun e w'=>e= .returned (.int .i64 (cnt l seen by_))∧Below w.heap.size w w':=by
 obtain⟨a,len,cap,rfl,h1,h2,h3⟩:=h
 rcases h3 with rfl|⟨b,off,rfl,hr⟩
 ·obtain rfl:l=[]:=List.length_eq_zero_iff.1 h1
  exact zxy a cap seen by_ w
 ·exact qby b off len cap l seen by_ w h1 (by omega) hr
theorem qgi{w:World}{v:Value}{l:List Ch}(h:Lst w v l)(hl:l.length≤1000)(log:Int):
 Calls Tryz.prog 157 #[v,.int .i64 log] w fun e w'=>∃r,e= .returned (.int .i64 r)∧zl0 l log r∧Below w.heap.size w w':=by
 obtain⟨a,len,cap,rfl,h1,h2,h3⟩:=h
 rcases h3 with rfl|⟨b,off,rfl,hr⟩
 ·obtain rfl:l=[]:=List.length_eq_zero_iff.1 h1
  refine(zy2 a cap log w).mono ?_
  rintro e w' ⟨rfl,hb⟩
  exact⟨0,rfl,.inr ⟨by decide,.inr ⟨fun j hj=>absurd hj (Nat.not_lt_zero _),rfl⟩⟩,hb⟩
 ·exact qc2 b off len cap l log w h1 h2 (by omega) hr
theorem zrx(a b:List Int):strOfNums (a++b)=strOfNums a++strOfNums b:=by
 cases hs:strOfNums a++strOfNums b with
 |mk d=>
  have h1:d.toList=(strOfNums a).data.toList++(strOfNums b).data.toList:=by
   have:=congrArg (fun s:ByteArray=>s.data.toList) hs
   simpa using this.symm
  have h2:(strOfNums (a++b)).data.toList=d.toList:=by rw[h1,strOfNums_data,strOfNums_data,strOfNums_data,List.map_append]
  cases hd:strOfNums (a++b)with
  |mk d'=>
   rw[hd]at h2
   have:d'=d:=Array.toList_inj.1 h2
   rw[this]
theorem zbr(a:List Int):(strOfNums a).size=a.length:=by
 show(strOfNums a).data.size=a.length
 rw[←Array.length_toList,strOfNums_data,List.length_map]
end Go.Proofs.YtcbnnfeelhlapadGreatDoor
namespace Go.Proofs.YtcbnnfeelhlapadGreatDoor
set_option maxHeartbeats 800000
open Go.RowKit
def zch(x:Ch):List Value:=[.int .u8 x.c,.int .i64 x.by_,.int .i64 x.no,.int .i64 x.k,.int .i64 x.inn,.int .i64 x.out,.int .i64 x.gone]
def zaq:List Ch→List Value
 |[]=>[]
 |x::r=>zch x++zaq r
theorem zdd:∀l:List Ch,(zaq l).length=l.length*7
 |[]=>rfl
 |x::r=>by
  rw[zaq,List.length_append,zdd r,List.length_cons]
  show 7+_=_
  omega
theorem zfe:∀a b:List Ch,zaq (a++b)=zaq a++zaq b
 |[],b=>rfl
 |x::r,b=>by rw[List.cons_append,zaq,zfe r b,zaq,List.append_assoc]
theorem zk0:∀(l:List Ch) (u:Value),u∈zaq l→u.oneCell'=true
 |[],u,h=>by simp[zaq]at h
 |x::r,u,h=>by
  rw[zaq,List.mem_append]at h
  rcases h with h|h
  ·simp[zch]at h
   rcases h with rfl|rfl|rfl|rfl|rfl|rfl|rfl<;>rfl
  ·exact zk0 r u h
theorem zrh:∀(l:List Ch) (i r:Nat) (hi:i<l.length),r<7→(zaq l)[i*7+r]? =(zch l[i])[r]?
 |[],i,r,hi,_=>absurd hi (Nat.not_lt_zero _)
 |x::l,0,r,_,hr=>by
  rw[zaq,Nat.zero_mul,Nat.zero_add,List.getElem?_append_left (by exact hr)]
  rfl
 |x::l,i+1,r,hi,hr=>by
  rw[zaq,List.getElem?_append_right (by show 7≤_;omega)]
  show(zaq l)[(i+1)*7+r-7]? =_
  rw[show(i+1)*7+r-7=i*7+r by omega,zrh l i r (by simpa using hi) hr]
  rfl
theorem zdx(b off j:Nat):(⟨b,off,none⟩:Addr).add j=⟨b,off+j,none⟩:=by
 unfold Addr.add
 split<;>simp_all
theorem ztv{w:World}{b:Nat}:∀(l:List Ch) (off:Nat),(∀i (h:i<l.length),At w b (off+i*7) l[i])→∀j u,(zaq l)[j]? =some u→w.cell? ((⟨b,off,none⟩:Addr).add j)=some u
 |[],off,_,j,u,hu=>by simp[zaq]at hu
 |x::l,off,h,j,u,hu=>by
  rw[zdx]
  rw[zaq]at hu
  by_cases hj:j<7
  ·rw[List.getElem?_append_left (by exact hj)]at hu
   obtain⟨h0,h1,h2,h3,h4,h5,h6⟩:=h 0 (by simp)
   simp only[Nat.zero_mul,Nat.add_zero,List.getElem_cons_zero]at h0 h1 h2 h3 h4 h5 h6
   rcases(show j=0∨j=1∨j=2∨j=3∨j=4∨j=5∨j=6 by omega)with rfl|rfl|rfl|rfl|rfl|rfl|rfl<;>simp[zch]at hu<;>subst hu<;>assumption
  ·rw[List.getElem?_append_right (by show 7≤j;omega)]at hu
   have hu':(zaq l)[j-7]? =some u:=hu
   have:=ztv l (off+7) (fun i hi=>by
    have:=h (i+1) (by simpa using hi)
    rw[show off+(i+1)*7=off+7+i*7 by omega]at this
    exact this) (j-7) u hu'
   rw[zdx,show off+7+(j-7)=off+j by omega]at this
   exact this
def Own(w:World)(base:Nat)(v:Value)(l:List Ch):Prop:=w.ownsRow base 127 7 v l.length (zaq l)
theorem zd7(w:World)(base:Nat):Own w base (.slice none 0 0) []:=World.ownsRow_nil _ _ _ _
theorem own_row{w:World}{base g n cap:Nat}{l:List Ch}(hg:g<w.heap.size)(hn:l.length=n)(h:w.ownsRow base 127 7 (.slice (some ⟨g,0,none⟩) n cap) n (zaq l)):Row w g 0 l:=by
 refine⟨hg,fun i hi=> ?_⟩
 have key:∀r,r<7→w.cell? ⟨g,0+i*7+r,none⟩=(zch l[i])[r]? :=fun r hr=>by
  rw[Nat.zero_add,h.cellAt (i*7+r) (by omega),zrh l i r hi hr]
 have k0:=key 0 (by omega)
 have k1:=key 1 (by omega)
 have k2:=key 2 (by omega)
 have k3:=key 3 (by omega)
 have k4:=key 4 (by omega)
 have k5:=key 5 (by omega)
 have k6:=key 6 (by omega)
 exact⟨k0,k1,k2,k3,k4,k5,k6⟩
theorem Own.lst{w:World}{base:Nat}{v:Value}{l:List Ch}(h:Own w base v l):Lst w v l:=by
 have h':=h
 obtain⟨_,h2⟩:=h
 rcases h2 with⟨rfl,hn⟩|⟨g,cap,cur,rfl,hb,hg,hnc,_⟩
 ·obtain rfl:l=[]:=List.length_eq_zero_iff.1 hn
  exact lst_nil w
 ·exact⟨_,_,_,rfl,rfl,hnc,.inr ⟨g,0,rfl,own_row (Array.getElem?_eq_some_iff.1 hg).1 rfl h'⟩⟩
theorem Own.below{w w':World}{base:Nat}{v:Value}{l:List Ch}(h:Own w base v l)(hb:Below w.heap.size w w'):Own w' base v l:=zeh h hb
theorem Own.mono{w:World}{base base':Nat}{v:Value}{l:List Ch}(h:Own w base v l)(hb:base'≤base):Own w base' v l:=by
 obtain⟨h1,h2⟩:=h
 refine⟨h1,?_⟩
 rcases h2 with h2|⟨g,cap,cur,e,hg,r⟩
 ·exact .inl h2
 ·exact .inr ⟨g,cap,cur,e,Nat.le_trans hb hg,r⟩
structure zde(w:World)(B o:Nat)(d:Dd):Prop where
 lt:B<w.heap.size
 c0:w.cell? ⟨B,o,none⟩=some (.int .i64 d.kind)
 c1:w.cell? ⟨B,o+1,none⟩=some (.int .i64 d.by_)
 c2:w.cell? ⟨B,o+2,none⟩=some (.int .i64 d.no)
 c3:w.cell? ⟨B,o+3,none⟩=some (.int .i64 d.seen)
 c4:w.cell? ⟨B,o+4,none⟩=some (.int .i64 d.at_)
 c5:w.cell? ⟨B,o+5,none⟩=some (.int .i64 d.many)
 c6:w.cell? ⟨B,o+6,none⟩=some (.string d.text)
abbrev zcc(d:Dd):Obj:= .cells #[.int .i64 d.kind,.int .i64 d.by_,.int .i64 d.no,.int .i64 d.seen,.int .i64 d.at_,.int .i64 d.many,.string d.text] 124
theorem zb7(w:World)(d:Dd):zde (w.alloc (zcc d)) w.heap.size 0 d:=by
 refine⟨by simp,?_,?_,?_,?_,?_,?_,?_⟩<;>simp[go_sem]
theorem zde.below{w w':World}{B o:Nat}{d:Dd}(h:zde w B o d)(hb:Below w.heap.size w w'):zde w' B o d:=by
 obtain⟨hc,_⟩:=zds hb
 refine⟨by have:=hb.size;have:=h.lt;omega,?_,?_,?_,?_,?_,?_,?_⟩<;>rw[hc _ _ h.lt]
 ·exact h.c0
 ·exact h.c1
 ·exact h.c2
 ·exact h.c3
 ·exact h.c4
 ·exact h.c5
 ·exact h.c6
theorem Lst.len{w:World}{v:Value}{l:List Ch}(h:Lst w v l):∃a cap,v= .slice a l.length cap∧l.length≤cap:=by
 obtain⟨a,len,cap,rfl,rfl,h2,_⟩:=h
 exact⟨a,cap,rfl,h2⟩
theorem Row.drop'{w:World}{b off:Nat}{l:List Ch}(h:Row w b off l)(k:Nat):Row w b (off+k*7) (l.drop k):=
 ⟨h.lt,fun i hi=>by
  have hi':k+i<l.length:=by rw[List.length_drop]at hi;omega
  rw[List.getElem_drop]
  have:=h.at_ (k+i) hi'
  rw[show off+(k+i)*7=off+k*7+i*7 by rw[Nat.add_mul];omega]at this
  exact this⟩
def zg7(l:List Ch):Prop:=∀x∈l,-9223372036854775808≤x.gone∧x.gone≤9223372036854775807
end Go.Proofs.YtcbnnfeelhlapadGreatDoor
namespace Go.Proofs.YtcbnnfeelhlapadGreatDoor
set_option maxHeartbeats 800000
set_option maxRecDepth 20000
open Go.RowKit
abbrev zfj:Value:= .agg #[.int .u8 0,.int .i64 0,.int .i64 0,.int .i64 0,.int .i64 0,.int .i64 0,.int .i64 0]
theorem Tryz.infoChar:(Tryz.prog.info? 127).map (fun i=>(i.zero,i.size,i.bytes))=some (some zfj,7,56):=by kernel_rfl
theorem Lst.src{w:World}{v:Value}{l:List Ch}(h:Lst w v l):
 (∃cap,v= .slice none 0 cap∧l=[])∨∃ad cap,v= .slice (some ad) l.length cap∧l.length≤cap∧(∀j u,(zaq l)[j]? =some u→w.cell? (ad.add j)=some u):=by
 obtain⟨a,len,cap,rfl,rfl,h2,h3⟩:=h
 cases a with
 |none=>
  rcases h3 with h3|⟨b,off,h3,_⟩
  ·exact .inl ⟨cap,by rw[h3],List.length_eq_zero_iff.1 h3⟩
  ·cases h3
 |some ad=>
  refine .inr ⟨ad,cap,rfl,h2,?_⟩
  rcases h3 with h3|⟨b,off,h3,hr⟩
  ·obtain rfl:l=[]:=List.length_eq_zero_iff.1 h3
   intro j u hu
   simp[zaq]at hu
  ·cases h3
   exact ztv l off hr.at_
theorem zhw{w:World}{v:Value}{l:List Ch}(h:Lst w v l)(hl:l.length≤100000):
 Calls Tryz.prog 160 #[v] w fun e w'=>∃v',e= .returned v'∧Own w' w.heap.size v' l∧Below w.heap.size w w':=by
 obtain⟨i0,hi,hz0,hz1,hz2⟩:=info_parts Tryz.infoChar
 have q22:∀(w:World) (a:Option Addr) (n c n' c':Nat),(binOp .eql 91 (.slice a n c) (.slice none n' c')).run Tryz.prog w= .ok (.bool a.isNone) w:=fun w a n c n' c'=>Lib.run_eql_slice_nil w _ _ a n c n' c' Tryz.underlying91
 rcases h.src with⟨cap,rfl,rfl⟩|⟨ad,cap,rfl,hc,hs⟩
 ·go_enter Tryz.func160,Tryz.ntmps160
  go_wp2
  go_ret
  exact⟨_,rfl,zd7 _ _,Below.refl _ _⟩
 ·have HS:Hid (∀j u,(zaq l)[j]? =some u→w.cell? (ad.add j)=some u):=hs
  have HL:Hid _:=zdd l
  have HO:Hid _:=zk0 l
  clear hs h
  generalize hn:l.length=n at*
  go_enter Tryz.func160,Tryz.ntmps160
  go_wp2_with (at_builtin;refine wpList_append_own _ rfl (.tmp 5) (.tmp 6) 91 rfl w.heap.size 127 i0 zfj 7 56 Tryz.underlying91 hi hz0 hz1 hz2 rfl (by decide) _ _ _ rfl (World.ownsRow_made w #[] 0 (Nat.le_refl _) (Nat.zero_le _) rfl) ad n cap (zaq l) rfl ?c0 ?c1 ?c2 ?c3 ?c4 ?c5 ?_)
  case c0=>rw[HL.out]
  case c1=>
   intro j u hj
   exact Lib.cell?_alloc_some _ (HS.out j u hj)
  case c2=>exact HO.out
  case c3=>unfold maxLen;omega
  case c4=>omega
  case c5=>simp
  ·intro v' w1 hown hgrow _
   have HW:Hid _:=hown
   have HB:Hid (Below w.heap.size w w1):=((Below.refl _ w).alloc (Nat.le_refl _) _).grown hgrow (by simp) (by intro k hk;simp[Value.ownBlock]at hk;omega)
   clear hown hgrow
   go_wp2
   go_ret
   refine⟨v',rfl,?_,HB.out⟩
   have:=HW.out
   unfold Own
   rw[hn]
   exact this
theorem grow_nil(n:Nat)(hn:n≤100000)(w:World):
 Calls Tryz.prog 239 #[.slice none 0 0,.int .i64 n] w fun e w'=>∃v,e= .returned v∧Own w' w.heap.size v []∧Below w.heap.size w w':=by
 by_cases h0:n=0
 ·subst h0
  go_enter Tryz.func239,Tryz.ntmps239
  go_wp2
  go_ret
  exact⟨_,rfl,zd7 _ _,Below.refl _ _⟩
 ·have hp:0<n:=by omega
  have e56:Tryz.t127.bytes=56:=rfl
  have hx:¬281474976710656<Builtin.nextslicecap n 0*Tryz.t127.bytes:=by rw[e56,nextslicecap_zero hp];omega
  have hx7:¬n*7=0:=by omega
  have hx8:(n:Int)*(Tryz.t127.bytes:Int)≤281474976710656:=by rw[e56];omega
  have hx9:(n:Int)≤9223372036854775807:=by omega
  go_enter Tryz.func239,Tryz.ntmps239
  go_wp2
  go_ret
  have g1:=grownCap_ge w n 0 127
  have g2:=grownCap_le_maxLen w n 0 127 (by unfold maxLen;omega)
  unfold grownCap at g1 g2
  refine⟨_,rfl,⟨rfl,.inr ⟨w.heap.size,_,_,rfl,Nat.le_refl _,heap_alloc_new w _,Nat.zero_le _,g2,?_,by simp[zaq]⟩⟩,((Below.refl _ _).alloc (Nat.le_refl _) _).drew⟩
  rw[Array.size_append,size_zeroCells,size_zeroCells]
  show n*7+_*7=_*7
  rw[←Nat.add_mul]
  congr 1
  omega
structure zqe(w:World)(b:Nat)(va vb vc:Value)(a bl c:List Ch):Prop where
 lt:b<w.heap.size
 c0:w.cell? ⟨b,0,none⟩=some va
 c1:w.cell? ⟨b,1,none⟩=some vb
 c2:w.cell? ⟨b,2,none⟩=some vc
 la:Lst w va a
 lb:Lst w vb bl
 lc:Lst w vc c
theorem zqe.below{w w':World}{b:Nat}{va vb vc:Value}{a bl c:List Ch}(h:zqe w b va vb vc a bl c)(hb:Below w.heap.size w w'):zqe w' b va vb vc a bl c:=by
 obtain⟨hc,_⟩:=zds hb
 exact⟨by have:=hb.size;have:=h.lt;omega,by rw[hc _ _ h.lt];exact h.c0,by rw[hc _ _ h.lt];exact h.c1,by rw[hc _ _ h.lt];exact h.c2,h.la.below hb,h.lb.below hb,h.lc.below hb⟩
theorem zj2(w:World)(base:Nat)(t ty e:TypeId)(i:TypeInfo)(size c:Nat)(ht:Tryz.prog.underlying t=some (.slice e))(hi:Tryz.prog.info? e=some i)
 (v:Value) (n:Nat) (xs:List Value) (hown:w.ownsRow base e size v n xs):
 (Builtin.append_ #[t,t] ty #[v,.slice none 0 c]).run Tryz.prog w= .ok v w:=by
 rcases hown.2 with⟨rfl,rfl⟩|⟨g,cap,cur,rfl,_,_,hnc,_⟩
 ·simp[Builtin.append_,run_underlying ht,sizeOf,typeInfo,hi,Builtin.lenOf,Builtin.firstCells]
 ·simp[Builtin.append_,run_underlying ht,sizeOf,typeInfo,hi,Builtin.lenOf,Builtin.firstCells,hnc,storeCells]
theorem zr7(w:World)(row:Option Nat):w.grownBy w row:=⟨rfl,rfl,rfl,Nat.le_refl _,fun _ _ _=>rfl⟩
theorem zbe{ops:Array Oper}{rest:List Oper}{o:Oper}{act:Act}{Q:Exit→Act→World→Prop}(w:World)(hgd:o.guard=none)(s x:Operand)
 (ho:o.op= .call {callee:= .builtin .append,args:= #[s,x],argTypes:= #[91,91]}) (base:Nat) {v u:Value} {a b:List Ch} (hs:act.eval s=v) (hx:act.eval x=u) (hv:Own w base v a) (hu:Lst w u b) (hl:a.length+b.length≤100000) (hbase:base≤w.heap.size)
 (h:∀v' w',Own w' base v' (a++b)→w.grownBy w' v.ownBlock→wpList Tryz.prog ops Q rest (act.put o.dst v') w'):wpList Tryz.prog ops Q (o::rest) act w:=by
 obtain⟨i0,hi,hz0,hz1,hz2⟩:=info_parts Tryz.infoChar
 rcases hu.src with⟨cap,rfl,rfl⟩|⟨ad,cap,rfl,hc,hsrc⟩
 ·refine wpList_plain hgd fun K hK=> ?_
  have hrun:=zj2 w base 91 o.type 127 i0 7 cap Tryz.underlying91 hi v a.length (zaq a) hv
  have hh:=h v w (by rw[List.append_nil];exact hv) (zr7 w _)
  unfold Oper.wp
  simp[execOp,ho,resolve,invoke,builtin,hs,hx,hrun,Result.andThen]
  exact hK _ _ hh
 ·refine wpList_append_own w hgd s x 91 ho base 127 i0 zfj 7 56 Tryz.underlying91 hi hz0 hz1 hz2 rfl (by decide) v a.length (zaq a) hs hv ad b.length cap (zaq b) hx (zdd b) hsrc (zk0 b) (by unfold maxLen;omega) (by omega) hbase ?_
  intro v' w' ho hg _
  refine h v' w' ?_ hg
  unfold Own
  rw[List.length_append,zfe]
  exact ho
def sum3(a b c:List Ch):Nat→Nat
 | 0=>0
 | 1=>a.length
 | 2=>a.length+b.length
 |_=>a.length+b.length+c.length
def cat3(a b c:List Ch):Nat→List Ch
 | 0=>[]
 | 1=>a
 | 2=>a++b
 |_=>a++b++c
theorem zqe.nth{w:World}{g:Nat}{va vb vc:Value}{a b c:List Ch}(h:zqe w g va vb vc a b c){k:Nat}(hk:k<3):
 ∃v l,w.cell? ⟨g,k,none⟩=some v∧Lst w v l∧sum3 a b c (k+1)=sum3 a b c k+l.length∧cat3 a b c (k+1)=cat3 a b c k++l:=by
 rcases(show k=0∨k=1∨k=2 by omega)with rfl|rfl|rfl
 ·exact⟨va,a,h.c0,h.la,by simp[sum3],by simp[cat3]⟩
 ·exact⟨vb,b,h.c1,h.lb,rfl,rfl⟩
 ·exact⟨vc,c,h.c2,h.lc,rfl,rfl⟩
theorem sum3_le(a b c:List Ch)(k:Nat):sum3 a b c k≤a.length+b.length+c.length:=by
 unfold sum3
 split<;>omega
theorem cat3_len(a b c:List Ch)(k:Nat):(cat3 a b c k).length=sum3 a b c k:=by
 unfold cat3 sum3
 split<;>simp[Nat.add_assoc]
theorem zjh(g:Nat)(va vb vc:Value)(a b c:List Ch)(w:World)(h:zqe w g va vb vc a b c)(hl:a.length+b.length+c.length≤100000):
 Calls Tryz.prog 233 #[.slice (some ⟨g,0,none⟩) 3 3] w fun e w'=>∃v,e= .returned v∧Own w' w.heap.size v (a++b++c)∧Below w.heap.size w w':=by
 have HT:Hid _:=h
 have hg:=h.lt
 have HS:Hid _:=sum3_le a b c
 have HC:Hid _:=cat3_len a b c
 clear h
 go_enter Tryz.func233,Tryz.ntmps233
 go_wp2
 go_loop [3,11] (fun n i=>∃k:Nat,k≤3∧i= .int .i64 k∧n= .int .i64 (sum3 a b c k)) (fun _ i=>3-(intOf i).toNat)
 case atStart=>exact⟨0,by omega,rfl,rfl⟩
 case round=>
  obtain⟨k,hk,rfl,rfl⟩:=hrel
  by_cases hlt:k<3
  ·obtain⟨v,l,hv,hL,hs,_⟩:=HT.out.nth hlt
   have h1:=HS.out k
   have h2:=HS.out (k+1)
   have HN:Hid _:=hs
   obtain⟨ad,cap,rfl,_⟩:=hL.len
   generalize sum3 a b c k=n at*
   generalize l.length=m at*
   clear hL
   rw[hs]at h2
   clear hs
   go_wp2
   go_round
   case rel=>exact⟨k+1,by omega,by go_num,by rw[HN.out];go_num⟩
   case measure=>simp[intOf];omega
  ·obtain rfl:k=3:=by omega
   have h3:=HS.out 3
   generalize hn:sum3 a b c 3=n at*
   go_wp2_with fail
   refine(grow_nil n (by omega) _).mono ?_
   rintro e w1 ⟨v0,rfl,hown,hb⟩
   have HO:Hid _:=hown
   have HB:Hid _:=hb
   clear hown hb
   go_wp2
   go_loopw [6,27] (fun v i wr=>∃k:Nat,k≤3∧i= .int .i64 k∧Hid (Own wr w.heap.size v (cat3 a b c k))∧Hid (Below w.heap.size w wr)) (fun _ i _=>3-(intOf i).toNat)
   case atStart=>exact⟨0,by omega,rfl,HO,HB⟩
   case round=>
    obtain⟨k,hk,rfl,HOk,HBk⟩:=hrel
    by_cases hlt:k<3
    ·obtain⟨u,l,hu,hL,hs,hcat⟩:=(HT.out.below HBk.out).nth hlt
     have h1:=HS.out (k+1)
     have hck:=HC.out k
     have HN:Hid _:=hcat
     have HL:Hid _:=hL
     obtain⟨ad,cap,rfl,_⟩:=hL.len
     clear hL hcat
     rw[hs]at h1
     go_wp2_with (at_builtin;refine zbe _ rfl (.tmp 31) (.tmp 32) rfl w.heap.size rfl rfl HOk.out HL.out ?c0 ?c1 ?_)
     case c0=>rw[hck];omega
     case c1=>exact HBk.out.size
     ·intro v' w2 hown' hgrow
      have HO2:Hid (Own w2 w.heap.size v' (cat3 a b c (k+1))):=by show Own _ _ _ _;rw[HN.out];exact hown'
      have HB2:Hid (Below w.heap.size w w2):=HBk.out.grown hgrow HBk.out.size (fun j hj=>(World.ownsRow.lt HOk.out j hj).1)
      clear hown' hgrow
      go_wp2
      go_roundw
      case rel=>exact⟨k+1,by omega,by go_num,HO2,HB2⟩
      case measure=>simp[intOf];omega
    ·obtain rfl:k=3:=by omega
     go_wp2
     go_ret
     exact⟨_,rfl,HOk.out,HBk.out⟩
end Go.Proofs.YtcbnnfeelhlapadGreatDoor
namespace Go.Proofs.YtcbnnfeelhlapadGreatDoor
set_option maxHeartbeats 800000
open Go
section
variable {P:Program} {ops:Array Oper} {md:Region.Mode} {U:World→Prop} {sp:Nat→Bool}
def zb5(P:Program)(D':Value→World→Prop):Result Next→Prop
 | .ok (.value u) w'=>D' u w'
 | .ok .skip w'=>D' undef w'
 | .ok (.enter f args) w'=>Calls P f args w' (fun e w''=>∃v,e= .returned v∧D' v w'')
 |_=>False
def ze9(P:Program)(U:World→Prop)(o:Oper)(a:Act)(v:Value):Prop:=∀w,U w→(execOp a.eval o).run P w= .ok (.value v) w
def zfz(P:Program)(U:World→Prop)(o:Oper)(a:Act)(D:World→Prop)(p:Value→Prop)(D':Value→World→Prop):Prop:=
 (∃v,p v)∧(∀v w,D' v w→U w)∧∀w,D w→zb5 P (fun v w'=>p v∧D' v w') ((execOp a.eval o).run P w)
def zbt(P:Program)(U:World→Prop)(s:Bool)(o:Oper)(a:Act)(D:World→Prop)(K:Act→(World→Prop)→Prop):Prop:=
 if s=true then∃p D',zfz P U o a D p D'∧∀v,p v→K (a.put o.dst v) (D' v)
 else∃v,ze9 P U o a v∧K (a.put o.dst v) D
def zd6(P:Program)(ops:Array Oper)(U:World→Prop)(sp:Nat→Bool)(Q:Act→World→Prop):List Oper→Nat→Act→(World→Prop)→Prop
 |[],_,a,D=>∀w,D w→Q a w
 |o::rest,k,a,D=>if Region.wanted o (yielded ops a.tmps)=true then zbt P U (sp k) o a D (zd6 P ops U sp Q rest (k+1))else zd6 P ops U sp Q rest (k+1) (a.put o.dst undef) D
def zea(P:Program)(ops:Array Oper)(U:World→Prop)(sp:Nat→Bool)(i:Nat)(K:Act→(World→Prop)→Prop)(a:Act)(D:World→Prop):Prop:=
 match ops[i]? with
 |none=>K a D
 |some o=>if Region.wanted o (yielded ops a.tmps)=true then zbt P U (sp i) o a D K else K (a.put o.dst undef) D
theorem zq0{s:Bool}{o:Oper}{a:Act}{D:World→Prop}{K K':Act→(World→Prop)→Prop}(h:∀a D,K a D→K' a D)(hh:zbt P U s o a D K):zbt P U s o a D K':=by
 unfold zbt at*
 cases s
 ·obtain⟨v,h1,h2⟩:=hh
  exact⟨v,h1,h _ _ h2⟩
 ·obtain⟨p,D',h1,h2⟩:=hh
  exact⟨p,D',h1,fun v hv=>h _ _ (h2 v hv)⟩
theorem zts{i:Nat}{a:Act}{D:World→Prop}{K K':Act→(World→Prop)→Prop}(h:∀a D,K a D→K' a D)(hh:zea P ops U sp i K a D):zea P ops U sp i K' a D:=by
 unfold zea at*
 cases ho:ops[i]? with
 |none=>rw[ho]at hh;exact h _ _ hh
 |some o=>
  rw[ho]at hh
  show if _ then _ else _
  have hh':if Region.wanted o (yielded ops a.tmps)=true then zbt P U (sp i) o a D K else K (a.put o.dst undef) D:=hh
  by_cases hw:Region.wanted o (yielded ops a.tmps)=true
  ·rw[if_pos hw]at hh'⊢;exact zq0 h hh'
  ·rw[if_neg hw]at hh'⊢;exact h _ _ hh'
def zio(P:Program)(md:Region.Mode)(ops:Array Oper)(U:World→Prop)(sp:Nat→Bool)(Q:Act→World→Prop):Nat→Array Bool→Act→(World→Prop)→Prop
 | 0,listed,a,D=>Region.ready md ops listed=[]∧∀w,D w→Q a w
 |fuel+1,listed,a,D=>
  (Region.ready md ops listed=[]→∀w,D w→Q a w)∧
  ∀i∈Region.ready md ops listed,zea P ops U sp i (zio P md ops U sp Q fuel (listed.setIfInBounds i true)) a D
theorem qa5{s:Bool}{o:Oper}{a:Act}{D:World→Prop}{K:Act→(World→Prop)→Prop}{K':Act→World→Prop}{Q':Exit→Act→World→Prop}{w:World}(hDU:∀w,D w→U w)(hw:D w)
 (h:∀a (D':World→Prop) w',(∀w,D' w→U w)→D' w'→K a D'→K' a w') (hh:zbt P U s o a D K):o.wp P a w K' Q':=by
 unfold zbt at hh
 unfold Oper.wp
 cases s
 ·obtain⟨v,h1,h2⟩:=hh
  rw[h1 w (hDU w hw)]
  exact h _ D _ hDU hw h2
 ·obtain⟨p,D',⟨_,hU,h1⟩,h2⟩:=hh
  have h3:=h1 w hw
  generalize (execOp a.eval o).run P w=r at*
  cases r with
  |ok n w'=>
   cases n<;>simp only[zb5]at h3<;>simp only[Oper.upon]
   case value u=>exact h _ (D' u) _ (hU u) h3.2 (h2 u h3.1)
   case skip=>exact h _ (D' undef) _ (hU undef) h3.2 (h2 undef h3.1)
   case enter f args=>
    exact h3.mono fun e w'' ⟨v,he,hp,hd⟩=>by subst he;exact h _ (D' v) _ (hU v) hd (h2 v hp)
  |halt x w'=>simp only[zb5]at h3
theorem zfg{Q:Act→World→Prop}{Q':Exit→Act→World→Prop}(hQ:∀a w,Q a w→Q' .normal a w):∀(fuel:Nat) (listed:Array Bool) (a:Act) (D:World→Prop) (w:World),(∀w,D w→U w)→D w→
 zio P md ops U sp Q fuel listed a D→wpAny P md ops Q' fuel listed a w
 | 0,_,_,_,_,_,hw,h=>⟨h.1,hQ _ _ (h.2 _ hw)⟩
 |fuel+1,listed,a,D,w,hU,hw,h=>⟨fun h0=>hQ _ _ (h.1 h0 _ hw),fun i hi=>by
  have h1:=h.2 i hi
  unfold zea at h1
  unfold wpOp
  cases ho:ops[i]? with
  |none=>rw[ho]at h1;exact zfg hQ fuel _ _ D _ hU hw h1
  |some o=>
   rw[ho]at h1
   have h2:if Region.wanted o (yielded ops a.tmps)=true then zbt P U (sp i) o a D (zio P md ops U sp Q fuel (listed.setIfInBounds i true))else zio P md ops U sp Q fuel (listed.setIfInBounds i true) (a.put o.dst undef) D:=h1
   show if _ then _ else _
   by_cases hwt:Region.wanted o (yielded ops a.tmps)=true
   ·rw[if_pos hwt]at h2⊢
    exact .inl (qa5 hU hw (fun a' D' w' hU' hd hk=>zfg hQ fuel _ a' D' w' hU' hd hk) h2)
   ·rw[if_neg hwt]at h2⊢
    exact zfg hQ fuel _ _ D _ hU hw h2⟩
def zd3(P:Program)(ops:Array Oper)(U:World→Prop)(s:Bool)(o:Oper)(v:Value)(a:Act):Prop:=
 (s=false∧Region.wanted o (yielded ops a.tmps)=true∧ze9 P U o a v)∨(Region.wanted o (yielded ops a.tmps)=false∧v=undef)
theorem zd3.put{s:Bool}{o:Oper}{v:Value}{a:Act}{dst:Option Tmp}{u:Value}(hs:∀cs b,o.op≠ .select cs b)(h3:∀d,dst=some d→d∉o.looksAt ops)(h:zd3 P ops U s o v a):zd3 P ops U s o v (a.put dst u):=by
 unfold zd3 ze9 at*
 rw[execOp_put o hs a dst u h3,wanted_put o a dst u h3]
 exact h
theorem zwb{s:Bool}{j:Nat}{oi oj:Oper}{v:Value}(hj:ops[j]? =some oj)(hap:oi.apart ops oj=true)
 (hsi:∀cs b,oi.op≠ .select cs b) (hsj:∀cs b,oj.op≠ .select cs b) {K:Act→(World→Prop)→Prop} {a:Act} {D:World→Prop}
 (hy:zd3 P ops U s oi v a) (h:zea P ops U sp j K (a.put oi.dst v) D):
 zea P ops U sp j (fun a' D'=>zd3 P ops U s oi v a'∧K (a'.put oi.dst v) D') a D:=by
 obtain⟨h1,h2,h3⟩:=Oper.apart_spec hap
 unfold zea at*
 simp only[hj]at*
 rw[wanted_put oj a oi.dst v h1]at h
 by_cases hw:Region.wanted oj (yielded ops a.tmps)=true
 ·rw[if_pos hw]at h⊢
  unfold zbt ze9 zfz at*
  rw[execOp_put oj hsj a oi.dst v h1]at h
  cases hs:sp j
  ·rw[hs]at h
   obtain⟨u,hu,hn⟩:=h
   exact⟨u,hu,hy.put hsi h3,by rw[←Act.put_comm a v u h2];exact hn⟩
  ·rw[hs]at h
   obtain⟨p,D',hu,hn⟩:=h
   exact⟨p,D',hu,fun u hp=>⟨hy.put hsi h3,by rw[←Act.put_comm a v u h2];exact hn u hp⟩⟩
 ·rw[if_neg hw]at h⊢
  exact⟨hy.put hsi h3,by rw[←Act.put_comm a v undef h2];exact h⟩
theorem zgn{i:Nat}{oj:Oper}{listed:Array Bool}(hr:i∈Region.ready md ops listed)(hall:∀e∈oj.after,Region.binds md e=true→listed.getD e.on false=true):
 ∀e∈oj.after,Region.binds md e=true→e.on≠i:=fun e he hb heq=>by
 have h1:=hall e he hb
 have h0:=(mem_ready.1 hr).1
 rw[heq]at h1
 rcases Nat.lt_or_ge i listed.size with h'|h'
 ·simp[h']at h0 h1;rw[h0]at h1;cases h1
 ·simp[Array.getElem?_eq_none h']at h1
abbrev zhb(md:Region.Mode)(ops:Array Oper)(oi:Oper)(i:Nat)(listed:Array Bool):Prop:=
 ∀j oj,ops[j]? =some oj→j≠i→listed.getD j true=false→(∀e∈oj.after,Region.binds md e=true→e.on≠i)→oi.apart ops oj=true
theorem zhb.later{oi:Oper}{i j:Nat}{listed:Array Bool}(h:zhb md ops oi i listed)(hjun:listed.getD j true=false):zhb md ops oi i (listed.setIfInBounds j true):=by
 intro k ok hk hki hun hno
 refine h k ok hk hki ?_ hno
 by_cases hjk:j=k
 ·subst hjk;exact hjun
 ·rw[getD_set_ne true hjk]at hun;exact hun
theorem zpe{s:Bool}{Q:Act→World→Prop}{i:Nat}{oi:Oper}{v:Value}(hi:ops[i]? =some oi)(hsel:∀(j:Nat) (o:Oper) cs b,ops[j]? =some o→o.op≠ .select cs b)
 (hown:∀{K:Act→(World→Prop)→Prop} {a:Act} {D:World→Prop},zd3 P ops U s oi v a→K (a.put oi.dst v) D→zea P ops U sp i K a D):
 ∀(fuel:Nat) (listed:Array Bool) (a:Act) (D:World→Prop),zhb md ops oi i listed→i∈Region.ready md ops listed→zd3 P ops U s oi v a→
  zio P md ops U sp Q fuel (listed.setIfInBounds i true) (a.put oi.dst v) D→zio P md ops U sp Q (fuel+1) listed a D:=by
 intro fuel
 induction fuel with
 |zero=>
  intro listed a D _ hr hy H
  refine⟨fun h=>(by rw[h]at hr;cases hr),fun j hj=> ?_⟩
  by_cases hji:j=i
  ·subst hji;exact hown hy H
  ·have:=ready_mono hj hji
   rw[H.1]at this
   cases this
 |succ fuel ih=>
  intro listed a D hfree hr hy H
  refine⟨fun h=>(by rw[h]at hr;cases hr),fun j hj=> ?_⟩
  by_cases hji:j=i
  ·subst hji;exact hown hy H
  ·have h1:=H.2 j (ready_mono hj hji)
   obtain⟨hjun,oj,hoj,hall⟩:=mem_ready.1 hj
   have h2:=zwb hoj (hfree j oj hoj hji hjun (zgn hr hall)) (fun cs b=>hsel i oi cs b hi) (fun cs b=>hsel j oj cs b hoj) hy h1
   refine zts (fun a' D' h3=>ih (listed.setIfInBounds j true) a' D' (hfree.later hjun) (ready_mono hr (Ne.symm hji)) h3.1 ?_) h2
   rw[Array.setIfInBounds_comm _ _ hji]
   exact h3.2
def zvw(md:Region.Mode)(ops:Array Oper)(sp:Nat→Bool)(i:Nat)(listed:Array Bool):Prop:=
 ∀j oj,sp j=true→j≠i→ops[j]? =some oj→listed.getD j true=false→∃e∈oj.after,Region.binds md e=true∧sp e.on=true∧listed.getD e.on false=false
theorem zvw.not_ready{i j:Nat}{listed:Array Bool}(h:zvw md ops sp i listed)(hj:j∈Region.ready md ops listed)(hji:j≠i):sp j=false:=by
 obtain⟨hun,oj,hoj,hall⟩:=mem_ready.1 hj
 cases hs:sp j
 ·rfl
 ·obtain⟨e,he,hb,_,hl⟩:=h j oj hs hji hoj hun
  rw[hall e he hb]at hl
  cases hl
theorem zvw.later{i j:Nat}{listed:Array Bool}(h:zvw md ops sp i listed)(hs:sp j=false):zvw md ops sp i (listed.setIfInBounds j true):=by
 intro k ok hk hki hok hun
 have hjk:j≠k:=fun e=>by rw[e,hk]at hs;cases hs
 rw[getD_set_ne true hjk]at hun
 obtain⟨e,he,hb,hse,hl⟩:=h k ok hk hki hok hun
 have hje:j≠e.on:=fun e'=>by rw[e',hse]at hs;cases hs
 exact⟨e,he,hb,hse,by rw[getD_set_ne false hje];exact hl⟩
theorem zxo{Q:Act→World→Prop}{i:Nat}{oi:Oper}{p:Value→Prop}{D':Value→World→Prop}{w0:World}(hw0:U w0)(hi:ops[i]? =some oi)(hsi:sp i=true)(hsel:∀(j:Nat) (o:Oper) cs b,ops[j]? =some o→o.op≠ .select cs b):
 ∀(fuel:Nat) (listed:Array Bool) (a:Act) (D:World→Prop),zhb md ops oi i listed→zvw md ops sp i listed→i∈Region.ready md ops listed→Region.wanted oi (yielded ops a.tmps)=true→zfz P U oi a D p D'→
  (∀v,p v→zio P md ops U sp Q fuel (listed.setIfInBounds i true) (a.put oi.dst v) (D' v))→zio P md ops U sp Q (fuel+1) listed a D:=by
 intro fuel
 induction fuel with
 |zero=>
  intro listed a D _ _ hr hw hy H
  refine⟨fun h=>(by rw[h]at hr;cases hr),fun j hj=> ?_⟩
  by_cases hji:j=i
  ·subst hji
   unfold zea
   simp only[hi,if_pos hw]
   unfold zbt
   rw[if_pos hsi]
   exact⟨p,D',hy,H⟩
  ·obtain⟨v0,hv0⟩:=hy.1
   have:=ready_mono hj hji
   rw[(H v0 hv0).1]at this
   cases this
 |succ fuel ih=>
  intro listed a D hfree hal hr hw hy H
  refine⟨fun h=>(by rw[h]at hr;cases hr),fun j hj=> ?_⟩
  by_cases hji:j=i
  ·subst hji
   unfold zea
   simp only[hi,if_pos hw]
   unfold zbt
   rw[if_pos hsi]
   exact⟨p,D',hy,H⟩
  ·obtain⟨hjun,oj,hoj,hall⟩:=mem_ready.1 hj
   have hsj:=hal.not_ready hj hji
   have hap:=hfree j oj hoj hji hjun (zgn hr hall)
   obtain⟨h1,h2,h3⟩:=Oper.apart_spec hap
   have seli:=fun cs b=>hsel i oi cs b hi
   have selj:=fun cs b=>hsel j oj cs b hoj
   have hw':∀u,Region.wanted oi (yielded ops (a.put oj.dst u).tmps)=true:=fun u=>by rw[wanted_put oi a oj.dst u h3];exact hw
   have hy':∀u,zfz P U oi (a.put oj.dst u) D p D':=fun u=>by unfold zfz at *; rw[execOp_put oi seli a oj.dst u h3];exact hy
   have hop:∀v,p v→zea P ops U sp j (zio P md ops U sp Q fuel ((listed.setIfInBounds i true).setIfInBounds j true)) (a.put oi.dst v) (D' v):=fun v hv=>(H v hv).2 j (ready_mono hj hji)
   unfold zea at hop⊢
   simp only[hoj]at hop⊢
   by_cases hwj:Region.wanted oj (yielded ops a.tmps)=true
   ·rw[if_pos hwj]
    unfold zbt
    rw[if_neg (by simp[hsj])]
    have hst:∀v,p v→∃u,ze9 P U oj a u∧zio P md ops U sp Q fuel ((listed.setIfInBounds i true).setIfInBounds j true) ((a.put oi.dst v).put oj.dst u) (D' v):=fun v hv=>by
     have h4:=hop v hv
     rw[wanted_put oj a oi.dst v h1,if_pos hwj]at h4
     unfold zbt at h4
     rw[if_neg (by simp[hsj])]at h4
     obtain⟨u,hu,hk⟩:=h4
     refine⟨u,?_,hk⟩
     unfold ze9 at hu⊢
     rw[execOp_put oj selj a oi.dst v h1]at hu
     exact hu
    obtain⟨v0,hv0⟩:=hy.1
    obtain⟨u,hu,_⟩:=hst v0 hv0
    refine⟨u,hu,ih (listed.setIfInBounds j true) _ D (hfree.later hjun) (hal.later hsj) (ready_mono hr (Ne.symm hji)) (hw' u) (hy' u) (fun v hv=> ?_)⟩
    obtain⟨u',hu',hk⟩:=hst v hv
    have e:u'=u:=by
     have e1:=hu' w0 hw0
     rw[hu w0 hw0]at e1
     simp at e1
     exact e1.symm
    subst e
    rw[←Act.put_comm a v u' h2,Array.setIfInBounds_comm _ _ hji]
    exact hk
   ·rw[if_neg hwj]
    refine ih (listed.setIfInBounds j true) _ D (hfree.later hjun) (hal.later hsj) (ready_mono hr (Ne.symm hji)) (hw' undef) (hy' undef) (fun v hv=> ?_)
    have h4:=hop v hv
    rw[wanted_put oj a oi.dst v h1,if_neg hwj]at h4
    rw[←Act.put_comm a v undef h2,Array.setIfInBounds_comm _ _ hji]
    exact h4
def zpn(md:Region.Mode)(ops:Array Oper)(sp:Nat→Bool):Bool:=
 (List.range ops.size).all fun j=> !sp j||(List.range j).all (fun i=> !sp i)||
  match ops[j]? with
  |some oj=>oj.after.any fun e=>Region.binds md e&&sp e.on&&decide (e.on<j)&&(List.range ops.size).all fun i=> !sp i||decide (i≤e.on)||decide (j≤i)
  |none=>true
theorem zre(h:zpn md ops sp=true){i:Nat}{listed:Array Bool}(hi:sp i=true)(hlow:∀j,j<i→listed.getD j false=true)(hhigh':∀j,i≤j→j<ops.size→listed.getD j false=false):zvw md ops sp i listed:=by
 intro j oj hs hji hoj hun
 have hjs:j<ops.size:=(Array.getElem?_eq_some_iff.1 hoj).1
 unfold zpn at h
 rw[List.all_eq_true]at h
 have h1:=h j (List.mem_range.2 hjs)
 simp only[hs,hoj,Bool.not_true,Bool.false_or,Bool.or_eq_true,List.all_eq_true,List.mem_range,Bool.not_eq_true']at h1
 by_cases hlt:j<i
 ·have h2:=hlow j hlt
  rcases Nat.lt_or_ge j listed.size with h'|h'
  ·simp[h']at h2 hun;rw[h2]at hun;cases hun
  ·simp[Array.getElem?_eq_none h']at h2
 ·have hij:i<j:=by omega
  rcases h1 with h1|h1
  ·have:=h1 i hij
   rw[hi]at this;cases this
  ·obtain⟨e,he,hb⟩:=Array.any_eq_true'.1 h1
   simp only[Bool.and_eq_true,decide_eq_true_eq,List.all_eq_true,List.mem_range,Bool.or_eq_true,Bool.not_eq_true']at hb
   obtain⟨⟨⟨hb1,hb2⟩,hb3⟩,hb4⟩:=hb
   have hie:i≤e.on:=by
    rcases hb4 i (by omega)with(h5|h5)|h5
    ·rw[hi]at h5;cases h5
    ·exact h5
    ·omega
   exact⟨e,he,hb1,hb2,hhigh' e.on hie (by omega)⟩
def upto(n k:Nat):Array Bool:=(List.range n).map (fun j=>decide (j<k)) |>.toArray
theorem zm0{n k j:Nat}(h:j<n)(d:Bool):(upto n k).getD j d=decide (j<k):=by
 simp[upto,h]
theorem zfm{n k:Nat}:(upto n k).setIfInBounds k true=upto n (k+1):=by
 apply Array.ext
 ·simp[upto]
 ·intro j h1 h2
  have h3:j<n:=by simpa [upto]using h2
  rw[Array.getElem_setIfInBounds (by simpa [upto]using h3)]
  by_cases hj:k=j
  ·simp[hj,upto]
  ·rw[if_neg hj]
   simp[upto]
   omega
theorem zda{n:Nat}:upto n 0=Array.replicate n false:=by
 apply Array.ext
 ·simp[upto]
 ·intro j h1 h2
  simp[upto]
theorem zqh{Q:Act→World→Prop}{w0:World}(hw0:U w0)(hs:Region.noSelect ops=true)(hc:zpn md ops sp=true):∀(l:List Oper) (k:Nat) (a:Act) (D:World→Prop),(∀j,l[j]? =ops[k+j]?)→k+l.length=ops.size→
 Region.lexFrom md ops l.length k (upto ops.size k)=true→zd6 P ops U sp Q l k a D→zio P md ops U sp Q l.length (upto ops.size k) a D
 |[],_,_,_,_,_,hB,h=>⟨by simpa [Region.lexFrom]using hB,h⟩
 |o::l,k,a,D,hl,hsz,hB,h=>by
  have h0:ops[k]? =some o:=by simpa using(hl 0).symm
  simp only[List.length_cons,Region.lexFrom,Bool.and_eq_true]at hB
  obtain⟨⟨hr,hf⟩,hB'⟩:=hB
  rw[zfm]at hB'
  have hr':k∈Region.ready md ops (upto ops.size k):=by simpa using hr
  have hfree:zhb md ops o k (upto ops.size k):=Region.free_spec h0 hf
  have next:∀a' D',zd6 P ops U sp Q l (k+1) a' D'→zio P md ops U sp Q l.length ((upto ops.size k).setIfInBounds k true) a' D':=fun a' D' hh=>by
   rw[zfm]
   exact zqh hw0 hs hc l (k+1) a' D' (fun j=>by have:=hl (j+1);simpa [Nat.add_assoc,Nat.add_comm 1 j]using this) (by simp at hsz;omega) hB' hh
  have h':if Region.wanted o (yielded ops a.tmps)=true then zbt P U (sp k) o a D (zd6 P ops U sp Q l (k+1))else zd6 P ops U sp Q l (k+1) (a.put o.dst undef) D:=h
  by_cases hw:Region.wanted o (yielded ops a.tmps)=true
  ·rw[if_pos hw]at h'
   unfold zbt at h'
   cases hsp:sp k
   ·rw[hsp]at h'
    obtain⟨v,hv,hk⟩:=h'
    refine zpe (s:=false) h0 (Region.noSelect_spec hs) ?_ l.length _ a D hfree hr' (.inl ⟨rfl,hw,hv⟩) (next _ _ hk)
    intro K a D hy hK
    unfold zea
    simp only[h0]
    rcases hy with⟨_,hw2,hv2⟩|⟨hw2,rfl⟩
    ·rw[if_pos hw2]
     unfold zbt
     rw[hsp]
     exact⟨v,hv2,hK⟩
    ·rw[if_neg (by simp[hw2])]
     exact hK
   ·rw[hsp]at h'
    obtain⟨p,D',hy,hk⟩:=h'
    have hks:k<ops.size:=by simp at hsz;omega
    refine zxo hw0 h0 hsp (Region.noSelect_spec hs) l.length _ a D hfree (zre hc hsp (fun j hj=> ?_) (fun j hj hjs=> ?_)) hr' hw hy (fun v hv=>next _ _ (hk v hv))
    ·rw[zm0 (by omega)];exact decide_eq_true hj
    ·rw[zm0 hjs];exact decide_eq_false (by omega)
  ·rw[if_neg hw]at h'
   have hw':Region.wanted o (yielded ops a.tmps)=false:=by simpa using hw
   refine zpe (s:=true) h0 (Region.noSelect_spec hs) ?_ l.length _ a D hfree hr' (.inr ⟨hw',rfl⟩) (next _ _ h')
   intro K a D hy hK
   unfold zea
   simp only[h0]
   rcases hy with⟨hf,_⟩|⟨hw2,_⟩
   ·cases hf
   ·rw[if_neg (by simp[hw2])]
    exact hK
theorem wrs{id:Nat}{Q:Exit→Act→World→Prop}{a:Act}{w:World}(U:World→Prop)(sp:Nat→Bool)(D:World→Prop)(hm:P.follows .mixedOrders=true)(hB:Region.lexB .any ops=true)(hc:zpn .any ops sp=true)
 (hU:∀w,D w→U w) (hD:D w.drew) (h:zd6 P ops U sp (fun a' w'=>Q .normal a' w') ops.toList 0 a D):(Code.region id ops true).wp P Q a w:=by
 simp only[Region.lexB,Bool.and_eq_true]at hB
 have hD':D {w with drawn:=w.drawn+1}:=hD
 refine wp_region_any hm (zfg (U:=U) (sp:=sp) (Q:=fun a' w'=>Q .normal a' w') (fun _ _ h=>h) _ _ _ D _ hU hD' ?_)
 have:=zqh (md:= .any) (hU _ hD') hB.1 hc ops.toList 0 a D (by simp) (by simp) (by rw[zda];simpa using hB.2) h
 rw[zda]at this
 simpa using this
theorem wsn{Q:Act→World→Prop}{a:Act}{k:Nat}{D:World→Prop}(h:∀w,D w→Q a w):zd6 P ops U sp Q [] k a D:=h
theorem wss{Q:Act→World→Prop}{a:Act}{o:Oper}{rest:List Oper}{k:Nat}{D:World→Prop}(hs:sp k=false)
 (h:∀K:Act→Prop,(∀a,zd6 P ops U sp Q rest (k+1) a D→K a)→if Region.wanted o (yielded ops a.tmps)=true then∃v,(∀w,U w→(execOp a.eval o).run P w= .ok (.value v) w)∧K (a.put o.dst v)else K (a.put o.dst undef)):zd6 P ops U sp Q (o::rest) k a D:=by
 have h1:=h (fun a=>zd6 P ops U sp Q rest (k+1) a D) (fun _ h=>h)
 show if _ then _ else _
 by_cases hw:Region.wanted o (yielded ops a.tmps)=true
 ·rw[if_pos hw]at h1⊢
  unfold zbt
  rw[hs]
  exact h1
 ·rw[if_neg hw]at h1⊢
  exact h1
theorem wsp{Q:Act→World→Prop}{a:Act}{o:Oper}{rest:List Oper}{k:Nat}{D:World→Prop}(hs:sp k=true)(hg:o.guard=none)(p:Value→Prop)(D':Value→World→Prop)(hp:∃v,p v)(hU:∀v w,D' v w→U w)
 (hrun:∀w,D w→zb5 P (fun v w'=>p v∧D' v w') ((execOp a.eval o).run P w)) (h:∀v,p v→zd6 P ops U sp Q rest (k+1) (a.put o.dst v) (D' v)):zd6 P ops U sp Q (o::rest) k a D:=by
 show if _ then _ else _
 have hw:Region.wanted o (yielded ops a.tmps)=true:=by unfold Region.wanted;rw[hg]
 rw[if_pos hw]
 unfold zbt
 rw[hs]
 exact⟨p,D',⟨hp,hU,hrun⟩,h⟩
end
end Go.Proofs.YtcbnnfeelhlapadGreatDoor