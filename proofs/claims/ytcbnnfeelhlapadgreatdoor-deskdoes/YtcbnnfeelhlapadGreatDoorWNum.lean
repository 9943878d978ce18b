/-
  What is kept of an open deed, asked: the contracts of tookAway, and of the searches over bytes and over open deeds.
-/
import Derived.Test.YtcbnnfeelhlapadGreatDoorCDel
namespace Go.Proofs.YtcbnnfeelhlapadGreatDoor
set_option maxHeartbeats 800000
set_option maxRecDepth 20000
open Go.RowKit
theorem any_hit{p:Ch→Bool}{l:List Ch}{k:Nat}(hk:k<l.length)(h:hitP p l k=true):l.any p=true:=by
 rw[zmj hk]at h
 exact List.any_eq_true.2 ⟨l[k],List.getElem_mem hk,h⟩
theorem any_none{p:Ch→Bool}{l:List Ch}(h:∀j,j<l.length→hitP p l j=false):l.any p=false:=by
 rw[List.any_eq_false]
 intro x hx
 obtain⟨j,hj,rfl⟩:=List.mem_iff_getElem.1 hx
 have:=h j hj
 rw[zmj hj]at this
 rw[this];simp
theorem zn9{F:Nat}{caps:Array Value}{p:Ch→Bool}{base:Nat}{K:World→Prop}(hF:zt8 F caps p base K){w:World}{v:Value}{l:List Ch}(h:Lst w v l)(hs:base≤w.heap.size)(hl:l.length≤1000)(hK:K w):
 Calls Tryz.prog 158 #[v,.func (Fn.func F) #[] caps] w fun e w'=>e= .returned (.bool (l.any p))∧Below w.heap.size w w':=by
 have HF:Hid (zt8 F caps p base K):=hF
 have HK:Hid (K w):=hK
 have hcall:=hF.call
 obtain⟨a,cap,rfl,_⟩:=h.len
 by_cases h0:l.length=0
 ·obtain rfl:l=[]:=List.length_eq_zero_iff.1 h0
  clear hF hK h0 h
  go_enter Tryz.func158,Tryz.ntmps158
  go_wp2_with fail
  refine(zgr a cap _ w).mono ?_
  rintro e w1 ⟨rfl,hb⟩
  have HB:Hid _:=hb
  clear hb hcall
  go_wp2
  go_ret
  exact⟨rfl,HB.out⟩
 ·obtain⟨b,off,rfl,_,hr⟩:=h.row (by omega)
  have HR:Hid (Row w b off l):=hr
  generalize hn:l.length=n at*
  have HN:Hid (l.length=n):=hn
  clear hF hK hr hn h
  go_enter Tryz.func158,Tryz.ntmps158
  go_wp2_with fail
  refine(zfi F caps b off n cap l _ _ w HN.out (by omega) hcall (zqz HF.out hs HR.out HK.out) (Below.refl _ _)).mono ?_
  intro e w1 hres
  have H1:Hid _:=hres
  clear hres
  rcases H1.out with⟨k,hk,hno,hyes,rfl,hI⟩|⟨hno,rfl,hI⟩
  ·have HI:Hid _:=hI
   have HE:Hid (l.any p=true):=any_hit (by rw[HN.out];exact hk) hyes
   clear H1 hno hyes hI hcall
   go_wp2
   go_ret
   exact⟨zbh HE.out.symm,HI.out⟩
  ·have HI:Hid _:=hI
   have HE:Hid (l.any p=false):=any_none (by rw[HN.out];exact hno)
   clear H1 hno hI hcall
   go_wp2
   go_ret
   exact⟨zbh HE.out.symm,HI.out⟩
structure CBox(x:Ch)(B:Nat)(w:World):Prop where
 lt:B<w.heap.size
 at_:At w B 0 x
theorem CBox.low{w w':World}{x:Ch}{B base:Nat}(h:CBox x B w)(hB:B<base)(hb:Below base w w'):CBox x B w':=by
 refine⟨Nat.lt_of_lt_of_le h.lt hb.size,?_⟩
 have hx:=h.at_
 have hc:∀o,w'.cell? ⟨B,o,none⟩=w.cell? ⟨B,o,none⟩:=fun o=>hb.cell (p:=⟨B,o,none⟩) hB
 unfold At at hx⊢
 simp only[hc]
 exact hx
def zn4(x y:Ch):Bool:=decide (y.inn=x.inn)&&zk4 y x
theorem qd7(x y:Ch)(B:Nat)(w:World)(h:CBox x B w):
 Calls Tryz.prog 240 (#[chV y]++ #[.pointer (some ⟨B,0,none⟩)]) w fun e w'=>e= .returned (.bool (zn4 x y))∧Below w.heap.size w w':=by
 have hs:=h.lt
 have ha:∀o j v,w.cell? ⟨B,j,none⟩=some v→(w.alloc o).cell? ⟨B,j,none⟩=some v:=fun o j v hv=>by
  rw[World.cell?_alloc_past _ _ _ (show B<w.heap.size by omega)];exact hv
 obtain⟨a0,a1,a2,a3,a4,a5,a6⟩:=h.at_
 have c0:=fun o=>ha o _ _ a0
 have c1:=fun o=>ha o _ _ a1
 have c2:=fun o=>ha o _ _ a2
 have c3:=fun o=>ha o _ _ a3
 have c4:=fun o=>ha o _ _ a4
 have c5:=fun o=>ha o _ _ a5
 have c6:=fun o=>ha o _ _ a6
 simp only[Nat.zero_add]at c1 c2 c3 c4 c5 c6
 clear h ha a0 a1 a2 a3 a4 a5 a6
 cases he:(y.inn==x.inn)
 ·have HE:Hid (zn4 x y=false):=by
   show zn4 x y=false
   rw[zn4,decide_eq_false (by simpa using he)];rfl
  obtain⟨yc,yb,yn,yk,yi,yo,yg⟩:=y
  simp only at he
  go_enter Tryz.func240,Tryz.ntmps240
  go_wp2
  go_ret
  exact⟨zbh HE.out.symm,za1 _ _⟩
 ·have HE:Hid (zn4 x y=zk4 y x):=by
   show zn4 x y=_
   rw[zn4,decide_eq_true (by simpa using he)];rfl
  have HB:Hid (Below w.heap.size w (w.alloc (.cells #[.int .u8 y.c,.int .i64 y.by_,.int .i64 y.no,.int .i64 y.k,.int .i64 y.inn,.int .i64 y.out,.int .i64 y.gone] 127))):=za1 _ _
  obtain⟨yc,yb,yn,yk,yi,yo,yg⟩:=y
  simp only at he
  go_enter Tryz.func240,Tryz.ntmps240
  go_wp2_with fail
  refine(zz4 ⟨yc,yb,yn,yk,yi,yo,yg⟩ x _).mono ?_
  rintro e w1 ⟨rfl,hb⟩
  have HB1:Hid (Below w.heap.size w w1):=bla HB.out hb
  clear hb HB c0 c1 c2 c3 c4 c5 c6
  go_wp2
  go_ret
  exact⟨zbh HE.out.symm,HB1.out⟩
theorem qgl:∀args w,Sem.run Tryz.prog (callFunc 240 args) w= .ok (.enter 240 args) w:=fun _ _=>by kernel_rfl
theorem zw6(x:Ch)(B base:Nat)(hB:B<base):zt8 240 #[.pointer (some ⟨B,0,none⟩)] (zn4 x) base (CBox x B):=
 ⟨qgl,fun y w h=>qd7 x y B w h,fun _ _ h hb=>h.low hB hb⟩
abbrev ooV(d:Dd)(tv:Value):Value:= .agg #[.int .i64 d.kind,.int .i64 d.by_,.int .i64 d.no,.int .i64 d.seen,.int .i64 d.at_,.int .i64 d.many,.string d.text,tv]
abbrev zld(d:Dd)(tv:Value):Obj:= .cells #[.int .i64 d.kind,.int .i64 d.by_,.int .i64 d.no,.int .i64 d.seen,.int .i64 d.at_,.int .i64 d.many,.string d.text,tv] 180
abbrev zpo(x:Ch):Obj:= .cells #[.int .u8 x.c,.int .i64 x.by_,.int .i64 x.no,.int .i64 x.k,.int .i64 x.inn,.int .i64 x.out,.int .i64 x.gone] 127
theorem took_any{w:World}{tv:Value}{t:List Ch}(h:Lst w tv t)(hl:t.length≤1000)(d:Dd)(x:Ch):
 Calls Tryz.prog 237 #[ooV d tv,chV x] w fun e w'=>e= .returned (.bool (zvy t x))∧Below w.heap.size w w':=by
 have HB:Hid (Below w.heap.size w ((w.alloc (zld d tv)).alloc (zpo x))):=below2 _ _ _
 have HL:Hid (Lst ((w.alloc (zld d tv)).alloc (zpo x)) tv t):=h.below HB.out
 have HC:Hid (CBox x (w.heap.size+1) ((w.alloc (zld d tv)).alloc (zpo x))):=by
  refine⟨by simp,?_,?_,?_,?_,?_,?_,?_⟩<;>simp[go_sem]
 have hmf:∀(fn:Fn) (first cap:Array Value) (w:World),(Instr.makeFunc fn first cap).run Tryz.prog w= .ok (.func fn first cap) w:=fun _ _ _ _=>rfl
 obtain⟨a,cap,rfl,_⟩:=h.len
 clear h
 go_enter Tryz.func237,Tryz.ntmps237
 go_wp2_with fail
 refine(zn9 (zw6 x (w.heap.size+1) (w.heap.size+2) (by omega)) HL.out (by simp) hl HC.out).mono ?_
 rintro e w1 ⟨rfl,hb⟩
 have HB1:Hid (Below w.heap.size w w1):=bla HB.out hb
 clear hb HB HL HC hmf
 go_wp2
 go_ret
 exact⟨rfl,HB1.out⟩
structure zqf(w:World)(base:Nat)(ov:Value)(tvs:List Value)(es:List Dd)(ts:List (List Ch)):Prop where
 own:zlu w base ov (es.zip tvs)
 len:tvs.length=es.length
 tooks:zer w base tvs ts
theorem zqf.below{w w':World}{base:Nat}{ov:Value}{tvs:List Value}{es:List Dd}{ts:List (List Ch)}(h:zqf w base ov tvs es ts)(hb:Below w.heap.size w w'):zqf w' base ov tvs es ts:=
 ⟨h.own.below hb,h.len,h.tooks.of_block (fun v hv k e=>hb.block k (h.tooks.lt v hv k e).2)⟩
theorem zcn.topen{w:World}{base P:Nat}{S:Nat→Prop}{lv ov:Value}{tvs:List Value}{l:List Ch}{es:List Dd}{ts:List (List Ch)}{me next seen sent:Int}(h:zcn w base S P lv ov tvs l es ts me next seen sent):zqf w base ov tvs es ts:=⟨h.ownO,h.len,h.tooks⟩
theorem zkf{es:List Dd}{tvs:List Value}(h:tvs.length=es.length):(es.zip tvs).length=es.length:=by
 rw[List.length_zip];omega
theorem zqf.nth{w:World}{base g n cap:Nat}{tvs:List Value}{es:List Dd}{ts:List (List Ch)}(h:zqf w base (.slice (some ⟨g,0,none⟩) n cap) tvs es ts)(hn:es.length=n){i:Nat}(hi:i<es.length)(hv:i<tvs.length):OoAt w g (i*8) es[i] tvs[i]:=by
 have hzl:=zkf h.len
 have:=zlu.nth h.own (by rw[hzl,hn]) (i:=i) (by omega)
 rw[List.getElem_zip]at this
 exact this
theorem zqf.place{w:World}{base:Nat}{ov:Value}{tvs:List Value}{es:List Dd}{ts:List (List Ch)}(h:zqf w base ov tvs es ts)(hk:0<es.length):∃g cap,ov= .slice (some ⟨g,0,none⟩) es.length cap:=by
 have hzl:=zkf h.len
 obtain⟨g,cap,e⟩:=h.own.place (by omega)
 exact⟨g,cap,by rw[e,hzl]⟩
theorem zqf.form{w:World}{base:Nat}{ov:Value}{tvs:List Value}{es:List Dd}{ts:List (List Ch)}(h:zqf w base ov tvs es ts):∃a cap,ov= .slice a es.length cap:=by
 have hzl:=zkf h.len
 obtain⟨a,cap,e⟩:=h.own.len
 exact⟨a,cap,by rw[e,hzl]⟩
def zgu{α:Type}(f:α→α)(k:Nat)(l:List α):List α:=(l.take k).map f++l.drop k
theorem zsj{α:Type}(f:α→α)(l:List α):zgu f l.length l=l.map f:=by rw[zgu,List.take_length,List.drop_length,List.append_nil]
theorem zsh{α:Type}(f:α→α)(k:Nat)(l:List α):(zgu f k l).length=l.length:=by
 rw[zgu,List.length_append,List.length_map,←List.length_append,List.take_append_drop]
theorem zun{α:Type}(f:α→α){k:Nat}{l:List α}(h:k<l.length):zgu f (k+1) l=(l.take k).map f++f l[k]::l.drop (k+1):=by
 rw[zgu,List.take_succ_eq_append_getElem h,List.map_append,List.append_assoc];rfl
theorem zx0{α:Type}(f:α→α){k:Nat}{l:List α}(h:k<l.length):zgu f k l=(l.take k).map f++l[k]::l.drop (k+1):=by
 rw[zgu,List.drop_eq_getElem_cons h]
theorem zsi{α:Type}(f:α→α){k:Nat}{l:List α}(h:k<l.length)(h':k<(zgu f k l).length):(zgu f k l)[k]=l[k]:=by
 have e:((l.take k).map f).length=k:=by rw[List.length_map,List.length_take];omega
 have h2:(zgu f k l)[k]? =some l[k]:=by
  rw[zx0 f h,List.getElem?_append_right (by omega),e,Nat.sub_self];rfl
 rw[List.getElem?_eq_getElem h']at h2
 exact Option.some.inj h2
theorem zsg{α:Type}(f:α→α){k:Nat}{l:List α}(h:k<l.length):(zgu f k l).set k (f l[k])=zgu f (k+1) l:=by
 have e:((l.take k).map f).length=k:=by rw[List.length_map,List.length_take];omega
 rw[zx0 f h,zun f h,List.set_append_right (h:=by omega),e,Nat.sub_self,List.set_cons_zero]
theorem zlf{α:Type}(f:α→α){k:Nat}{l:List α}(h:k<l.length)(hf:f l[k]=l[k]):zgu f (k+1) l=zgu f k l:=by
 rw[zx0 f h,zun f h,hf]
theorem zr5(x:Ch)(w:World):
 Calls Tryz.prog 159 #[chV x] w fun e w'=>e= .returned (.bool (decide (x.inn=za0)))∧Below w.heap.size w w':=by
 obtain⟨c,b,no,k,i,o,g⟩:=x
 go_enter Tryz.func159,Tryz.ntmps159
 go_wp2
 go_ret
 refine⟨zbh ?_,za1 _ _⟩
 rw[Bool.eq_iff_iff]
 simp
theorem qc4:∀args w,Sem.run Tryz.prog (callFunc 159 args) w= .ok (.enter 159 args) w:=fun _ _=>by kernel_rfl
theorem zuv(base:Nat):zt8 159 #[] (fun x=>decide (x.inn=za0)) base (fun _=>True):=
 ⟨qc4,fun x w _=>zr5 x w,fun _ _ _ _=>trivial⟩
theorem zde.of_block'{w w':World}{E:Nat}{d:Dd}(h:zde w E 0 d)(hs:E<w'.heap.size)(hb:w'.heap[E]? =w.heap[E]?):zde w' E 0 d:=by
 have hc:∀o,w'.cell? ⟨E,o,none⟩=w.cell? ⟨E,o,none⟩:=fun o=>World.cell?_of_block (a:=⟨E,o,none⟩) hb
 obtain⟨_,c0,c1,c2,c3,c4,c5,c6⟩:=h
 exact⟨hs,by rw[hc];exact c0,by rw[hc];exact c1,by rw[hc];exact c2,by rw[hc];exact c3,by rw[hc];exact c4,by rw[hc];exact c5,by rw[hc];exact c6⟩
structure NI(w:World)(base g n cap:Nat)(L:List Ch)(d:Dd)(wk:World):Prop where
 kept:zak (fun k=>k=g) w wk
 own:Own wk base (.slice (some ⟨g,0,none⟩) n cap) L
 deed:zde wk w.heap.size 0 d
 lt:g<w.heap.size
theorem NI.after{w wk w':World}{base g n cap:Nat}{L:List Ch}{d:Dd}(h:NI w base g n cap L d wk)(hb:Below wk.heap.size wk w'):NI w base g n cap L d w':=
 ⟨h.kept.after hb,h.own.below hb,h.deed.below hb,h.lt⟩
theorem NI.put{w wk:World}{base g n cap:Nat}{L:List Ch}{d:Dd}(h:NI w base g n cap L d wk)(hn:L.length=n){i r:Nat}(hi:i<L.length)(hr:r<7){y:Ch}{u:Value}(hy:(zch L[i]).set r u=zch y):NI w base g n cap (L.set i y) d (wk.setCell ⟨g,i*7+r,none⟩ u):=by
 refine⟨h.kept.set (p:=⟨g,_,none⟩) rfl _,zuf h.own hn hi hr hy,h.deed.of_block' (by simpa [World.setCell]using h.deed.lt) (Below.heap_setCell _ _ _ _ (by have:=h.lt;show w.heap.size≠g;omega)),h.lt⟩
theorem num_yes{no n:Int}{x:Ch}(h:x.inn=za0)(h2:x.no=no):ze2 no n x=⟨x.c,x.by_,x.no,x.k,n,x.out,x.gone⟩:=by rw[ze2,if_pos ⟨h,h2⟩]
theorem num_no{no n:Int}{x:Ch}(h:¬(x.inn=za0∧x.no=no)):ze2 no n x=x:=by rw[ze2,if_neg h]
theorem zuj(a:Option Addr)(cap:Nat)(d:Dd)(n:Int)(w:World):
 Calls Tryz.prog 236 #[.slice a 0 cap,ddV d,.int .i64 n] w fun e w'=>e= .returned (.tuple #[])∧Below w.heap.size w w':=by
 go_enter Tryz.func236,Tryz.ntmps236
 go_wp2
 refine wp_loop_rounds 1 ?_
 rw[rounds_succ]
 go_wp2
 go_end0
 exact⟨rfl,za1 _ _⟩
theorem zwx{w:World}{base g n cap:Nat}{l:List Ch}(h:Own w base (.slice (some ⟨g,0,none⟩) n cap) l)(hn:l.length=n)(hl:n≤1000)(d:Dd)(m:Int):
 Calls Tryz.prog 236 #[.slice (some ⟨g,0,none⟩) n cap,ddV d,.int .i64 m] w fun e w'=>e= .returned (.tuple #[])∧Own w' base (.slice (some ⟨g,0,none⟩) n cap) (l.map (ze2 d.no m))∧zak (fun k=>k=g) w w':=by
 have hglt:g<w.heap.size:=(World.ownsRow.lt h g rfl).2
 have HI:Hid (NI w base g n cap (zgu (ze2 d.no m) 0 l) d (w.alloc (zcc d))):=⟨.of_below (za1 _ _),h.below (za1 _ _),zb7 w d,hglt⟩
 have HN:Hid (l.length=n):=hn
 obtain⟨kind,by_,no,seen,at_,many,text⟩:=d
 simp only at HI
 clear h hn
 go_enter Tryz.func236,Tryz.ntmps236
 go_wp2
 go_loopw [10] (fun i wr=>∃k:Nat,k≤n∧i= .int .i64 k∧Hid (NI w base g n cap (zgu (ze2 no m) k l) ⟨kind,by_,no,seen,at_,many,text⟩ wr)) (fun i _=>n-(intOf i).toNat)
 case atStart=>exact⟨0,Nat.zero_le _,rfl,HI⟩
 case round=>
  obtain⟨k,hk,rfl,HK⟩:=hrel
  clear HI
  by_cases hlt:k<n
  ·have hkl:k<l.length:=by rw[HN.out];exact hlt
   have hml:(zgu (ze2 no m) k l).length=n:=by rw[zsh,HN.out]
   have hkm:k<(zgu (ze2 no m) k l).length:=by rw[hml];exact hlt
   have hget:=zsi (ze2 no m) hkl hkm
   obtain⟨b',o',e',_,r'⟩:=HK.out.own.lst.row (by omega)
   cases e'
   obtain⟨h0,h1,h2,h3,h4,h5,h6⟩:=r'.at_ k hkm
   simp only[Nat.zero_add]at h0 h1 h2 h3 h4 h5 h6
   rw[hget]at h0 h1 h2 h3 h4 h5 h6
   obtain⟨x,hx⟩:∃x,x=l[k]:=⟨_,rfl⟩
   rw[←hx]at h0 h1 h2 h3 h4 h5 h6
   have HX:Hid (x=l[k]):=hx
   have HG:Hid ((zgu (ze2 no m) k l)[k]=l[k]):=hget
   clear r' hx hget
   have HA:Hid (Below wr.heap.size wr (wr.alloc (zpo x))):=za1 _ _
   obtain⟨xc,xb,xn,xk,xi,xo,xg⟩:=x
   simp only at h0 h1 h2 h3 h4 h5 h6
   go_wp2_with fail
   refine(zr5 ⟨xc,xb,xn,xk,xi,xo,xg⟩ _).mono ?_
   rintro e w1 ⟨rfl,hb⟩
   have HK1:Hid _:=HK.out.after (bla HA.out hb)
   have hC:wr.heap.size<w1.heap.size:=by have:=hb.size;simp at this;omega
   obtain⟨hc,_⟩:=zds hb
   have c2:w1.cell? ⟨wr.heap.size,2,none⟩=some (.int .i64 xn):=by rw[hc _ _ (by simp)];simp[go_sem]
   obtain⟨_,_,_,d2,_,_,_,_⟩:=HK1.out.deed
   simp only[Nat.zero_add]at d2
   obtain⟨⟨u4,e4⟩,f4⟩:=zew HK1.out.own hml (j:=k*7+4) (by omega)
   clear hc hb HA HK h0 h1 h2 h3 h4 h5 h6
   by_cases ho:xi=za0
   ·have ho':decide (xi=za0)=true:=decide_eq_true ho
    by_cases hno:xn=no
    ·have hno':(xn==no)=true:=by simp[hno]
     have HN2:Hid (NI w base g n cap (zgu (ze2 no m) (k+1) l) ⟨kind,by_,no,seen,at_,many,text⟩ (w1.setCell ⟨g,k*7+4,none⟩ (.int .i64 m))):=by
      have:=HK1.out.put hml (i:=k) (r:=4) (y:=ze2 no m l[k]) (u:= .int .i64 m) (by rw[hml];exact hlt) (by omega) (by rw[HG.out,←HX.out,num_yes ho hno];rfl)
      rw[zsg _ hkl]at this
      exact this
     clear ho hno HK1 HG HX
     rw[ho']
     go_wp2
     go_roundw
     case rel=>exact⟨k+1,by omega,by go_num,HN2⟩
     case measure=>simp[intOf];omega
    ·have hno':(xn==no)=false:=by simp[hno]
     have HN2:Hid (NI w base g n cap (zgu (ze2 no m) (k+1) l) ⟨kind,by_,no,seen,at_,many,text⟩ w1):=by
      rw[zlf _ hkl (by rw[←HX.out];exact num_no (fun e=>hno e.2))]
      exact HK1
     clear ho hno HK1 HG HX
     rw[ho']
     go_wp2
     go_roundw
     case rel=>exact⟨k+1,by omega,by go_num,HN2⟩
     case measure=>simp[intOf];omega
   ·have ho':decide (xi=za0)=false:=decide_eq_false ho
    have HN2:Hid (NI w base g n cap (zgu (ze2 no m) (k+1) l) ⟨kind,by_,no,seen,at_,many,text⟩ w1):=by
     rw[zlf _ hkl (by rw[←HX.out];exact num_no (fun e=>ho e.1))]
     exact HK1
    clear ho HK1 HG HX
    rw[ho']
    go_wp2
    go_roundw
    case rel=>exact⟨k+1,by omega,by go_num,HN2⟩
    case measure=>simp[intOf];omega
  ·obtain rfl:k=n:=by omega
   have HE:Hid (zgu (ze2 no m) k l=l.map (ze2 no m)):=by show _=_;rw[←HN.out,zsj]
   go_wp2
   go_end0
   exact⟨rfl,by rw[←HE.out];exact HK.out.own,HK.out.kept⟩
theorem zqw{w:World}{base:Nat}{v:Value}{l:List Ch}(h:Own w base v l)(hl:l.length≤1000)(d:Dd)(m:Int):
 Calls Tryz.prog 236 #[v,ddV d,.int .i64 m] w fun e w'=>e= .returned (.tuple #[])∧Own w' base v (l.map (ze2 d.no m))∧zak (fun k=>v.ownBlock=some k) w w':=by
 by_cases h0:l.length=0
 ·obtain rfl:l=[]:=List.length_eq_zero_iff.1 h0
  obtain⟨a,cap,rfl,_⟩:=h.lst.len
  refine(zuj a cap d m w).mono ?_
  rintro e w1 ⟨rfl,hb⟩
  exact⟨rfl,h.below hb,.of_below hb⟩
 ·obtain⟨g,cap,rfl⟩:=zp1 h (by omega)
  refine(zwx h rfl hl d m).mono ?_
  rintro e w1 ⟨rfl,ho,hk⟩
  exact⟨rfl,ho,⟨hk.os,hk.tape,hk.output,hk.size,fun k hk' hn=>hk.block k hk' (fun e=>hn (by rw[e];rfl))⟩⟩
end Go.Proofs.YtcbnnfeelhlapadGreatDoor