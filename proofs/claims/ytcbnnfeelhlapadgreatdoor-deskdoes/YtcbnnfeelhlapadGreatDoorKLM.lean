/-
  The desk in memory: a builder's bytes, and desks; the builder's methods where it lies at the head of the desk's block.
-/
import Derived.Test.YtcbnnfeelhlapadGreatDoorHpRef
import Derived.Test.YtcbnnfeelhlapadGreatDoorKMath
import Derived.Lib.Builder
import Derived.Lib.UnsafeStr
import Derived.Lib.AppendStr
import Derived.Deep.AppendLies
import Derived.BigRegion
import Derived.RegionTactic
namespace Go.Proofs.YtcbnnfeelhlapadGreatDoor
set_option maxHeartbeats 1600000
set_option maxRecDepth 20000
open Go Go.RowKit
structure znd(w:World)(base:Nat)(S:Nat→Prop)(R D:Nat)(told:List UInt8):Prop where
 hR:S R
 own:∃p v,(p= .pointer none∨p= .pointer (some ⟨R,0,none⟩))∧w.heap[R]? =some (.cells #[p,v,.pointer (some ⟨D,0,none⟩)] 46 (0,0))∧w.ownsRow base 5 1 v told.length (Lib.byteCells told)∧(∀k,v.ownBlock=some k→S k∧k≠R)∧(told=[]→v= .slice none 0 0)
theorem zid{w:World}{b:Nat}{o:Obj}(h:w.heap[b]? =some o):b<w.heap.size:=by
 rcases Nat.lt_or_ge b w.heap.size with h'|h'
 ·exact h'
 ·rw[Array.getElem?_eq_none h']at h;cases h
def Th.lk(base R D:Nat)(told:List UInt8):Th base:=
 ⟨fun w S=>znd w base S R D told,fun hl h hk hd=>by
  obtain⟨hR,p,v,hp,hb,ho,hv,hn⟩:=h
  have hbl:∀k,_→_:=fun k hs=>hk.block k (hl k hs).2 (hd k hs)
  exact⟨hR,p,v,hp,by rw[hbl R hR];exact hb,za3 ho (fun k e=>hbl k (hv k e).1),hv,hn⟩,fun h hT _=>by
  obtain⟨hR,p,v,hp,hb,ho,hv,hn⟩:=h
  exact⟨hT R hR,p,v,hp,hb,ho,fun k e=>⟨hT k (hv k e).1,(hv k e).2⟩,hn⟩⟩
theorem znd.block{w:World}{base R D:Nat}{S:Nat→Prop}{told:List UInt8}(h:znd w base S R D told):w.cell? ⟨R,2,none⟩=some (.pointer (some ⟨D,0,none⟩))∧R<w.heap.size:=by
 obtain⟨_,p,v,_,hb,_⟩:=h
 exact⟨by rw[Lib.cell_of_heap hb];rfl,zid hb⟩
theorem infoB:(Tryz.prog.info? 5).map (fun i=>(i.zero,i.size,i.bytes))=some (some (.int .u8 0),1,1):=by kernel_rfl
theorem sizeBd:(Tryz.prog.info? 44).map (·.size)=some 2:=by kernel_rfl
theorem liesBd:liesAt Tryz.prog Tryz.prog.depth 46 (3 / Tryz.prog.cellsOf 46) 0 44 1=true:=by kernel_rfl
theorem znq{w:World}{R:Nat}{cs:Array Value}{T:TypeId}(hb:w.heap[R]? =some (.cells cs T (0,0)))(j:Nat)(v:Value):(w.setCell ⟨R,j,none⟩ v).heap[R]? =some (.cells (cs.setIfInBounds j v) T (0,0)):=by
 simp[World.setCell,Array.getElem?_modify,hb]
def ccW(p:Value)(R:Nat)(w:World):World:=match p with
 | .pointer none=>w.setCell ⟨R,0,none⟩ (.pointer (some ⟨R,0,none⟩))
 |_=>w
theorem zzy{w:World}{R D:Nat}{p v:Value}(hp:p= .pointer none∨p= .pointer (some ⟨R,0,none⟩))(hb:w.heap[R]? =some (.cells #[p,v,.pointer (some ⟨D,0,none⟩)] 46 (0,0))):
 (ccW p R w).heap[R]? =some (.cells #[.pointer (some ⟨R,0,none⟩),v,.pointer (some ⟨D,0,none⟩)] 46 (0,0)):=by
 rcases hp with rfl|rfl
 ·show(w.setCell ⟨R,0,none⟩ (.pointer (some ⟨R,0,none⟩))).heap[R]? =_
  rw[znq hb];rfl
 ·exact hb
theorem qgk(w:World)(R:Nat)(p:Value):zak (fun k=>k=R) w (ccW p R w):=by
 unfold ccW
 split
 ·exact(zak.refl (fun k=>k=R) w).set (p:=⟨R,0,none⟩) rfl _
 ·exact zak.refl _ _
theorem qgj(w:World)(R:Nat)(p:Value):(ccW p R w).heap.size=w.heap.size:=by
 unfold ccW
 split
 ·simp[World.setCell]
 ·rfl
theorem zn8{w:World}{R D:Nat}{p v:Value}(hp:p= .pointer none∨p= .pointer (some ⟨R,0,none⟩))(hb:w.heap[R]? =some (.cells #[p,v,.pointer (some ⟨D,0,none⟩)] 46 (0,0))):
 Calls Tryz.prog 124 #[.pointer (some ⟨R,0,none⟩)] w fun e w'=>e= .returned (.tuple #[])∧w'=ccW p R w:=by
 obtain⟨j,hj,hjs⟩:=Option.map_eq_some_iff.1 sizeBd
 have hlt:=zid hb
 have c0:w.cell? ⟨R,0,none⟩=some p:=by rw[Lib.cell_of_heap hb];rfl
 have f0:=Lib.frozen_of_heap hb 0
 have hsh:w.shape? R=some (46,3):=by simp[World.shape?,hb]
 rcases hp with rfl|rfl
 ·have HW:Hid (ccW (.pointer none) R w=w.setCell ⟨R,0,none⟩ (.pointer (some ⟨R,0,none⟩))):=rfl
  clear hb
  go_enter Tryz.func124,Tryz.ntmps124
  go_wp2
  rw[Lib.run_to_unsafe w ⟨R,0,none⟩ Tryz.underlying41 Tryz.underlying201 hj (by rw[hjs];decide) hsh (Nat.zero_lt_succ 2)]
  simp only[Result.andThen]
  rw[Oper.upon_value]
  go_wp2
  rw[run_callFunc_extern Tryz.func171 (by kernel_rfl) (by kernel_rfl) (by kernel_rfl) (e:=Extern.AbiNoEscape.same) (by kernel_rfl)]
  rw[Lib.run_noEscape]
  simp only[Result.andThen]
  rw[Oper.upon_value]
  go_wp2
  rw[Lib.run_from_unsafe w ⟨R,0,none⟩ Tryz.underlying201 Tryz.underlying41 hj hsh liesBd]
  simp only[Result.andThen]
  rw[Oper.upon_value]
  go_wp2
  go_end0
  exact⟨rfl,HW.out.symm⟩
 ·have HW:Hid (ccW (.pointer (some ⟨R,0,none⟩)) R w=w):=rfl
  clear hb hsh
  go_enter Tryz.func124,Tryz.ntmps124
  go_wp2
  rw[Lib.run_neq_ptr_same w _ Tryz.underlying41 hj]
  go_wp2
  go_end0
  exact⟨rfl,HW.out.symm⟩
def zet(w:World)(base:Nat)(S:Nat→Prop)(R D:Nat)(told:List UInt8)(w':World):Prop:=znd w' base (grow S w w') R D told∧zak S w w'
theorem zlo(a b:List UInt8):Lib.byteCells a++Lib.byteCells b=Lib.byteCells (a++b):=by
 unfold Lib.byteCells
 rw[List.map_append]
theorem ccW_lk{w:World}{base R:Nat}{S:Nat→Prop}{p v:Value}{told:List UInt8}(hR:S R)(ho:w.ownsRow base 5 1 v told.length (Lib.byteCells told))(hv:∀k,v.ownBlock=some k→S k∧k≠R):
 (ccW p R w).ownsRow base 5 1 v told.length (Lib.byteCells told)∧zak S w (ccW p R w):=
 ⟨za3 ho (fun k e=>(qgk w R p).block k (World.ownsRow.lt ho k e).2 (hv k e).2),(qgk w R p).wider (fun k e=>by rw[e];exact hR)⟩
theorem lk_put{w w1 w2:World}{base R D:Nat}{S:Nat→Prop}{v v':Value}{t2:List UInt8}(hR:S R)(hk1:zak S w w1)(hsz:w.heap.size≤w1.heap.size)(hv:∀k,v.ownBlock=some k→S k∧k≠R)
 (hb:w1.heap[R]? =some (.cells #[.pointer (some ⟨R,0,none⟩),v,.pointer (some ⟨D,0,none⟩)] 46 (0,0))) (ho2:w2.ownsRow base 5 1 v' t2.length (Lib.byteCells t2)) (hg:w1.grownBy w2 v.ownBlock) (hv2:∀k,v'.ownBlock=some k→v.ownBlock=some k∨w1.heap.size≤k) (hn2:t2=[]→v'= .slice none 0 0):
 w2.heap[R]? =some (.cells #[.pointer (some ⟨R,0,none⟩),v,.pointer (some ⟨D,0,none⟩)] 46 (0,0))∧zet w base S R D t2 (w2.setCell ⟨R,1,none⟩ v'):=by
 have hRl:=zid hb
 have hb2:w2.heap[R]? =some (.cells #[.pointer (some ⟨R,0,none⟩),v,.pointer (some ⟨D,0,none⟩)] 46 (0,0)):=by
  rw[hg.block R hRl (fun e=>(hv R e.symm).2 rfl)];exact hb
 have hk2:zak S w w2:=hk1.grown hg (fun k e=> .inl (hv k e).1)
 have hgs:=hg.size
 have hne:∀k,v'.ownBlock=some k→k≠R:=fun k e e'=>by
  rcases hv2 k e with x|x
  ·exact(hv k x).2 e'
  ·omega
 refine⟨hb2,⟨.inl hR,.pointer (some ⟨R,0,none⟩),v',.inr rfl,?_,?_,fun k e=>⟨?_,hne k e⟩,hn2⟩,hk2.set (p:=⟨R,1,none⟩) hR _⟩
 ·rw[znq hb2];rfl
 ·exact za3 ho2 (fun k e=>Below.heap_setCell w2 ⟨R,1,none⟩ v' k (hne k e))
 ·have hlt:=(World.ownsRow.lt ho2 k e).2
  rcases hv2 k e with x|x
  ·exact .inl (hv k x).1
  ·exact .inr ⟨by omega,by simpa [World.setCell]using hlt⟩
theorem qc7{P:Program}(w:World)(base:Nat)(t u ty e:TypeId)(i:TypeInfo)(ht:P.underlying t=some (.slice e))(hu:P.underlying u=some .string)(hi:P.info? e=some i)(hz:i.zero=some (.int .u8 0))(hsize:i.size=1)(hby:i.bytes=1)
 (v:Value) (n:Nat) (xs:List Value) (hown:w.ownsRow base e 1 v n xs) (s:ByteArray) (h63:n+s.size≤maxLen) (hbytes:n+s.size≤140737488355328) (hbase:base≤w.heap.size):
 ∃v' w',(Builtin.append_ #[t,u] ty #[v,.string s]).run P w= .ok v' w'∧w'.ownsRow base e 1 v' (n+s.size) (xs++Lib.strCells s)∧w.grownBy w' v.ownBlock∧(∀k,v'.ownBlock=some k→v.ownBlock=some k∨w.heap.size≤k)∧(v= .slice none 0 0→s.size=0→v'= .slice none 0 0):=by
 obtain⟨v',w',hr,h2,h3,h4⟩:=Lib.run_append_own_string (P:=P) w base t u ty e i ht hu hi hz hsize hby v n xs hown s h63 hbytes hbase
 refine⟨v',w',hr,h2,h3,fun k hk=> ?_,fun e1 e2=>h4.2 ⟨e1,e2⟩⟩
 have hsmall:n+s.size≤9223372036854775807:=by simp only[maxLen]at h63;omega
 have hxl:xs.length=n:=by simpa using hown.1
 rcases hown.2 with⟨rfl,rfl⟩|⟨g,cap,cur,rfl,hbg,hg,hnc,hcm,hcs,htake⟩
 ·by_cases hm:s.size=0
  ·rw[h4.2 ⟨rfl,hm⟩]at hk
   cases hk
  ·have hr2:=run_append_nil_string (P:=P) w t u ty e i (.int .u8 0) ht hu hi hz s (by omega) (by omega) (by rw[hby];omega)
   rw[hr]at hr2
   obtain⟨rfl,_⟩:=Result.ok.inj hr2
   obtain rfl:w.heap.size=k:=by simpa [Value.ownBlock]using hk
   exact .inr (Nat.le_refl _)
 ·by_cases hroom:n+s.size≤cap
  ·have hcs':cur.size=cap:=by simpa using hcs
   have hr2:=Lib.run_append_room_string (P:=P) w t u ty e i ht hu hi hsize g n cap cur hg s hroom (by omega)
   rw[hr]at hr2
   obtain⟨rfl,_⟩:=Result.ok.inj hr2
   obtain rfl:g=k:=by simpa [Value.ownBlock]using hk
   exact .inl rfl
  ·have holds:∀j u,xs[j]? =some u→w.cell? ((⟨g,0,none⟩:Addr).add j)=some u:=hown.cells (g:=g) rfl
   have hr2:=Lib.run_append_grow_string (P:=P) w t u ty e i (.int .u8 0) ht hu hi hz ⟨g,0,none⟩ n cap xs (by rw[hsize];simpa using hxl) holds s (by omega) (by omega) (by rw[hby];exact growslice_fits (by omega) (by omega))
   rw[hr]at hr2
   obtain⟨rfl,_⟩:=Result.ok.inj hr2
   obtain rfl:w.heap.size=k:=by simpa [Value.ownBlock]using hk
   exact .inr (Nat.le_refl _)
theorem zlv{P:Program}(w:World){ops:Array Oper}{rest:List Oper}{o:Oper}{a:Act}{Q:Exit→Act→World→Prop}(hgd:o.guard=none)(sl x:Operand)(t u:TypeId)(ho:o.op= .call {callee:= .builtin .append,args:= #[sl,x],argTypes:= #[t,u]})
 (base:Nat) (e:TypeId) (i:TypeInfo) (ht:P.underlying t=some (.slice e)) (hu:P.underlying u=some .string) (hi:P.info? e=some i) (hz:i.zero=some (.int .u8 0)) (hsize:i.size=1) (hby:i.bytes=1)
 (v:Value) (n:Nat) (xs:List Value) (hs:a.eval sl=v) (hown:w.ownsRow base e 1 v n xs) (s:ByteArray) (hx:a.eval x= .string s) (h63:n+s.size≤maxLen) (hbytes:n+s.size≤140737488355328) (hbase:base≤w.heap.size)
 (h:∀v' w',w'.ownsRow base e 1 v' (n+s.size) (xs++Lib.strCells s)→w.grownBy w' v.ownBlock→(∀k,v'.ownBlock=some k→v.ownBlock=some k∨w.heap.size≤k)→(v= .slice none 0 0→s.size=0→v'= .slice none 0 0)→wpList P ops Q rest (a.put o.dst v') w'):wpList P ops Q (o::rest) a w:=by
 refine wpList_plain hgd fun K hK=> ?_
 obtain⟨v',w',hr,h2,h3,h4,h5⟩:=qc7 (P:=P) w base t u o.type e i ht hu hi hz hsize hby v n xs hown s h63 hbytes hbase
 unfold Oper.wp execOp
 simp only[ho,resolve,invoke,builtin,Sem.run_bind,Sem.run_pure,Result.andThen_ok,List.map_toArray,List.map_cons,List.map_nil,hs,hx,hr]
 exact hK _ _ (h v' w' h2 h3 h4 h5)
section
variable {w:World} {base R D:Nat} {S:Nat→Prop} {told:List UInt8}
theorem zpx(h:znd w base S R D told)(hl:base≤w.heap.size∧∀k,S k→base≤k∧k<w.heap.size)(s:ByteArray)(hlen:told.length+s.size≤2000000000):
 Calls Tryz.prog 69 #[.pointer (some ⟨R,0,none⟩),.string s] w fun e w'=>e= .returned (.tuple #[.int .i64 s.size,.nilIface])∧zet w base S R D (told++s.data.toList) w':=by
 obtain⟨i0,hi,hz0,hz1,hz2⟩:=info_parts infoB
 obtain⟨hR,p,v,hp,hb,ho,hv,hn⟩:=h
 obtain⟨ho1,hk1⟩:=ccW_lk (p:=p) hR ho hv
 have hb1:=zzy hp hb
 have HS1:Hid ((ccW p R w).heap.size=w.heap.size):=qgj w R p
 have HCC:Hid (Calls Tryz.prog 124 #[.pointer (some ⟨R,0,none⟩)] w fun e w'=>e= .returned (.tuple #[])∧w'=ccW p R w):=zn8 hp hb
 clear hb ho hp
 go_enter Tryz.func69,Tryz.ntmps69
 go_wp2_with fail
 refine HCC.out.mono ?_
 rintro e w1 ⟨rfl,rfl⟩
 clear HCC
 generalize ccW p R w=w1 at*
 have c1:w1.cell? ⟨R,1,none⟩=some v:=by rw[Lib.cell_of_heap hb1];rfl
 have hlt:=zid hb1
 go_wp2_with (at_builtin;refine zlv _ rfl (.tmp 12) (.tmp 13) 42 9 rfl base 5 i0 Tryz.underlying42 Tryz.underlying9 hi hz0 hz1 hz2 v told.length (Lib.byteCells told) rfl ho1 s rfl ?c3 ?c4 ?c5 ?_)
 case c3=>unfold maxLen;omega
 case c4=>omega
 case c5=>have:=hl.1;have:=HS1.out;omega
 intro v' w2 hown' hgrow hlies hnil
 have hown2:w2.ownsRow base 5 1 v' (told++s.data.toList).length (Lib.byteCells (told++s.data.toList)):=by
  rw[List.length_append,←zlo]
  exact hown'
 obtain⟨hb2,hto⟩:=lk_put (t2:=told++s.data.toList) hR hk1 (by have:=HS1.out;omega) hv hb1 hown2 hgrow hlies (fun e=>by
  obtain⟨e1,e2⟩:=List.append_eq_nil_iff.1 e
  exact hnil (hn e1) (by
   have h0:s.size=0:=by rw[←zay,e2];rfl
   simpa using h0))
 have HTO:Hid (zet w base S R D (told++s.data.toList) (w2.setCell ⟨R,1,none⟩ v')):=hto
 have d1:w2.cell? ⟨R,1,none⟩=some v:=by rw[Lib.cell_of_heap hb2];rfl
 have f1:w2.frozen? ⟨R,1,none⟩=false:=Lib.frozen_of_heap hb2 1
 have hlt2:=zid hb2
 obtain⟨ao,n',cap,rfl⟩:∃ao n' cap,v'= .slice ao n' cap:=by
  rcases hown'.2 with⟨hv,_⟩|⟨g,cap,cur,hv,_⟩
  ·exact⟨_,_,_,hv⟩
  ·exact⟨_,_,_,hv⟩
 clear hto hown' hown2 hgrow hlies hnil ho1 hk1 hb1 hb2 c1 hlt hv hn
 go_wp2
 go_ret2
 exact⟨rfl,HTO.out⟩
theorem ztc(h:znd w base S R D told)(hl:base≤w.heap.size∧∀k,S k→base≤k∧k<w.heap.size)(c:UInt8)(hlen:told.length≤2000000000):
 Calls Tryz.prog 71 #[.pointer (some ⟨R,0,none⟩),.int .u8 c.toNat] w fun e w'=>e= .returned .nilIface∧zet w base S R D (told++[c]) w':=by
 obtain⟨i0,hi,hz0,hz1,hz2⟩:=info_parts infoB
 obtain⟨hR,p,v,hp,hb,ho,hv,hn⟩:=h
 obtain⟨ho1,hk1⟩:=ccW_lk (p:=p) hR ho hv
 have hb1:=zzy hp hb
 have HS1:Hid ((ccW p R w).heap.size=w.heap.size):=qgj w R p
 have HCC:Hid (Calls Tryz.prog 124 #[.pointer (some ⟨R,0,none⟩)] w fun e w'=>e= .returned (.tuple #[])∧w'=ccW p R w):=zn8 hp hb
 clear hb ho hp hn
 go_enter Tryz.func71,Tryz.ntmps71
 go_wp2_with fail
 refine HCC.out.mono ?_
 rintro e w1 ⟨rfl,rfl⟩
 clear HCC
 generalize ccW p R w=w1 at*
 have c1:w1.cell? ⟨R,1,none⟩=some v:=by rw[Lib.cell_of_heap hb1];rfl
 have hlt:=zid hb1
 have ho2:(w1.alloc (.cells #[.int .u8 c.toNat] 5)).ownsRow base 5 1 v told.length (Lib.byteCells told):=zeh ho1 (za1 _ _)
 go_wp2_with (at_builtin;refine wpList_append_lies _ rfl (.tmp 11) (.tmp 13) 42 rfl base 5 i0 (.int .u8 0) 1 1 Tryz.underlying42 hi hz0 hz1 hz2 rfl (by decide) v told.length (Lib.byteCells told) rfl ho2 ⟨w1.heap.size,0,none⟩ 1 1 [.int .u8 c.toNat] rfl rfl ?c1 ?c2 (by decide) ?c3 ?c4 ?c5 (w1.heap.size+1) (by simp) ?_)
 case c1=>
  intro j u hj
  match j,hj with
  | 0,hj=>simp at hj;subst hj;simp[Addr.add]
 case c2=>intro u hu;simp at hu;subst hu;rfl
 case c3=>unfold maxLen;omega
 case c4=>omega
 case c5=>have:=hl.1;have:=HS1.out;simp;omega
 intro g cap w2 hown' hgrow hat hlt8
 have hb1':(w1.alloc (.cells #[.int .u8 c.toNat] 5)).heap[R]? =some (.cells #[.pointer (some ⟨R,0,none⟩),v,.pointer (some ⟨D,0,none⟩)] 46 (0,0)):=by
  rw[Lib.alloc_old w1 _ R hlt];exact hb1
 have hown2:w2.ownsRow base 5 1 (.slice (some ⟨g,0,none⟩) (told.length+1) cap) (told++[c]).length (Lib.byteCells (told++[c])):=by
  rw[List.length_append,←zlo]
  exact hown'
 obtain⟨hb2,hto⟩:=lk_put (t2:=told++[c]) hR (hk1.after (za1 _ _)) (by have:=HS1.out;simp;omega) hv hb1' hown2 hgrow (fun k e=>by
  obtain rfl:g=k:=by simpa [Value.ownBlock]using e
  rcases hat with x|x
  ·exact .inl x
  ·exact .inr (by simp;omega)) (fun e=>by simp at e)
 have HTO:Hid (zet w base S R D (told++[c]) (w2.setCell ⟨R,1,none⟩ (.slice (some ⟨g,0,none⟩) (told.length+1) cap))):=hto
 have d1:w2.cell? ⟨R,1,none⟩=some v:=by rw[Lib.cell_of_heap hb2];rfl
 have f1:w2.frozen? ⟨R,1,none⟩=false:=Lib.frozen_of_heap hb2 1
 have hlt2:=zid hb2
 clear hto hown' hown2 hgrow hat ho1 ho2 hk1 hb1 hb1' hb2 c1 hlt hv
 go_wp2
 go_ret
 exact⟨rfl,HTO.out⟩
def StrTo(w:World)(S:Nat→Prop)(R D:Nat)(w':World):Prop:=zak S w w'∧∃p v,w'.heap[R]? =some (.cells #[p,v,.pointer (some ⟨D,0,none⟩)] 46 (0,0))
theorem zp6{w':World}(h:zak S w w'){g:Nat}(hg:S g)(n:Nat):zak S w (w'.freeze ⟨g,0,none⟩ n):=by
 unfold World.freeze
 split
 ·exact h
 ·refine⟨h.os,h.tape,h.output,by simpa using h.size,fun k hk hs=> ?_⟩
  rw[←h.block k hk hs]
  simp only[Array.getElem?_modify]
  rw[if_neg (fun e=>hs (by rw[←e];exact hg))]
theorem qdq(h:znd w base S R D told)(hlen:told.length≤2000000000):
 Calls Tryz.prog 16 #[.pointer (some ⟨R,0,none⟩)] w fun e w'=>e= .returned (.string (bl told))∧StrTo w S R D w':=by
 obtain⟨hR,p,v,hp,hb,ho,hv,hn⟩:=h
 have hlt:=zid hb
 have hbd:w.drew.heap[R]? =some (.cells #[p,v,.pointer (some ⟨D,0,none⟩)] 46 (0,0)):=hb
 have c1:w.drew.cell? ⟨R,1,none⟩=some v:=by rw[Lib.cell_of_heap hbd];rfl
 by_cases h0:told=[]
 ·obtain rfl:=hn h0
  subst h0
  have hUS:∀W:World,(Builtin.unsafeString_ #[83,3] 9 #[.pointer none,.int .i64 0]).run Tryz.prog W= .ok (.string .empty) W:=fun W=>Lib.run_unsafeString_none W _ _ _ none
  have hSD:(Builtin.unsafeSliceData_ #[42] 83 #[.slice none 0 0]).run Tryz.prog w.drew= .ok (.pointer none) w.drew:=rfl
  have HE:Hid (StrTo w S R D w.drew):=⟨(zak.refl S w).after (Below.refl _ _).drew,p,_,hbd⟩
  clear hb hbd ho hv hn hp
  go_enter Tryz.func16,Tryz.ntmps16
  go_wp2
  go_region
  all_goals (go_wp2;go_ret;exact⟨rfl,HE.out⟩)
 ·have hl0:told.length≠0:=by simpa using h0
  obtain⟨g,cap,cur,rfl,hbg,hg,hnc,hcm,hcs,htake⟩:∃g cap cur,v= .slice (some ⟨g,0,none⟩) told.length cap∧base≤g∧w.heap[g]? =some (.cells cur 5 (0,0))∧told.length≤cap∧cap≤maxLen∧cur.size=cap*1∧cur.toList.take (told.length*1)=Lib.byteCells told:=by
   rcases ho.2 with⟨_,hz⟩|⟨g,cap,cur,hv,r⟩
   ·exact absurd hz hl0
   ·exact⟨g,cap,cur,hv,r⟩
  have hSD:(Builtin.unsafeSliceData_ #[42] 83 #[.slice (some ⟨g,0,none⟩) told.length cap]).run Tryz.prog w.drew= .ok (.pointer (some ⟨g,0,none⟩)) w.drew:=Lib.run_unsafeSliceData_row _ _ _ _ _ _ (by omega)
  have hUS:(Builtin.unsafeString_ #[83,3] 9 #[.pointer (some ⟨g,0,none⟩),.int .i64 told.length]).run Tryz.prog w.drew= .ok (.string ⟨told.toArray⟩) (w.drew.freeze ⟨g,0,none⟩ told.length):=by
   refine Lib.run_unsafeString_row w.drew 83 3 9 5 Tryz.underlying83 (by kernel_rfl) g cur.size (by have hg':w.drew.heap[g]? =some (.cells cur 5 (0,0)):=hg;simp[World.shape?,hg']) told h0 (by omega) (by unfold maxLen at hcm;omega) ?_
   intro j x hx
   have:=ho.cells (g:=g) rfl j (.int .u8 x.toNat) (by simp[Lib.byteCells,hx])
   exact this
  have hgS:=hv g rfl
  have HE:Hid (StrTo w S R D (w.drew.freeze ⟨g,0,none⟩ told.length)):=by
   have hk:=zp6 ((zak.refl S w).after (Below.refl _ _).drew) hgS.1 told.length
   refine⟨hk,p,.slice (some ⟨g,0,none⟩) told.length cap,?_⟩
   have hk1:=zp6 (S:=fun k=>k=g) (zak.refl _ w.drew) (g:=g) rfl told.length
   rw[hk1.block R hlt (fun e=>hgS.2 e.symm)]
   exact hbd
  clear hb hbd ho hv hn hp hgS hg htake
  generalize w.drew.freeze ⟨g,0,none⟩ told.length=wf at*
  go_enter Tryz.func16,Tryz.ntmps16
  go_wp2
  go_region
  all_goals (go_wp2;go_ret;exact⟨rfl,HE.out⟩)
theorem reset_lk(hR:S R)(h:∃p v,w.heap[R]? =some (.cells #[p,v,.pointer (some ⟨D,0,none⟩)] 46 (0,0))):
 Calls Tryz.prog 17 #[.pointer (some ⟨R,0,none⟩)] w fun e w'=>e= .returned (.tuple #[])∧zet w base S R D [] w':=by
 obtain⟨p,v,hb⟩:=h
 have hlt:=zid hb
 have c0:w.cell? ⟨R,0,none⟩=some p:=by rw[Lib.cell_of_heap hb];rfl
 have c1:w.cell? ⟨R,1,none⟩=some v:=by rw[Lib.cell_of_heap hb];rfl
 have f0:w.frozen? ⟨R,0,none⟩=false:=Lib.frozen_of_heap hb 0
 have f1:w.frozen? ⟨R,1,none⟩=false:=Lib.frozen_of_heap hb 1
 have HE:Hid (zet w base S R D [] ((w.setCell ⟨R,0,none⟩ (.pointer none)).setCell ⟨R,1,none⟩ (.slice none 0 0))):=by
  refine⟨⟨.inl hR,.pointer none,.slice none 0 0,.inl rfl,?_,World.ownsRow_nil _ _ _ _,fun _ e=>(by cases e),fun _=>rfl⟩,((zak.refl S w).set (p:=⟨R,0,none⟩) hR _).set (p:=⟨R,1,none⟩) hR _⟩
  rw[znq (znq hb 0 _) 1]
  rfl
 clear hb
 go_enter Tryz.func17,Tryz.ntmps17
 go_wp2
 go_end0
 exact⟨rfl,HE.out⟩
end
end Go.Proofs.YtcbnnfeelhlapadGreatDoor