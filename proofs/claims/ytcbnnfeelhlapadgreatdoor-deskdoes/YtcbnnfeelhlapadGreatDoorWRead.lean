/-
  The contracts of hearOwn and Hear.
-/
import Derived.Test.YtcbnnfeelhlapadGreatDoorWDel
import Derived.Test.YtcbnnfeelhlapadGreatDoorFLiP
import Derived.Lib.MinMax
import Derived.Test.YtcbnnfeelhlapadGreatDoorFStage
import Derived.Test.YtcbnnfeelhlapadGreatDoorWNum
namespace Go.Proofs.YtcbnnfeelhlapadGreatDoor
set_option maxHeartbeats 1600000
set_option maxRecDepth 20000
open Go.RowKit
theorem PwC.setNext{w:World}{P:Nat}{lv ov:Value}{me next seen sent:Int}(h:PwC w P lv ov me next seen sent)(x:Int):PwC (w.setCell ⟨P,1,none⟩ (.int .i64 x)) P lv ov me x seen sent:=by
 obtain⟨hlt,c0,c1,c2,c3,c4,c5,hf⟩:=h
 refine⟨by simpa using hlt,?_,?_,?_,?_,?_,?_,fun o ho=>by simpa [go_sem]using hf o ho⟩
 ·simp[go_sem,c0]
 ·simp[go_sem,c1]
 ·simp[go_sem,c2]
 ·simp[go_sem,c3]
 ·simp[go_sem,c4]
 ·simp[go_sem,c5]
theorem PwC.setSeen{w:World}{P:Nat}{lv ov:Value}{me next seen sent:Int}(h:PwC w P lv ov me next seen sent)(x:Int):PwC (w.setCell ⟨P,2,none⟩ (.int .i64 x)) P lv ov me next x sent:=by
 obtain⟨hlt,c0,c1,c2,c3,c4,c5,hf⟩:=h
 refine⟨by simpa using hlt,?_,?_,?_,?_,?_,?_,fun o ho=>by simpa [go_sem]using hf o ho⟩
 ·simp[go_sem,c0]
 ·simp[go_sem,c1]
 ·simp[go_sem,c2]
 ·simp[go_sem,c3]
 ·simp[go_sem,c4]
 ·simp[go_sem,c5]
theorem PwC.setList{w:World}{P:Nat}{lv ov:Value}{me next seen sent:Int}(h:PwC w P lv ov me next seen sent)(x:Value):PwC (w.setCell ⟨P,3,none⟩ x) P x ov me next seen sent:=by
 obtain⟨hlt,c0,c1,c2,c3,c4,c5,hf⟩:=h
 refine⟨by simpa using hlt,?_,?_,?_,?_,?_,?_,fun o ho=>by simpa [go_sem]using hf o ho⟩
 ·simp[go_sem,c0]
 ·simp[go_sem,c1]
 ·simp[go_sem,c2]
 ·simp[go_sem,c3]
 ·simp[go_sem,c4]
 ·simp[go_sem,c5]
theorem PwC.setOpens{w:World}{P:Nat}{lv ov:Value}{me next seen sent:Int}(h:PwC w P lv ov me next seen sent)(x:Value):PwC (w.setCell ⟨P,4,none⟩ x) P lv x me next seen sent:=by
 obtain⟨hlt,c0,c1,c2,c3,c4,c5,hf⟩:=h
 refine⟨by simpa using hlt,?_,?_,?_,?_,?_,?_,fun o ho=>by simpa [go_sem]using hf o ho⟩
 ·simp[go_sem,c0]
 ·simp[go_sem,c1]
 ·simp[go_sem,c2]
 ·simp[go_sem,c3]
 ·simp[go_sem,c4]
 ·simp[go_sem,c5]
theorem PwC.setSent{w:World}{P:Nat}{lv ov:Value}{me next seen sent:Int}(h:PwC w P lv ov me next seen sent)(x:Int):PwC (w.setCell ⟨P,5,none⟩ (.int .i64 x)) P lv ov me next seen x:=by
 obtain⟨hlt,c0,c1,c2,c3,c4,c5,hf⟩:=h
 refine⟨by simpa using hlt,?_,?_,?_,?_,?_,?_,fun o ho=>by simpa [go_sem]using hf o ho⟩
 ·simp[go_sem,c0]
 ·simp[go_sem,c1]
 ·simp[go_sem,c2]
 ·simp[go_sem,c3]
 ·simp[go_sem,c4]
 ·simp[go_sem,c5]
theorem zcn.wrote{w:World}{base P:Nat}{S:Nat→Prop}{lv ov:Value}{tvs:List Value}{l:List Ch}{es:List Dd}{ts:List (List Ch)}{me next seen sent:Int}{me' next' seen' sent':Int}(h:zcn w base S P lv ov tvs l es ts me next seen sent){o:Nat}{u:Value}(hc:PwC (w.setCell ⟨P,o,none⟩ u) P lv ov me' next' seen' sent'):zcn (w.setCell ⟨P,o,none⟩ u) base S P lv ov tvs l es ts me' next' seen' sent':=by
 have hne:∀k,k≠P→(w.setCell ⟨P,o,none⟩ u).heap[k]? =w.heap[k]? :=fun k e=>Below.heap_setCell _ _ _ _ e
 have hsz:(w.setCell ⟨P,o,none⟩ u).heap.size=w.heap.size:=by simp[World.setCell]
 exact⟨fun k hs=>by rw[hsz];exact h.lo k hs,h.hP,hc,za3 h.ownL (fun k e=>hne k (h.lB k e).2),za3 h.ownO (fun k e=>hne k (h.oB k e).2.1),h.len,h.tooks.of_block (fun v hv k e=>hne k (h.tB v hv k e).2.1),h.lB,h.oB,h.tB,h.tD⟩
theorem zcn.dropped{w w1:World}{base P g n cap:Nat}{S:Nat→Prop}{lv tv:Value}{tvs:List Value}{l t:List Ch}{e:Dd}{es:List Dd}{ts:List (List Ch)}{me next seen sent:Int}(h:zcn w base S P lv (.slice (some ⟨g,0,none⟩) (n+1) cap) (tv::tvs) l (e::es) (t::ts) me next seen sent)
 (ho:zlu w1 base (.slice (some ⟨g,0,none⟩) n cap) (es.zip tvs)) (hk:zak (fun k=>k=g) w w1):zcn (w1.setCell ⟨P,4,none⟩ (.slice (some ⟨g,0,none⟩) n cap)) base S P lv (.slice (some ⟨g,0,none⟩) n cap) tvs l es ts me next seen sent∧Own (w1.setCell ⟨P,4,none⟩ (.slice (some ⟨g,0,none⟩) n cap)) base tv t∧zak S w (w1.setCell ⟨P,4,none⟩ (.slice (some ⟨g,0,none⟩) n cap)):=by
 have hgP:g≠P:=(h.oB g rfl).2.1
 have hb:∀k,S k→k≠g→k≠P→(w1.setCell ⟨P,4,none⟩ (.slice (some ⟨g,0,none⟩) n cap)).heap[k]? =w.heap[k]? :=fun k hs e1 e2=>by
  rw[Below.heap_setCell _ _ _ _ e2]
  exact hk.block k (h.lo k hs).2 e1
 have hsz:(w1.setCell ⟨P,4,none⟩ (.slice (some ⟨g,0,none⟩) n cap)).heap.size=w1.heap.size:=by simp[World.setCell]
 have hlg:∀k,lv.ownBlock=some k→k≠g:=fun k e e'=>(h.oB g rfl).2.2 (by rw[←e'];exact e)
 have htg:∀u∈tv::tvs,∀k,u.ownBlock=some k→k≠g:=fun u hu k e e'=>(h.tB u hu k e).2.2.2 (by rw[e'];rfl)
 have hc:PwC w1 P lv (.slice (some ⟨g,0,none⟩) (n+1) cap) me next seen sent:=h.cells.kept hk.size (hk.block P h.cells.lt (fun e=>hgP e.symm))
 refine⟨⟨fun k hs=>⟨(h.lo k hs).1,by rw[hsz];exact Nat.lt_of_lt_of_le (h.lo k hs).2 hk.size⟩,h.hP,hc.setOpens _,za3 h.ownL (fun k e=>hb k (h.lB k e).1 (hlg k e) (h.lB k e).2),za3 ho (fun k e=>Below.heap_setCell _ _ _ _ (fun e'=> ?_)),?_,?_,h.lB,fun k e=>h.oB k e,fun u hu k e=>h.tB u (by simp[hu]) k e,(List.pairwise_cons.1 h.tD).2⟩,?_,?_⟩
 ·have e2:some g=some k:=e
  have e3:k=P:=e'
  exact hgP (by rw[←e3];exact Option.some.inj e2)
 ·have:=h.len
  simpa using this
 ·exact zer.of_block h.tooks.2 (fun u hu k e=>hb k (h.tB u (by simp[hu]) k e).1 (htg u (by simp[hu]) k e) (h.tB u (by simp[hu]) k e).2.1)
 ·exact za3 h.tooks.1 (fun k e=>hb k (h.tB tv (by simp) k e).1 (htg tv (by simp) k e) (h.tB tv (by simp) k e).2.1)
 ·exact(zju hk (fun k e=>by rw[e];exact(h.oB g rfl).1)).set (p:=⟨P,4,none⟩) h.hP _
structure HW(w:World)(base P:Nat)(S:Nat→Prop)(lv ov:Value)(tvs:List Value)(l:List Ch)(es:List Dd)(ts:List (List Ch))(me next seen sent:Int)(d:Dd)(tv:Value)(t:List Ch)(wk:World):Prop where
 at_:zcn wk base S P lv ov tvs l es ts me next seen sent
 kept:zak S w wk
 deed:zde wk w.heap.size 0 d
 box:OoAt wk (w.heap.size+1) 0 d tv
 own:Own wk base tv t
 tS:∀k,tv.ownBlock=some k→S k∧k≠P∧¬zrj lv tvs k
theorem HW.wrote{w wk:World}{base P o:Nat}{S:Nat→Prop}{lv ov tv u:Value}{tvs:List Value}{l t:List Ch}{es:List Dd}{ts:List (List Ch)}{me next seen sent me' next' seen' sent':Int}{d:Dd}(h:HW w base P S lv ov tvs l es ts me next seen sent d tv t wk)(hlo:∀k,S k→k<w.heap.size)(hc:PwC (wk.setCell ⟨P,o,none⟩ u) P lv ov me' next' seen' sent'):HW w base P S lv ov tvs l es ts me' next' seen' sent' d tv t (wk.setCell ⟨P,o,none⟩ u):=by
 have hP:=hlo P h.at_.hP
 have hsz:(wk.setCell ⟨P,o,none⟩ u).heap.size=wk.heap.size:=by simp[World.setCell]
 exact⟨h.at_.wrote hc,h.kept.set (p:=⟨P,o,none⟩) h.at_.hP u,h.deed.of_block' (by rw[hsz];exact h.deed.lt) (Below.heap_setCell _ _ _ _ (by show w.heap.size≠P;omega)),h.box.of_block (by rw[hsz];exact h.box.deed.lt) (Below.heap_setCell _ _ _ _ (by show w.heap.size+1≠P;omega)),za3 h.own (fun k e=>Below.heap_setCell _ _ _ _ (h.tS k e).2.1),h.tS⟩
theorem HW.turned{w wk w':World}{base P:Nat}{S:Nat→Prop}{lv ov tv:Value}{tvs:List Value}{l l' t:List Ch}{es:List Dd}{ts ts':List (List Ch)}{me next seen sent:Int}{d:Dd}(h:HW w base P S lv ov tvs l es ts me next seen sent d tv t wk)(hlo:∀k,S k→k<w.heap.size)(hat:zcn w' base S P lv ov tvs l' es ts' me next seen sent)(hk:zak (zrj lv tvs) wk w'):HW w base P S lv ov tvs l' es ts' me next seen sent d tv t w':=by
 have hsub:∀k,zrj lv tvs k→S k:=fun k e=>by
  rcases e with e|⟨u,hu,e⟩
  ·exact(h.at_.lB k e).1
  ·exact(h.at_.tB u hu k e).1
 exact⟨hat,h.kept.trans' (zju hk hsub),h.deed.of_block' (Nat.lt_of_lt_of_le h.deed.lt hk.size) (hk.block _ h.deed.lt (fun e=>by have:=hlo _ (hsub _ e);omega)),h.box.of_block (Nat.lt_of_lt_of_le h.box.deed.lt hk.size) (hk.block _ h.box.deed.lt (fun e=>by have:=hlo _ (hsub _ e);omega)),za3 h.own (fun k e=>hk.block k (World.ownsRow.lt h.own k e).2 (h.tS k e).2.2),h.tS⟩
theorem ack_comp(no n:Int)(t l:List Ch):(l.map (ze2 no n)).map (zk5 t n)=l.map (zf6 no n t):=by
 rw[List.map_map];rfl
theorem zip_cons{e:Dd}{es:List Dd}{tv:Value}{tvs:List Value}:(e::es).zip (tv::tvs)=(e,tv)::es.zip tvs:=rfl
theorem zxi{w:World}{base P:Nat}{S:Nat→Prop}{lv ov tv:Value}{tvs:List Value}{l t:List Ch}{d:Dd}{es:List Dd}{ts:List (List Ch)}{me next:Int}{seen sent:Nat}(h:zcn w base S P lv ov (tv::tvs) l (d::es) (t::ts) me next seen ((sent:Int)+1))(hl:l.length≤1000)(hes:es.length≤1000)(hts:∀u∈t::ts,u.length≤1000)(hsn:seen≤1000)(hst:sent≤1000):
 Calls Tryz.prog 194 #[.pointer (some ⟨P,0,none⟩),ddV d] w fun e w'=>e= .returned (.int .i64 0)∧(∃ov',zcn w' base S P lv ov' tvs (l.map (zf6 d.no ((seen:Int)+1) t)) es (ts.map fun u=>u.map (ze2 d.no ((seen:Int)+1))) me next ((seen:Int)+1) sent)∧zak S w w':=by
 have HLO:Hid (∀k,S k→k<w.heap.size):=fun k hk=>(h.lo k hk).2
 have HL:Hid (∀l':List Ch,l'.length=l.length→l'.length≤1000):=fun l' e=>by rw[e];exact hl
 have HT0:Hid (t.length≤1000):=hts t (by simp)
 have HTS:Hid (∀u∈ts,u.length≤1000):=fun u hu=>hts u (by simp[hu])
 obtain⟨g,cap,rfl⟩:=h.topen.place (by simp)
 have hl1:(d::es).length=es.length+1:=rfl
 rw[hl1]at h
 have HA:Hid (zcn w base S P lv (.slice (some ⟨g,0,none⟩) (es.length+1) cap) (tv::tvs) l (d::es) (t::ts) me next seen ((sent:Int)+1)):=h
 obtain⟨ta,tcap,htf,_⟩:=h.tooks.1.lst.len
 have HSEP:Hid (∀k,tv.ownBlock=some k→S k∧k≠P∧¬zrj lv tvs k):=fun k e=>by
  have h1:=h.tB tv (by simp) k e
  refine⟨h1.1,h1.2.1,fun e'=> ?_⟩
  rcases e' with e'|⟨u,hu,e'⟩
  ·exact h1.2.2.1 e'
  ·exact(List.pairwise_cons.1 h.tD).1 u hu k e e'
 have HONE:Hid (∀y∈es.zip tvs,y.2.oneCell'=true):=fun y hy=>h.tooks.2.one y.2 (List.of_mem_zip hy).2
 have HZL:Hid ((es.zip tvs).length=es.length):=zkf (by have:=h.len;simpa using this)
 have c4:=h.cells.opens
 have c5:=h.cells.sent
 have c2:=h.cells.seen
 have hPlt:=h.cells.lt
 obtain⟨⟨hglt,g0,g1,g2,g3,g4,g5,g6⟩,g7⟩:=h.topen.nth (i:=0) rfl (by simp) (by simp)
 simp only[Nat.zero_mul,Nat.zero_add,List.getElem_cons_zero]at g0 g1 g2 g3 g4 g5 g6 g7
 have hE:∀o,(w.alloc (zcc d)).cell? o=(w.alloc (zcc d)).cell? o:=fun _=>rfl
 have HB0:Hid (zde (w.alloc (zcc d)) w.heap.size 0 d):=zb7 w d
 have hpos:((es.length:Int)+1==0)=false:=by simp;omega
 generalize hn:es.length=n at*
 have HN:Hid (es.length=n):=hn
 generalize t.length=tn at htf
 subst htf
 obtain⟨kind,by_,no,dseen,at_,many,text⟩:=d
 simp only at g0 g1 g2 g3 g4 g5 g6
 clear h hts hl hl1 hn hE
 go_enter Tryz.func194,Tryz.ntmps194
 go_wp2
 go_quiet (fail)
 go_wp2_with fail
 clear c2 c4 c5 g0 g1 g2 g3 g4 g5 g6 g7
 have HB0':Hid (Below w.heap.size w ((w.alloc (zcc ⟨kind,by_,no,dseen,at_,many,text⟩)).drewN nq)):=below_drewN (za1 _ _) _
 have HD0:Hid (zde ((w.alloc (zcc ⟨kind,by_,no,dseen,at_,many,text⟩)).drewN nq) w.heap.size 0 ⟨kind,by_,no,dseen,at_,many,text⟩):=HB0.out.below (below_drewN (Below.refl _ _) _)
 have HS0:Hid (((w.alloc (zcc ⟨kind,by_,no,dseen,at_,many,text⟩)).drewN nq).heap.size=w.heap.size+1):=by show _=_;simp
 generalize (w.alloc (zcc ⟨kind,by_,no,dseen,at_,many,text⟩)).drewN nq=w0 at*
 have HBX:Hid (OoAt (w0.alloc (zld ⟨kind,by_,no,dseen,at_,many,text⟩ (.slice ta tn tcap))) (w.heap.size+1) 0 ⟨kind,by_,no,dseen,at_,many,text⟩ (.slice ta tn tcap)):=by
  rw[←HS0.out]
  refine⟨⟨by simp,?_,?_,?_,?_,?_,?_,?_⟩,?_⟩<;>simp[go_sem]
 have HB1:Hid (Below w.heap.size w (w0.alloc (zld ⟨kind,by_,no,dseen,at_,many,text⟩ (.slice ta tn tcap)))):=bla HB0'.out (za1 _ _)
 have HD1:Hid (zde (w0.alloc (zld ⟨kind,by_,no,dseen,at_,many,text⟩ (.slice ta tn tcap))) w.heap.size 0 ⟨kind,by_,no,dseen,at_,many,text⟩):=HD0.out.below (za1 _ _)
 have hA1:=HA.out.below HB1.out
 have hown1:=hA1.ownO
 rw[zip_cons]at hown1
 have HA1:Hid _:=hA1
 refine(zvh hown1 (by rw[HZL.out]) hes HONE.out).mono ?_
 rintro e w2 ⟨rfl,ho2,hk2⟩
 have hdr:=HA1.out.dropped ho2 hk2
 have hgP:g≠P:=(HA1.out.oB g rfl).2.1
 have hgl:g<w.heap.size:=HLO.out g (HA1.out.oB g rfl).1
 have hPl:P<w.heap.size:=HLO.out P HA1.out.hP
 have hc2:PwC w2 P lv (.slice (some ⟨g,0,none⟩) (n+1) cap) me next seen ((sent:Int)+1):=HA1.out.cells.kept hk2.size (hk2.block P HA1.out.cells.lt (fun e=>hgP e.symm))
 have hsz2:(w2.setCell ⟨P,4,none⟩ (.slice (some ⟨g,0,none⟩) n cap)).heap.size=w2.heap.size:=by simp[World.setCell]
 have HW3:Hid (HW w base P S lv (.slice (some ⟨g,0,none⟩) n cap) tvs l es ts me next seen ((sent:Int)+1) ⟨kind,by_,no,dseen,at_,many,text⟩ (.slice ta tn tcap) t (w2.setCell ⟨P,4,none⟩ (.slice (some ⟨g,0,none⟩) n cap))):=by
  have e1:(w2.setCell ⟨P,4,none⟩ (.slice (some ⟨g,0,none⟩) n cap)).heap[w.heap.size]? =(w0.alloc (zld ⟨kind,by_,no,dseen,at_,many,text⟩ (.slice ta tn tcap))).heap[w.heap.size]? :=by
   rw[Below.heap_setCell _ _ _ _ (by show w.heap.size≠P;omega)]
   exact hk2.block _ HD1.out.lt (by omega)
  have e2:(w2.setCell ⟨P,4,none⟩ (.slice (some ⟨g,0,none⟩) n cap)).heap[w.heap.size+1]? =(w0.alloc (zld ⟨kind,by_,no,dseen,at_,many,text⟩ (.slice ta tn tcap))).heap[w.heap.size+1]? :=by
   rw[Below.heap_setCell _ _ _ _ (by show w.heap.size+1≠P;omega)]
   exact hk2.block _ HBX.out.deed.lt (by omega)
  exact⟨hdr.1,(zak.of_below HB1.out).trans' hdr.2.2,HD1.out.of_block' (by rw[hsz2];exact Nat.lt_of_lt_of_le HD1.out.lt hk2.size) e1,HBX.out.of_block (by rw[hsz2];exact Nat.lt_of_lt_of_le HBX.out.deed.lt hk2.size) e2,hdr.2.1,HSEP.out⟩
 have HW4:Hid (HW w base P S lv (.slice (some ⟨g,0,none⟩) n cap) tvs l es ts me next seen sent ⟨kind,by_,no,dseen,at_,many,text⟩ (.slice ta tn tcap) t ((w2.setCell ⟨P,4,none⟩ (.slice (some ⟨g,0,none⟩) n cap)).setCell ⟨P,5,none⟩ (.int .i64 sent))):=HW3.out.wrote HLO.out (HW3.out.at_.cells.setSent _)
 have HW5:Hid (HW w base P S lv (.slice (some ⟨g,0,none⟩) n cap) tvs l es ts me next ((seen:Int)+1) sent ⟨kind,by_,no,dseen,at_,many,text⟩ (.slice ta tn tcap) t (((w2.setCell ⟨P,4,none⟩ (.slice (some ⟨g,0,none⟩) n cap)).setCell ⟨P,5,none⟩ (.int .i64 sent)).setCell ⟨P,2,none⟩ (.int .i64 ((seen:Int)+1)))):=HW4.out.wrote HLO.out (HW4.out.at_.cells.setSeen _)
 have hP2:=hc2.lt
 have e4:=hc2.opens
 have e5:=hc2.sent
 have e2:=hc2.seen
 have f4:=hc2.free 4 (by omega)
 have f5:=hc2.free 5 (by omega)
 have f2:=hc2.free 2 (by omega)
 have d0:=HW5.out.deed
 have hdd:∀o,((((w2.setCell ⟨P,4,none⟩ (.slice (some ⟨g,0,none⟩) n cap)).setCell ⟨P,5,none⟩ (.int .i64 sent)).setCell ⟨P,2,none⟩ (.int .i64 ((seen:Int)+1)))).cell? ⟨w.heap.size,o,none⟩=w2.cell? ⟨w.heap.size,o,none⟩:=fun o=>by
  simp[go_sem]
 obtain⟨_,q0,q1,q2,q3,q4,q5,q6⟩:=d0
 simp only[Nat.zero_add]at q0 q1 q2 q3 q4 q5 q6
 rw[hdd]at q0 q1 q2 q3 q4 q5 q6
 have hne1:¬w.heap.size=P:=by omega
 have hne2:¬P=w.heap.size:=by omega
 clear ho2 hk2 hdr hc2 hdd hA1 hown1 HW3 HW4 HD0 HD1 HB0 HB1 HB0' HA1 HBX hsz2
 go_wp2_with fail
 refine(qbz HW5.out.at_ (HL.out l rfl) (by rw[HN.out];exact hes) HTS.out ⟨kind,by_,no,dseen,at_,many,text⟩).mono ?_
 rintro e w6 ⟨rfl,hat6,hk6⟩
 have HW6:Hid _:=HW5.out.turned HLO.out hat6 hk6
 clear hat6 hk6 HW5 e4 e5 e2 f4 f5 f2 q0 q1 q2 q3 q4 q5 q6
 obtain⟨⟨hlt6,q0,q1,q2,q3,q4,q5,q6⟩,q7⟩:=HW6.out.box
 simp only[Nat.zero_add]at q0 q1 q2 q3 q4 q5 q6 q7
 go_wp2_with fail
 refine(qbn HW6.out.at_ HW6.out.own (fun k e e'=>(HW6.out.tS k e).2.2 (.inl e')) (HL.out _ (by simp)) HT0.out ⟨kind,by_,no,dseen,at_,many,text⟩).mono ?_
 rintro e w7 ⟨rfl,hat7,hk7⟩
 have HE:Hid ((∃ov',zcn w7 base S P lv ov' tvs (l.map (zf6 no ((seen:Int)+1) t)) es (ts.map fun u=>u.map (ze2 no ((seen:Int)+1))) me next ((seen:Int)+1) sent)∧zak S w w7):=by
  refine⟨⟨.slice (some ⟨g,0,none⟩) n cap,?_⟩,HW6.out.kept.trans' (zju hk7 (fun k e=>(HW6.out.at_.lB k e).1))⟩
  rw[←ack_comp]
  exact hat7
 clear hat7 hk7 HW6 q0 q1 q2 q3 q4 q5 q6 q7
 go_wp2
 go_ret
 exact⟨rfl,HE.out⟩
def Tells(u:Value)(s:ByteArray)(wk:World):Prop:=∀w'',Below wk.heap.size wk w''→(convert 42 9 u).run Tryz.prog w''= .ok (.string s) w''
theorem qaa{w:World}{v:Value}{l:List Ch}(h:Lst w v l)(hl:l.length≤1000)(seen by_:Int):
 Calls Tryz.prog 139 #[v,.int .i64 seen,.int .i64 by_] w fun e w'=>∃u,e= .returned u∧Tells u (strOfNums (vw l seen by_)) w'∧Below w.heap.size w w':=by
 obtain⟨a,len,cap,rfl,h1,h2,h3⟩:=h
 rcases h3 with rfl|⟨b,off,rfl,hr⟩
 ·obtain rfl:l=[]:=List.length_eq_zero_iff.1 h1
  refine(qab a cap seen by_ w).mono ?_
  rintro e w' ⟨rfl,hb⟩
  exact⟨_,rfl,fun w'' _=>zg9 (base:=w''.heap.size) (zs:=[]) (World.ownsRow_nil _ _ _ _),hb⟩
 ·refine(qco b off len cap l seen by_ w h1 (by omega) hr).mono ?_
  rintro e w' ⟨u,rfl,ho,hb⟩
  exact⟨u,rfl,fun w'' hb'=>zg9 (zeh ho hb'),hb⟩
theorem zry{w:World}{base P:Nat}{S:Nat→Prop}{lv ov:Value}{tvs:List Value}{l:List Ch}{es:List Dd}{ts:List (List Ch)}{me next seen sent:Int}(h:zcn w base S P lv ov tvs l es ts me next seen sent):
 Calls Tryz.prog 165 #[.pointer (some ⟨P,0,none⟩)] w fun e w'=>e= .returned (.int .i64 seen)∧w'=w:=by
 have c2:=h.cells.seen
 have hlt:=h.cells.lt
 clear h
 go_enter Tryz.func165,Tryz.ntmps165
 go_wp2
 go_ret
 exact⟨rfl,rfl⟩
theorem chars_pw{w:World}{base P:Nat}{S:Nat→Prop}{lv ov:Value}{tvs:List Value}{l:List Ch}{es:List Dd}{ts:List (List Ch)}{me next seen sent:Int}(h:zcn w base S P lv ov tvs l es ts me next seen sent)(hl:l.length≤1000):
 Calls Tryz.prog 221 #[.pointer (some ⟨P,0,none⟩)] w fun e w'=>∃v',e= .returned v'∧Own w' w.heap.size v' l∧Below w.heap.size w w':=by
 have c0:=h.cells.list
 have hlt:=h.cells.lt
 have HL:Hid (Lst w lv l):=h.ownL.lst
 have HS:Hid (l.length≤100000):=by show _≤_;omega
 clear h
 go_enter Tryz.func221,Tryz.ntmps221
 go_wp2_with (go_at_call 160;refine(zhw HL.out HS.out).mono ?_;rintro e w' ⟨v',rfl,ho,hb⟩)
 go_ret
 exact⟨_,rfl,ho,hb⟩
def zh5(es:List Dd)(sent:Nat)(seen:Int):Int:=match es[sent]? with
 |some e=>e.seen
 |none=>seen
theorem least_pw{w:World}{base P:Nat}{S:Nat→Prop}{lv ov:Value}{tvs:List Value}{l:List Ch}{es:List Dd}{ts:List (List Ch)}{me next seen:Int}{sent:Nat}(h:zcn w base S P lv ov tvs l es ts me next seen sent):
 Calls Tryz.prog 168 #[.pointer (some ⟨P,0,none⟩)] w fun e w'=>e= .returned (.int .i64 (zh5 es sent seen))∧Below w.heap.size w w':=by
 have c2:=h.cells.seen
 have c4:=h.cells.opens
 have c5:=h.cells.sent
 have hlt:=h.cells.lt
 have hzl:=zkf h.len
 by_cases hs:sent<es.length
 ·have HE:Hid (zh5 es sent seen=es[sent].seen):=by show zh5 es sent seen=_;rw[zh5,List.getElem?_eq_getElem hs]
  have hT:=h.topen
  obtain⟨g,cap,rfl⟩:=hT.place (by omega)
  have hv:sent<tvs.length:=by rw[hT.len];exact hs
  obtain⟨⟨hg,_,_,_,g3,_,_,_⟩,_⟩:=hT.nth rfl hs hv
  generalize es[sent].seen=s at*
  have hs':(sent:Int)<(es.length:Int):=by omega
  clear h hT hzl
  go_enter Tryz.func168,Tryz.ntmps168
  go_wp2
  go_quiet (fail)
  go_wp2
  go_quiet (fail)
  go_wp2
  go_ret
  exact⟨zad HE.out.symm,below_drewN (below_drewN (Below.refl _ _) _) _⟩
 ·have HE:Hid (zh5 es sent seen=seen):=by show zh5 es sent seen=_;rw[zh5,List.getElem?_eq_none (by omega)]
  obtain⟨a,cap,rfl⟩:=h.topen.form
  have hs':¬(sent:Int)<(es.length:Int):=by omega
  clear h hzl
  go_enter Tryz.func168,Tryz.ntmps168
  go_wp2
  go_quiet (fail)
  go_wp2
  go_ret
  exact⟨zad HE.out.symm,below_drewN (Below.refl _ _) _⟩
theorem text_pw{w:World}{base P:Nat}{S:Nat→Prop}{lv ov:Value}{tvs:List Value}{l:List Ch}{es:List Dd}{ts:List (List Ch)}{me next seen sent:Int}(h:zcn w base S P lv ov tvs l es ts me next seen sent)(hl:l.length≤1000):
 Calls Tryz.prog 88 #[.pointer (some ⟨P,0,none⟩)] w fun e w'=>e= .returned (.string (strOfNums (vw l seen me)))∧Below w.heap.size w w':=by
 have HA:Hid (zcn w base S P lv ov tvs l es ts me next seen sent):=h
 have HV:Hid (∀wk,Below w.heap.size w wk→Calls Tryz.prog 139 #[lv,.int .i64 seen,.int .i64 me] wk fun e w'=>∃u,e= .returned u∧Tells u (strOfNums (vw l seen me)) w'∧Below wk.heap.size wk w'):=fun wk hb=>qaa (h.below hb).ownL.lst hl seen me
 have hlt:=h.cells.lt
 obtain⟨a,cap,rfl,_⟩:=h.ownL.lst.len
 generalize strOfNums (vw l seen me)=T at*
 clear h
 go_enter Tryz.func88,Tryz.ntmps88
 go_wp2
 refine wrs (fun wk=>Below w.heap.size w wk) (fun i=>i==12||i==13) (fun wk=>Below w.heap.size w wk) (by kernel_rfl) (by kernel_rfl) (by kernel_rfl) (fun _ h=>h) ((Below.refl _ _).drew) ?_
 refine wss rfl (fun K hK=> ?_)
 go_simp
 refine⟨_,fun _ _=>rfl,hK _ ?_⟩
 clear hK K
 refine wss rfl (fun K hK=> ?_)
 go_simp
 refine⟨_,fun _ _=>rfl,hK _ ?_⟩
 clear hK K
 refine wss rfl (fun K hK=> ?_)
 go_simp
 refine⟨_,fun _ _=>rfl,hK _ ?_⟩
 clear hK K
 refine wss rfl (fun K hK=> ?_)
 go_simp
 refine⟨.slice a l.length cap,fun wk hwk=> ?_,hK _ ?_⟩
 ·have c:=(HA.out.below hwk).cells.list
  go_simp
 clear hK K
 refine wss rfl (fun K hK=> ?_)
 go_simp
 refine⟨_,fun _ _=>rfl,hK _ ?_⟩
 clear hK K
 refine wss rfl (fun K hK=> ?_)
 go_simp
 refine⟨_,fun _ _=>rfl,hK _ ?_⟩
 clear hK K
 refine wss rfl (fun K hK=> ?_)
 go_simp
 refine⟨_,fun _ _=>rfl,hK _ ?_⟩
 clear hK K
 refine wss rfl (fun K hK=> ?_)
 go_simp
 refine⟨.int .i64 seen,fun wk hwk=> ?_,hK _ ?_⟩
 ·have c:=(HA.out.below hwk).cells.seen
  go_simp
 clear hK K
 refine wss rfl (fun K hK=> ?_)
 go_simp
 refine⟨_,fun _ _=>rfl,hK _ ?_⟩
 clear hK K
 refine wss rfl (fun K hK=> ?_)
 go_simp
 refine⟨_,fun _ _=>rfl,hK _ ?_⟩
 clear hK K
 refine wss rfl (fun K hK=> ?_)
 go_simp
 refine⟨_,fun _ _=>rfl,hK _ ?_⟩
 clear hK K
 refine wss rfl (fun K hK=> ?_)
 go_simp
 refine⟨.int .i64 me,fun wk hwk=> ?_,hK _ ?_⟩
 ·have c:=(HA.out.below hwk).cells.me
  go_simp
 clear hK K
 refine wsp rfl rfl (fun u=>True) (fun u wk=>Below w.heap.size w wk∧Tells u T wk) ⟨.bool false,trivial⟩ (fun _ _ h=>h.1) (fun wk hwk=> ?_) (fun v12 _hv12=> ?_)
 ·go_simp
  refine(HV.out wk hwk).mono ?_
  rintro e w6 ⟨u,rfl,hs,hb⟩
  exact⟨u,rfl,bla hwk hb,hs⟩
 refine wsp rfl rfl (fun u=>u= .string T) (fun u wk=>Below w.heap.size w wk) ⟨_,rfl⟩ (fun _ _ h=>h) (fun wk hwk=> ?_) (fun v13 hv13=> ?_)
 ·have hs:=hwk.2 _ (Below.refl _ _)
  go_simp
  exact⟨rfl,hwk.1⟩
 subst hv13
 refine wss rfl (fun K hK=> ?_)
 go_simp
 refine⟨_,fun _ _=>rfl,hK _ ?_⟩
 clear hK K
 refine wsn (fun w9 hw9=> ?_)
 have H9:Hid _:=hw9
 clear hw9
 go_wp2
 go_ret
 exact⟨rfl,H9.out⟩
end Go.Proofs.YtcbnnfeelhlapadGreatDoor