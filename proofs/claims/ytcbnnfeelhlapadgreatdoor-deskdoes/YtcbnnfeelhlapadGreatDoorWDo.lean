/-
  The contracts of Hear, Send and Clear of a writer.
-/
import Derived.Test.YtcbnnfeelhlapadGreatDoorWRead
namespace Go.Proofs.YtcbnnfeelhlapadGreatDoor
set_option maxHeartbeats 1600000
set_option maxRecDepth 20000
open Go.RowKit
theorem zcn.relist{w:World}{base P:Nat}{S:Nat→Prop}{lv ov:Value}{tvs:List Value}{l:List Ch}{es:List Dd}{ts:List (List Ch)}{me next seen sent:Int}{w1:World}{lv':Value}{l':List Ch}(h:zcn w base S P lv ov tvs l es ts me next seen sent)(hb:Below w.heap.size w w1)(ho:Own w1 w.heap.size lv' l'):zcn (w1.setCell ⟨P,3,none⟩ lv') base (grow S w w1) P lv' ov tvs l' es ts me next seen sent:=by
 have h1:=h.below hb
 have hP:=(h.lo P h.hP).2
 have hsz:(w1.setCell ⟨P,3,none⟩ lv').heap.size=w1.heap.size:=by simp[World.setCell]
 have hne:∀k,k≠P→(w1.setCell ⟨P,3,none⟩ lv').heap[k]? =w1.heap[k]? :=fun k e=>Below.heap_setCell _ _ _ _ e
 have hnew:∀k,lv'.ownBlock=some k→w.heap.size≤k∧k<w1.heap.size:=fun k e=>World.ownsRow.lt ho k e
 refine⟨fun k hs=>by rw[hsz];exact zkq h.base_le hb.size h.lo k hs,.inl h.hP,h1.cells.setList _,za3 (ho.mono h.base_le) (fun k e=>hne k (by have:=hnew k e;omega)),za3 h1.ownO (fun k e=>hne k (h1.oB k e).2.1),h.len,h1.tooks.of_block (fun v hv k e=>hne k (h1.tB v hv k e).2.1),fun k e=>⟨.inr (hnew k e),by have:=hnew k e;omega⟩,fun k e=>⟨.inl (h.oB k e).1,(h.oB k e).2.1,fun e'=> ?_⟩,fun tv ht k e=>⟨.inl (h.tB tv ht k e).1,(h.tB tv ht k e).2.1,fun e'=> ?_,(h.tB tv ht k e).2.2.2⟩,h.tD⟩
 ·have:=hnew k e';have:=(h.lo k (h.oB k e).1).2;omega
 ·have:=hnew k e';have:=(h.lo k (h.tB tv ht k e).1).2;omega
theorem zh8{S:Nat→Prop}{w w1:World}{p:Addr}{u:Value}:grow S w (w1.setCell p u)=grow S w w1:=by
 unfold grow
 simp[World.setCell]
theorem znj.of{w:World}{base P:Nat}{S:Nat→Prop}{l:List Ch}{es:List Dd}{ts:List (List Ch)}{me next seen sent:Int}{w':World}{lv' ov':Value}{tvs':List Value}(hat:zcn w' base (grow S w w') P lv' ov' tvs' l es ts me next seen sent)(hk:zak S w w'):znj w base S P l es ts me next seen sent w':=⟨⟨lv',ov',tvs',hat⟩,hk⟩
structure HJ(w:World)(d:Dd)(wk:World):Prop where
 below:Below w.heap.size w wk
 deed:zde wk w.heap.size 0 d
def Did(w:World)(l':List Ch)(cc:Int)(u:Value)(wk:World):Prop:=∃v wj,u= .tuple #[v,.int .i64 cc]∧w.heap.size≤wj∧Own wk wj v l'
theorem HJ.after{w wk w':World}{d:Dd}(h:HJ w d wk)(hb:Below wk.heap.size wk w'):HJ w d w':=⟨bla h.below hb,h.deed.below hb⟩
theorem hears_pw{w:World}{base P:Nat}{S:Nat→Prop}{lv ov:Value}{tvs:List Value}{l:List Ch}{es:List Dd}{ts:List (List Ch)}{me next sent:Int}{seen:Nat}(h:zcn w base S P lv ov tvs l es ts me next seen sent)(hl:l.length≤1000)(hf:zg7 l)(hsn:seen≤1000)(d:Dd)(hne:d.by_≠me):
 Calls Tryz.prog 166 #[.pointer (some ⟨P,0,none⟩),ddV d] w fun e w'=>e= .returned (.int .i64 (doC l d ((seen:Int)+1)))∧(doC l d ((seen:Int)+1)=0→znj w base S P (doL l d ((seen:Int)+1)) es ts me next ((seen:Int)+1) sent w')∧(doC l d ((seen:Int)+1)≠0→Below w.heap.size w w'):=by
 have HA:Hid (zcn w base S P lv ov tvs l es ts me next seen sent):=h
 have HDO:Hid (∀wk,Below w.heap.size w wk→Calls Tryz.prog 190 #[lv,ddV d,.int .i64 ((seen:Int)+1)] wk fun e w'=>∃v',e= .returned (.tuple #[v',.int .i64 (doC l d ((seen:Int)+1))])∧Own w' wk.heap.size v' (doR l d ((seen:Int)+1))∧Below wk.heap.size wk w'):=fun wk hb=>zvg l d ((seen:Int)+1) lv wk (h.below hb).ownL.lst hl hf
 have HI:Hid (HJ w d (w.alloc (zcc d))):=⟨za1 _ _,zb7 w d⟩
 have hne':(d.by_==me)=false:=by simp[hne]
 have c0:=h.cells.me
 have hPlt:=h.cells.lt
 obtain⟨la,lcap,rfl,_⟩:=h.ownL.lst.len
 have HRL:Hid (doC l d ((seen:Int)+1)=0→doR l d ((seen:Int)+1)=doL l d ((seen:Int)+1)):=fun e=>by rw[doR,if_pos e]
 have HRN:Hid (∃n,l.length=n):=⟨_,rfl⟩
 obtain⟨ll,hll⟩:=HRN.out
 rw[hll]at HA HDO
 obtain⟨kind,by_,no,dseen,at_,many,text⟩:=d
 simp only at hne'
 generalize hcc:doC l ⟨kind,by_,no,dseen,at_,many,text⟩ ((seen:Int)+1)=cc at*
 have HCC:Hid (doC l ⟨kind,by_,no,dseen,at_,many,text⟩ ((seen:Int)+1)=cc):=hcc
 clear h hne hcc hl hf HRN hll
 go_enter Tryz.func166,Tryz.ntmps166
 go_wp2
 go_quiet (fail)
 go_wp2
 have HI1:Hid (HJ w ⟨kind,by_,no,dseen,at_,many,text⟩ ((w.alloc (zcc ⟨kind,by_,no,dseen,at_,many,text⟩)).drewN nq)):=HI.out.after (below_drewN (Below.refl _ _) _)
 unfold zcc at HI1
 generalize (w.alloc (.cells #[.int .i64 kind,.int .i64 by_,.int .i64 no,.int .i64 dseen,.int .i64 at_,.int .i64 many,.string text] 124)).drewN nq=w1 at*
 clear HI c0
 refine wrs (fun wk=>HJ w ⟨kind,by_,no,dseen,at_,many,text⟩ wk) (fun i=>i==10) (fun wk=>HJ w ⟨kind,by_,no,dseen,at_,many,text⟩ wk) (by kernel_rfl) (by kernel_rfl) (by kernel_rfl) (fun _ h=>h) (HI1.out.after (Below.refl _ _).drew) ?_
 refine wss rfl (fun K hK=> ?_)
 go_simp
 refine⟨_,fun _ _=>rfl,hK _ ?_⟩
 clear hK K
 refine wss rfl (fun K hK=> ?_)
 go_simp
 refine⟨_,fun _ _=>rfl,hK _ ?_⟩
 clear hK K
 refine wss rfl (fun K hK=> ?_)
 go_simp
 refine⟨_,fun _ _=>rfl,hK _ ?_⟩
 clear hK K
 refine wss rfl (fun K hK=> ?_)
 go_simp
 refine⟨.slice la ll lcap,fun wk hwk=> ?_,hK _ ?_⟩
 ·have c:=(HA.out.below hwk.below).cells.list
  go_simp
 clear hK K
 refine wss rfl (fun K hK=> ?_)
 go_simp
 refine⟨ddV ⟨kind,by_,no,dseen,at_,many,text⟩,fun wk hwk=> ?_,hK _ ?_⟩
 ·obtain⟨_,c0,c1,c2,c3,c4,c5,c6⟩:=hwk.deed
  simp only[Nat.zero_add]at c0 c1 c2 c3 c4 c5 c6
  go_simp
 clear hK K
 refine wss rfl (fun K hK=> ?_)
 go_simp
 refine⟨_,fun _ _=>rfl,hK _ ?_⟩
 clear hK K
 refine wss rfl (fun K hK=> ?_)
 go_simp
 refine⟨_,fun _ _=>rfl,hK _ ?_⟩
 clear hK K
 refine wss rfl (fun K hK=> ?_)
 go_simp
 refine⟨_,fun _ _=>rfl,hK _ ?_⟩
 clear hK K
 refine wss rfl (fun K hK=> ?_)
 go_simp
 refine⟨.int .i64 seen,fun wk hwk=> ?_,hK _ ?_⟩
 ·have c:=(HA.out.below hwk.below).cells.seen
  go_simp
 clear hK K
 refine wss rfl (fun K hK=> ?_)
 go_simp
 refine⟨.int .i64 ((seen:Int)+1),fun wk hwk=> ?_,hK _ ?_⟩
 ·rw[IntKind.wrap_i64]
  go_simp
  omega
 clear hK K
 refine wsp rfl rfl (fun u=>∃v,u= .tuple #[v,.int .i64 cc]) (fun u wk=>HJ w ⟨kind,by_,no,dseen,at_,many,text⟩ wk∧Did w (doR l ⟨kind,by_,no,dseen,at_,many,text⟩ ((seen:Int)+1)) cc u wk) ⟨_,.bool false,rfl⟩ (fun _ _ h=>h.1) (fun wk hwk=> ?_) (fun v10 hv10=> ?_)
 ·go_simp
  refine(HDO.out wk hwk.below).mono ?_
  rintro e w6 ⟨v,rfl,ho,hb⟩
  exact⟨_,rfl,⟨v,rfl⟩,hwk.after hb,v,wk.heap.size,rfl,hwk.below.size,ho⟩
 obtain⟨v,rfl⟩:=hv10
 refine wss rfl (fun K hK=> ?_)
 go_simp
 refine⟨_,fun _ _=>rfl,hK _ ?_⟩
 clear hK K
 refine wss rfl (fun K hK=> ?_)
 go_simp
 refine⟨_,fun _ _=>rfl,hK _ ?_⟩
 clear hK K
 refine wss rfl (fun K hK=> ?_)
 go_simp
 refine⟨_,fun _ _=>rfl,hK _ ?_⟩
 clear hK K
 refine wss rfl (fun K hK=> ?_)
 go_simp
 refine⟨_,fun _ _=>rfl,hK _ ?_⟩
 clear hK K
 refine wss rfl (fun K hK=> ?_)
 go_simp
 refine⟨_,fun _ _=>rfl,hK _ ?_⟩
 clear hK K
 refine wsn (fun w9 hw9=> ?_)
 have H9:Hid _:=hw9
 clear hw9
 obtain⟨hj,v',wj,he,hle,ho⟩:=H9.out
 have hvv:v=v':=by simpa using he
 subst hvv
 obtain⟨va,vcap,rfl,_⟩:=ho.lst.len
 have HOW:Hid (Own w9 w.heap.size _ (doR l ⟨kind,by_,no,dseen,at_,many,text⟩ ((seen:Int)+1))):=ho.mono hle
 have HJ9:Hid (HJ w ⟨kind,by_,no,dseen,at_,many,text⟩ w9):=hj
 have hc9:=(HA.out.below hj.below).cells
 have hP9:=hc9.lt
 have e3:=hc9.list
 have e2:=hc9.seen
 have f3:=hc9.free 3 (by omega)
 have f2:=hc9.free 2 (by omega)
 clear H9 he ho hj hle hc9 HDO
 generalize (doR l ⟨kind,by_,no,dseen,at_,many,text⟩ ((seen:Int)+1)).length=vl at*
 by_cases hz:cc=0
 ·have hz':(cc != 0)=false:=by simp[hz]
  have HR:Hid (znj w base S P (doL l ⟨kind,by_,no,dseen,at_,many,text⟩ ((seen:Int)+1)) es ts me next ((seen:Int)+1) sent ((w9.setCell ⟨P,3,none⟩ (.slice va vl vcap)).setCell ⟨P,2,none⟩ (.int .i64 ((seen:Int)+1)))):=by
   have ho:=HOW.out
   rw[HRL.out hz]at ho
   have h1:=HA.out.relist HJ9.out.below ho
   have h2:=h1.wrote (h1.cells.setSeen ((seen:Int)+1))
   refine znj.of (by rw[zh8,zh8];exact h2) (((zak.of_below HJ9.out.below).set (p:=⟨P,3,none⟩) HA.out.hP _).set (p:=⟨P,2,none⟩) HA.out.hP _)
  have HZ:Hid (cc=0):=hz
  clear hz HOW HJ9
  go_wp2
  go_ret
  exact⟨zad HZ.out.symm,fun _=>HR.out,fun e=>absurd HZ.out e⟩
 ·have hz':(cc != 0)=true:=by simp[hz]
  have HZ:Hid (cc≠0):=hz
  clear hz
  go_wp2
  go_ret
  exact⟨rfl,fun e=>absurd e HZ.out,fun _=>HJ9.out.below⟩
theorem zxe{w:World}{base P:Nat}{S:Nat→Prop}{lv ov:Value}{tvs:List Value}{l:List Ch}{es:List Dd}{ts:List (List Ch)}{me next seen sent:Int}(h:zcn w base S P lv ov tvs l es ts me next seen sent)(d:Dd)(hb:d.by_=me)(R:Int→World→Prop)
 (hR:∀wk,HJ w d wk→Calls Tryz.prog 194 #[.pointer (some ⟨P,0,none⟩),ddV d] wk fun e w'=>∃c,e= .returned (.int .i64 c)∧R c w'):
 Calls Tryz.prog 166 #[.pointer (some ⟨P,0,none⟩),ddV d] w fun e w'=>∃c,e= .returned (.int .i64 c)∧R c w':=by
 have HI:Hid (HJ w d (w.alloc (zcc d))):=⟨za1 _ _,zb7 w d⟩
 have HR:Hid _:=hR
 have hb':(d.by_==me)=true:=by simp[hb]
 have c0:=h.cells.me
 have hPlt:=h.cells.lt
 obtain⟨kind,by_,no,dseen,at_,many,text⟩:=d
 simp only at hb'
 clear h hb hR
 go_enter Tryz.func166,Tryz.ntmps166
 go_wp2
 go_quiet (fail)
 go_wp2_with fail
 refine(HR.out _ (HI.out.after (below_drewN (Below.refl _ _) _))).mono ?_
 rintro e w2 ⟨c,rfl,hr⟩
 have HE:Hid _:=hr
 clear hr HR HI c0
 go_wp2
 go_ret
 exact⟨c,rfl,HE.out⟩
theorem clear_pw{w:World}{base P:Nat}{S:Nat→Prop}{lv ov:Value}{tvs:List Value}{l:List Ch}{es:List Dd}{ts:List (List Ch)}{me next seen sent:Int}(h:zcn w base S P lv ov tvs l es ts me next seen sent)(hl:l.length≤1000)(least:Int):
 Calls Tryz.prog 121 #[.pointer (some ⟨P,0,none⟩),.int .i64 least] w fun e w'=>e= .returned (.int .i64 ((l.length:Int)-(ofL least l).length))∧znj w base S P (ofL least l) es ts me next seen sent w':=by
 have HA:Hid (zcn w base S P lv ov tvs l es ts me next seen sent):=h
 have HLst:Hid (Lst w lv l):=h.ownL.lst
 have c3:=h.cells.list
 have hPlt:=h.cells.lt
 have hle:=zzc least l
 obtain⟨la,lcap,rfl,_⟩:=h.ownL.lst.len
 clear h
 go_enter Tryz.func121,Tryz.ntmps121
 go_wp2_with fail
 refine(of_lst least HLst.out hl).mono ?_
 rintro e w1 ⟨v1,rfl,ho,hb⟩
 obtain⟨va,vcap,rfl,_⟩:=ho.lst.len
 have hc9:=(HA.out.below hb).cells
 have hP9:=hc9.lt
 have e3:=hc9.list
 have f3:=hc9.free 3 (by omega)
 have HR:Hid (znj w base S P (ofL least l) es ts me next seen sent (w1.setCell ⟨P,3,none⟩ (.slice va (ofL least l).length vcap))):=znj.of (by rw[zh8];exact HA.out.relist hb ho) ((zak.of_below hb).set (p:=⟨P,3,none⟩) HA.out.hP _)
 clear ho hb hc9
 go_wp2
 go_ret
 exact⟨rfl,HR.out⟩
theorem zcb{fn:Func}{p u:Tmp}(hf:fn.results= #[.cell p 124,.tmp u]){R:Ending→World→Prop}{a:Act}{w:World}{B:Nat}{d:Dd}{x:Value}(h:zde w B 0 d)(h2:a.tmps.getD u undef=x)(h3:a.tmps.getD p undef= .pointer (some ⟨B,0,none⟩))(hd:a.defers=[])
 (hR:R (.returned (.tuple #[ddV d,x])) w):bodyPost Tryz.prog fn R Exit.ret a w:=by
 refine bodyPost_ret ?_ hd hR
 obtain⟨_,c0,c1,c2,c3,c4,c5,c6⟩:=h
 simp only[Nat.zero_add]at c0 c1 c2 c3 c4 c5 c6
 have hl:(loadVar 124 ⟨B,0,none⟩).run Tryz.prog w= .ok (ddV d) w:=by
  simp[go_sem,loadVar,loadCells,loadCellsFrom,Sem.run_bind,Tryz.isAgg124,Tryz.sizeOf124,c0,c1,c2,c3,c4,c5,c6]
 have hr:(results fn a.tmps).run Tryz.prog w=((asAddr (a.tmps.getD p undef)).run Tryz.prog w).andThen fun q w₁=>((loadVar 124 q).run Tryz.prog w₁).andThen fun v w₂=> .ok (.tuple #[v,a.tmps.getD u undef]) w₂:=by
  simp only[results,hf]
  simp[Sem.run_bind,Result.andThen]
 rw[hr,h2,h3]
 simp[asAddr,hl]
structure SJ(w:World)(base P:Nat)(S:Nat→Prop)(lv ov:Value)(tvs:List Value)(l:List Ch)(es:List Dd)(ts:List (List Ch))(me next seen sent:Int)(wk:World):Prop where
 at_:zcn wk base S P lv ov tvs l es ts me next seen sent
 kept:zak S w wk
 lt:w.heap.size<wk.heap.size
 free:∀o,o<7→wk.frozen? ⟨w.heap.size,o,none⟩=false
 has:∀o,o<7→∃u,wk.cell? ⟨w.heap.size,o,none⟩=some u
theorem SJ.after{w wk w':World}{base P:Nat}{S:Nat→Prop}{lv ov:Value}{tvs:List Value}{l:List Ch}{es:List Dd}{ts:List (List Ch)}{me next seen sent:Int}(h:SJ w base P S lv ov tvs l es ts me next seen sent wk)(hb:Below wk.heap.size wk w'):SJ w base P S lv ov tvs l es ts me next seen sent w':=
 ⟨h.at_.below hb,h.kept.after hb,Nat.lt_of_lt_of_le h.lt hb.size,fun o ho=>by rw[(zds hb).2 _ _ h.lt];exact h.free o ho,fun o ho=>by rw[(zds hb).1 _ _ h.lt];exact h.has o ho⟩
theorem zde.written{w:World}{E:Nat}(hlt:E<w.heap.size)(d:Dd)(hh:∀o,o<7→∃u,w.cell? ⟨E,o,none⟩=some u):zde (((((((w.setCell ⟨E,0,none⟩ (.int .i64 d.kind)).setCell ⟨E,1,none⟩ (.int .i64 d.by_)).setCell ⟨E,2,none⟩ (.int .i64 d.no)).setCell ⟨E,3,none⟩ (.int .i64 d.seen)).setCell ⟨E,4,none⟩ (.int .i64 d.at_)).setCell ⟨E,5,none⟩ (.int .i64 d.many)).setCell ⟨E,6,none⟩ (.string d.text)) E 0 d:=by
 obtain⟨u0,h0⟩:=hh 0 (by omega)
 obtain⟨u1,h1⟩:=hh 1 (by omega)
 obtain⟨u2,h2⟩:=hh 2 (by omega)
 obtain⟨u3,h3⟩:=hh 3 (by omega)
 obtain⟨u4,h4⟩:=hh 4 (by omega)
 obtain⟨u5,h5⟩:=hh 5 (by omega)
 obtain⟨u6,h6⟩:=hh 6 (by omega)
 refine⟨by simpa [World.setCell]using hlt,?_,?_,?_,?_,?_,?_,?_⟩<;>simp[go_sem,h0,h1,h2,h3,h4,h5,h6]
theorem zgb{w wk:World}{E:Nat}(hE:w.heap.size≤E)(h:Below w.heap.size w wk)(d:Dd):Below w.heap.size w (((((((wk.setCell ⟨E,0,none⟩ (.int .i64 d.kind)).setCell ⟨E,1,none⟩ (.int .i64 d.by_)).setCell ⟨E,2,none⟩ (.int .i64 d.no)).setCell ⟨E,3,none⟩ (.int .i64 d.seen)).setCell ⟨E,4,none⟩ (.int .i64 d.at_)).setCell ⟨E,5,none⟩ (.int .i64 d.many)).setCell ⟨E,6,none⟩ (.string d.text)):=
 ((((((h.setCell (p:=⟨E,_,none⟩) hE _).setCell (p:=⟨E,_,none⟩) hE _).setCell (p:=⟨E,_,none⟩) hE _).setCell (p:=⟨E,_,none⟩) hE _).setCell (p:=⟨E,_,none⟩) hE _).setCell (p:=⟨E,_,none⟩) hE _).setCell (p:=⟨E,_,none⟩) hE _
structure SE(w:World)(base P:Nat)(S:Nat→Prop)(lv ov:Value)(tvs:List Value)(l:List Ch)(es:List Dd)(ts:List (List Ch))(me next seen sent:Int)(d:Dd)(wk:World):Prop where
 at_:zcn wk base S P lv ov tvs l es ts me next seen sent
 kept:zak S w wk
 deed:zde wk w.heap.size 0 d
theorem SJ.put{w wk:World}{base P:Nat}{S:Nat→Prop}{lv ov:Value}{tvs:List Value}{l:List Ch}{es:List Dd}{ts:List (List Ch)}{me next seen sent:Int}(h:SJ w base P S lv ov tvs l es ts me next seen sent wk)(hlo:∀k,S k→k<w.heap.size)(d:Dd):SE w base P S lv ov tvs l es ts me next seen sent d (((((((wk.setCell ⟨w.heap.size,0,none⟩ (.int .i64 d.kind)).setCell ⟨w.heap.size,1,none⟩ (.int .i64 d.by_)).setCell ⟨w.heap.size,2,none⟩ (.int .i64 d.no)).setCell ⟨w.heap.size,3,none⟩ (.int .i64 d.seen)).setCell ⟨w.heap.size,4,none⟩ (.int .i64 d.at_)).setCell ⟨w.heap.size,5,none⟩ (.int .i64 d.many)).setCell ⟨w.heap.size,6,none⟩ (.string d.text)):=by
 have hk:zak (fun k=>k=w.heap.size) wk (((((((wk.setCell ⟨w.heap.size,0,none⟩ (.int .i64 d.kind)).setCell ⟨w.heap.size,1,none⟩ (.int .i64 d.by_)).setCell ⟨w.heap.size,2,none⟩ (.int .i64 d.no)).setCell ⟨w.heap.size,3,none⟩ (.int .i64 d.seen)).setCell ⟨w.heap.size,4,none⟩ (.int .i64 d.at_)).setCell ⟨w.heap.size,5,none⟩ (.int .i64 d.many)).setCell ⟨w.heap.size,6,none⟩ (.string d.text)):=by
  have h0:zak (fun k=>k=w.heap.size) wk wk:=zak.refl _ _
  exact((((((h0.set (p:=⟨w.heap.size,_,none⟩) rfl _).set (p:=⟨w.heap.size,_,none⟩) rfl _).set (p:=⟨w.heap.size,_,none⟩) rfl _).set (p:=⟨w.heap.size,_,none⟩) rfl _).set (p:=⟨w.heap.size,_,none⟩) rfl _).set (p:=⟨w.heap.size,_,none⟩) rfl _).set (p:=⟨w.heap.size,_,none⟩) rfl _
 refine⟨h.at_.kept hk (fun k hs e=>by have:=hlo k hs;omega),⟨hk.os.trans h.kept.os,hk.tape.trans h.kept.tape,hk.output.trans h.kept.output,Nat.le_trans h.kept.size hk.size,fun k hk' hn=>(hk.block k (Nat.lt_of_lt_of_le hk' h.kept.size) (by omega)).trans (h.kept.block k hk' hn)⟩,zde.written h.lt d h.has⟩
theorem qe3{w:World}{base P:Nat}{S:Nat→Prop}{lv ov:Value}{tvs:List Value}{l:List Ch}{es:List Dd}{ts:List (List Ch)}{me next seen:Int}{sent:Nat}(h:zcn w base S P lv ov tvs l es ts me next seen sent)(hs:sent=es.length):
 Calls Tryz.prog 163 #[.pointer (some ⟨P,0,none⟩)] w fun e w'=>e= .returned (.tuple #[ddV ⟨0,0,0,0,0,0,⟨#[]⟩⟩,.bool false])∧Below w.heap.size w w':=by
 obtain⟨a,cap,rfl⟩:=h.topen.form
 have c4:=h.cells.opens
 have c5:=h.cells.sent
 have hPlt:=h.cells.lt
 have HZ:Hid (zde (w.alloc (zcc ⟨0,0,0,0,0,0,⟨#[]⟩⟩)) w.heap.size 0 ⟨0,0,0,0,0,0,⟨#[]⟩⟩):=zb7 w _
 rw[←hs]at c4
 clear h hs
 go_enter Tryz.func163,Tryz.ntmps163
 go_wp2
 go_quiet (fail)
 go_wp2
 have HZ2:=HZ.out.below (below_drewN (Below.refl _ (w.alloc (zcc ⟨0,0,0,0,0,0,⟨#[]⟩⟩))) nq)
 obtain⟨z,z0,z1,z2,z3,z4,z5,z6⟩:=HZ2
 simp only[Nat.zero_add]at z0 z1 z2 z3 z4 z5 z6
 refine zcb (d:=⟨0,0,0,0,0,0,⟨#[]⟩⟩) rfl (zde.written z ⟨0,0,0,0,0,0,⟨#[]⟩⟩ (fun o ho=> ?_)) rfl rfl rfl ?_
 ·rcases(show o=0∨o=1∨o=2∨o=3∨o=4∨o=5∨o=6 by omega)with rfl|rfl|rfl|rfl|rfl|rfl|rfl
  all_goals first|exact⟨_,z0⟩|exact⟨_,z1⟩|exact⟨_,z2⟩|exact⟨_,z3⟩|exact⟨_,z4⟩|exact⟨_,z5⟩|exact⟨_,z6⟩
 ·exact⟨rfl,zgb (Nat.le_refl _) (below_drewN (za1 _ _) _) ⟨0,0,0,0,0,0,⟨#[]⟩⟩⟩
theorem zu4{w:World}{base P:Nat}{S:Nat→Prop}{lv ov:Value}{tvs:List Value}{l:List Ch}{es:List Dd}{ts:List (List Ch)}{me next seen:Int}{sent:Nat}(h:zcn w base S P lv ov tvs l es ts me next seen sent)(hs:sent<es.length)(hes:es.length≤1000):
 Calls Tryz.prog 163 #[.pointer (some ⟨P,0,none⟩)] w fun e w'=>e= .returned (.tuple #[ddV es[sent],.bool true])∧znj w base S P l es ts me next seen ((sent:Int)+1) w':=by
 have HA:Hid (zcn w base S P lv ov tvs l es ts me next seen sent):=h
 have HLO:Hid (∀k,S k→k<w.heap.size):=fun k hk=>(h.lo k hk).2
 obtain⟨g,cap,rfl⟩:=h.topen.place (by omega)
 have hv:sent<tvs.length:=by rw[h.len];exact hs
 have c4:=h.cells.opens
 have c5:=h.cells.sent
 have hPlt:=h.cells.lt
 have f5:=h.cells.free 5 (by omega)
 have hne:((sent:Int)==(es.length:Int))=false:=by simp;omega
 have hs':(sent:Int)<(es.length:Int):=by omega
 have HNTH:Hid (∀wk s',zcn wk base S P lv (.slice (some ⟨g,0,none⟩) es.length cap) tvs l es ts me next seen s'→OoAt wk g (sent*8) es[sent] tvs[sent]):=fun wk s' hk=>hk.topen.nth rfl hs hv
 have HJ0:Hid (SJ w base P S lv (.slice (some ⟨g,0,none⟩) es.length cap) tvs l es ts me next seen sent (w.alloc (zcc ⟨0,0,0,0,0,0,⟨#[]⟩⟩))):=by
  refine⟨h.below (za1 _ _),.of_below (za1 _ _),by simp,fun o ho=> ?_,fun o ho=> ?_⟩
  ·rcases(show o=0∨o=1∨o=2∨o=3∨o=4∨o=5∨o=6 by omega)with rfl|rfl|rfl|rfl|rfl|rfl|rfl<;>simp[go_sem]
  ·rcases(show o=0∨o=1∨o=2∨o=3∨o=4∨o=5∨o=6 by omega)with rfl|rfl|rfl|rfl|rfl|rfl|rfl<;>simp[go_sem]
 generalize hed:es[sent]=ed at*
 generalize tvs[sent]=etv at*
 obtain⟨ekind,eby,eno,eseen,eat,emany,etext⟩:=ed
 clear h hed
 go_enter Tryz.func163,Tryz.ntmps163
 go_wp2
 go_quiet (fail)
 go_wp2
 have HJ1:Hid (SJ w base P S lv (.slice (some ⟨g,0,none⟩) es.length cap) tvs l es ts me next seen ((sent:Int)+1) (((w.alloc (zcc ⟨0,0,0,0,0,0,⟨#[]⟩⟩)).drewN nq).setCell ⟨P,5,none⟩ (.int .i64 ((sent:Int)+1)))):=by
  have h1:=HJ0.out.after (below_drewN (Below.refl _ (w.alloc (zcc ⟨0,0,0,0,0,0,⟨#[]⟩⟩))) nq)
  have hw:=h1.at_.wrote (h1.at_.cells.setSent ((sent:Int)+1))
  have hPw:P≠w.heap.size:=by have:=HLO.out P h1.at_.hP;omega
  have hb:=Below.heap_setCell ((w.alloc (zcc ⟨0,0,0,0,0,0,⟨#[]⟩⟩)).drewN nq) ⟨P,5,none⟩ (.int .i64 ((sent:Int)+1)) w.heap.size (fun e=>hPw e.symm)
  refine⟨hw,h1.kept.set (p:=⟨P,5,none⟩) h1.at_.hP _,by simp[World.setCell],fun o ho=> ?_,fun o ho=> ?_⟩
  ·rw[World.frozen?_of_block (a:=⟨w.heap.size,o,none⟩) hb];exact h1.free o ho
  ·rw[World.cell?_of_block (a:=⟨w.heap.size,o,none⟩) hb];exact h1.has o ho
 unfold zcc at HJ1
 generalize ((w.alloc (.cells #[.int .i64 0,.int .i64 0,.int .i64 0,.int .i64 0,.int .i64 0,.int .i64 0,.string ⟨#[]⟩] 124)).drewN nq).setCell ⟨P,5,none⟩ (.int .i64 ((sent:Int)+1))=w1 at*
 clear HJ0 c4 c5 f5
 refine wrs (fun wk=>zcn wk base S P lv (.slice (some ⟨g,0,none⟩) es.length cap) tvs l es ts me next seen ((sent:Int)+1)) (fun i=>i==12) (fun wk=>SJ w base P S lv (.slice (some ⟨g,0,none⟩) es.length cap) tvs l es ts me next seen ((sent:Int)+1) wk) (by kernel_rfl) (by kernel_rfl) (by kernel_rfl) (fun _ h=>h.at_) (HJ1.out.after (Below.refl _ _).drew) ?_
 refine wss rfl (fun K hK=> ?_)
 go_simp
 refine⟨_,fun _ _=>rfl,hK _ ?_⟩
 clear hK K
 refine wss rfl (fun K hK=> ?_)
 go_simp
 refine⟨_,fun _ _=>rfl,hK _ ?_⟩
 clear hK K
 refine wss rfl (fun K hK=> ?_)
 go_simp
 refine⟨_,fun _ _=>rfl,hK _ ?_⟩
 clear hK K
 refine wss rfl (fun K hK=> ?_)
 go_simp
 refine⟨.slice (some ⟨g,0,none⟩) es.length cap,fun wk hwk=> ?_,hK _ ?_⟩
 ·have c:=hwk.cells.opens
  go_simp
 clear hK K
 refine wss rfl (fun K hK=> ?_)
 go_simp
 refine⟨_,fun _ _=>rfl,hK _ ?_⟩
 clear hK K
 refine wss rfl (fun K hK=> ?_)
 go_simp
 refine⟨_,fun _ _=>rfl,hK _ ?_⟩
 clear hK K
 refine wss rfl (fun K hK=> ?_)
 go_simp
 refine⟨_,fun _ _=>rfl,hK _ ?_⟩
 clear hK K
 refine wss rfl (fun K hK=> ?_)
 go_simp
 refine⟨.int .i64 ((sent:Int)+1),fun wk hwk=> ?_,hK _ ?_⟩
 ·have c:=hwk.cells.sent
  go_simp
 clear hK K
 refine wss rfl (fun K hK=> ?_)
 go_simp
 refine⟨.int .i64 sent,fun wk hwk=> ?_,hK _ ?_⟩
 ·rw[IntKind.wrap_i64]
  go_simp
  omega
 clear hK K
 refine wss rfl (fun K hK=> ?_)
 go_simp
 refine⟨.pointer (some ⟨g,sent*8,none⟩),fun wk hwk=> ?_,hK _ ?_⟩
 ·go_simp
 clear hK K
 refine wss rfl (fun K hK=> ?_)
 go_simp
 refine⟨_,fun _ _=>rfl,hK _ ?_⟩
 clear hK K
 refine wss rfl (fun K hK=> ?_)
 go_simp
 refine⟨ddV ⟨ekind,eby,eno,eseen,eat,emany,etext⟩,fun wk hwk=> ?_,hK _ ?_⟩
 ·obtain⟨⟨_,c0,c1,c2,c3,c4,c5,c6⟩,_⟩:=HNTH.out wk _ hwk
  simp only[]at c0 c1 c2 c3 c4 c5 c6
  go_simp
 clear hK K
 refine wsp rfl rfl (fun u=>u= .tuple #[]) (fun u wk=>SE w base P S lv (.slice (some ⟨g,0,none⟩) es.length cap) tvs l es ts me next seen ((sent:Int)+1) ⟨ekind,eby,eno,eseen,eat,emany,etext⟩ wk) ⟨_,rfl⟩ (fun _ _ h=>h.at_) (fun wk hwk=> ?_) (fun v12 hv12=> ?_)
 ·have hlt:=hwk.lt
  obtain⟨y0,z0⟩:=hwk.has 0 (by omega)
  obtain⟨y1,z1⟩:=hwk.has 1 (by omega)
  obtain⟨y2,z2⟩:=hwk.has 2 (by omega)
  obtain⟨y3,z3⟩:=hwk.has 3 (by omega)
  obtain⟨y4,z4⟩:=hwk.has 4 (by omega)
  obtain⟨y5,z5⟩:=hwk.has 5 (by omega)
  obtain⟨y6,z6⟩:=hwk.has 6 (by omega)
  have f0:=hwk.free 0 (by omega)
  have f1:=hwk.free 1 (by omega)
  have f2:=hwk.free 2 (by omega)
  have f3:=hwk.free 3 (by omega)
  have f4:=hwk.free 4 (by omega)
  have f5:=hwk.free 5 (by omega)
  have f6:=hwk.free 6 (by omega)
  have hp:=hwk.put HLO.out ⟨ekind,eby,eno,eseen,eat,emany,etext⟩
  go_simp
  exact⟨rfl,hp⟩
 refine wss rfl (fun K hK=> ?_)
 go_simp
 refine⟨_,fun _ _=>rfl,hK _ ?_⟩
 clear hK K
 refine wsn (fun w9 hw9=> ?_)
 have H9:Hid _:=hw9
 clear hw9
 go_wp2
 refine zcb (d:=⟨ekind,eby,eno,eseen,eat,emany,etext⟩) rfl H9.out.deed rfl rfl rfl ?_
 exact⟨rfl,znj.of (H9.out.at_.mono (fun _=> .inl) (zkq HA.out.base_le H9.out.kept.size HA.out.lo)) H9.out.kept⟩
structure WBox(P:Nat)(me seen:Int)(B:Nat)(w:World):Prop where
 lt:B<w.heap.size
 at_:w.cell? ⟨B,0,none⟩=some (.pointer (some ⟨P,0,none⟩))
 pl:P<w.heap.size
 me:w.cell? ⟨P,0,none⟩=some (.int .i64 me)
 seen:w.cell? ⟨P,2,none⟩=some (.int .i64 seen)
theorem WBox.low{w w':World}{P B base:Nat}{me seen:Int}(h:WBox P me seen B w)(hB:B<base)(hP:P<base)(hb:Below base w w'):WBox P me seen B w':=
 ⟨Nat.lt_of_lt_of_le h.lt hb.size,by rw[hb.cell (p:=⟨B,0,none⟩) hB];exact h.at_,Nat.lt_of_lt_of_le h.pl hb.size,by rw[hb.cell (p:=⟨P,0,none⟩) hP];exact h.me,by rw[hb.cell (p:=⟨P,2,none⟩) hP];exact h.seen⟩
theorem zq1(x:Ch)(P B:Nat)(me seen:Int)(w:World)(h:WBox P me seen B w):
 Calls Tryz.prog 222 (#[chV x]++ #[.pointer (some ⟨B,0,none⟩)]) w fun e w'=>e= .returned (.bool (!za5 seen me x))∧Below w.heap.size w w':=by
 have HW:Hid (WBox P me seen B w):=h
 have HI:Hid (Below w.heap.size w (w.alloc (zpo x))):=za1 _ _
 have HX:Hid (At (w.alloc (zpo x)) w.heap.size 0 x):=by refine⟨?_,?_,?_,?_,?_,?_,?_⟩<;>simp[go_sem]
 obtain⟨xc,xb,xn,xk,xi,xo,xg⟩:=x
 clear h
 go_enter Tryz.func222,Tryz.ntmps222
 go_wp2
 refine wrs (fun wk=>Below (w.heap.size+1) (w.alloc (zpo ⟨xc,xb,xn,xk,xi,xo,xg⟩)) wk) (fun i=>i==9) (fun wk=>Below (w.heap.size+1) (w.alloc (zpo ⟨xc,xb,xn,xk,xi,xo,xg⟩)) wk) (by kernel_rfl) (by kernel_rfl) (by kernel_rfl) (fun _ h=>h) (((Below.refl _ _).drew)) ?_
 refine wss rfl (fun K hK=> ?_)
 go_simp
 refine⟨chV ⟨xc,xb,xn,xk,xi,xo,xg⟩,fun wk hwk=> ?_,hK _ ?_⟩
 ·have hx:=(CBox.low (B:=w.heap.size) (base:=w.heap.size+1) ⟨by simp,HX.out⟩ (Nat.lt_succ_self _) hwk).at_
  obtain⟨c0,c1,c2,c3,c4,c5,c6⟩:=hx
  simp only[Nat.zero_add]at c0 c1 c2 c3 c4 c5 c6
  go_simp
 clear hK K
 refine wss rfl (fun K hK=> ?_)
 go_simp
 refine⟨.pointer (some ⟨P,0,none⟩),fun wk hwk=> ?_,hK _ ?_⟩
 ·have hb:=(HW.out.low (base:=w.heap.size) HW.out.lt HW.out.pl (HI.out.trans (hwk.mono (by omega))))
  have c:=hb.at_
  go_simp
 clear hK K
 refine wss rfl (fun K hK=> ?_)
 go_simp
 refine⟨_,fun _ _=>rfl,hK _ ?_⟩
 clear hK K
 refine wss rfl (fun K hK=> ?_)
 go_simp
 refine⟨_,fun _ _=>rfl,hK _ ?_⟩
 clear hK K
 refine wss rfl (fun K hK=> ?_)
 go_simp
 refine⟨.int .i64 seen,fun wk hwk=> ?_,hK _ ?_⟩
 ·have hb:=(HW.out.low (base:=w.heap.size) HW.out.lt HW.out.pl (HI.out.trans (hwk.mono (by omega))))
  have c:=hb.seen
  go_simp
 clear hK K
 refine wss rfl (fun K hK=> ?_)
 go_simp
 refine⟨.pointer (some ⟨P,0,none⟩),fun wk hwk=> ?_,hK _ ?_⟩
 ·have hb:=(HW.out.low (base:=w.heap.size) HW.out.lt HW.out.pl (HI.out.trans (hwk.mono (by omega))))
  have c:=hb.at_
  go_simp
 clear hK K
 refine wss rfl (fun K hK=> ?_)
 go_simp
 refine⟨_,fun _ _=>rfl,hK _ ?_⟩
 clear hK K
 refine wss rfl (fun K hK=> ?_)
 go_simp
 refine⟨_,fun _ _=>rfl,hK _ ?_⟩
 clear hK K
 refine wss rfl (fun K hK=> ?_)
 go_simp
 refine⟨.int .i64 me,fun wk hwk=> ?_,hK _ ?_⟩
 ·have hb:=(HW.out.low (base:=w.heap.size) HW.out.lt HW.out.pl (HI.out.trans (hwk.mono (by omega))))
  have c:=hb.me
  go_simp
 clear hK K
 refine wsp rfl rfl (fun u=>u= .bool (za5 seen me ⟨xc,xb,xn,xk,xi,xo,xg⟩)) (fun u wk=>Below w.heap.size w wk∧Below (w.heap.size+1) (w.alloc (zpo ⟨xc,xb,xn,xk,xi,xo,xg⟩)) wk) ⟨_,rfl⟩ (fun _ _ h=>h.2) (fun wk hwk=> ?_) (fun v9 hv9=> ?_)
 ·go_simp
  refine(zjq ⟨xc,xb,xn,xk,xi,xo,xg⟩ seen me wk).mono ?_
  rintro e w5 ⟨rfl,hb⟩
  exact⟨_,rfl,rfl,bla (HI.out.trans (hwk.mono (by omega))) hb,hwk.trans (hb.mono (by have:=hwk.size;simp at this;omega))⟩
 subst hv9
 refine wss rfl (fun K hK=> ?_)
 go_simp
 refine⟨_,fun _ _=>rfl,hK _ ?_⟩
 clear hK K
 refine wss rfl (fun K hK=> ?_)
 go_simp
 refine⟨_,fun _ _=>rfl,hK _ ?_⟩
 clear hK K
 refine wsn (fun w9 hw9=> ?_)
 have H9:Hid _:=hw9
 clear hw9
 go_wp2
 go_ret
 exact⟨rfl,H9.out.1⟩
theorem qgm:∀args w,Sem.run Tryz.prog (callFunc 222 args) w= .ok (.enter 222 args) w:=fun _ _=>by kernel_rfl
theorem zwn(P B base:Nat)(me seen:Int)(hB:B<base)(hP:P<base):zt8 222 #[.pointer (some ⟨B,0,none⟩)] (fun x=> !za5 seen me x) base (WBox P me seen B):=
 ⟨qgm,fun x w h=>zq1 x P B me seen w h,fun _ _ h hb=>h.low hB hP hb⟩
theorem zwp(a:Option Addr)(len cap i j:Nat)(hij:i≤j)(hj:j≤cap)(w:World):(Instr.sliceAt 91 (.slice a len cap) (some (.int .i64 i)) (some (.int .i64 j)) none).run Tryz.prog w= .ok (sliced a i j cap 7) w:=by
 rw[run_sliceAt_slice _ _ _ _ _ _ zhk,run_slice_lh _ _ _ _ _ zhk _ _ _ _ (by omega) (by omega) (by omega),zmm,zol]
 rfl
theorem lst_mid{w:World}{a:Option Addr}{cap:Nat}{l:List Ch}(h:Lst w (.slice a l.length cap) l){i j:Nat}(hij:i≤j)(hj:j≤l.length):Lst w (sliced a i j cap 7) ((l.drop i).take (j-i)):=by
 have h1:=zi9 h hj
 have e:(l.take j).length=j:=by rw[List.length_take];omega
 have e1:sliced a 0 j cap 7= .slice (if cap=0 then a else a.map (·.add (0*7))) (l.take j).length cap:=by
  unfold sliced
  rw[e,Nat.sub_zero,Nat.sub_zero]
 rw[e1]at h1
 have h2:=zia h1 (k:=i) (by rw[e];exact hij)
 have e2:sliced (if cap=0 then a else a.map (·.add (0*7))) i (l.take j).length cap 7=sliced a i j cap 7:=by
  unfold sliced
  rw[e]
  by_cases hc:cap=i
  ·rw[if_pos hc,if_pos hc]
   by_cases h0:cap=0
   ·rw[if_pos h0]
   ·rw[if_neg h0]
    cases a with
    |none=>rfl
    |some ad=>simp[Addr.add_zero']
  ·rw[if_neg hc,if_neg hc]
   by_cases h0:cap=0
   ·rw[if_pos h0]
   ·rw[if_neg h0]
    cases a with
    |none=>rfl
    |some ad=>simp[Addr.add_zero']
 rw[e2,List.drop_take]at h2
 exact h2
theorem zxq(seen me:Int)(l:List Ch):(l.filter fun x=> !(!za5 seen me x))=l.filter (za5 seen me):=by
 apply List.filter_congr
 intro x _
 simp
theorem zu6{w:World}{base P:Nat}{S:Nat→Prop}{lv ov:Value}{tvs:List Value}{l:List Ch}{es:List Dd}{ts:List (List Ch)}{me next seen sent:Int}(h:zcn w base S P lv ov tvs l es ts me next seen sent)(hl:l.length≤1000)(i m:Nat)(him:i+m≤(l.filter (za5 seen me)).length):
 Calls Tryz.prog 192 #[.pointer (some ⟨P,0,none⟩),.int .i64 i,.int .i64 m] w fun e w'=>∃v',e= .returned v'∧Own w' w.heap.size v' (((l.filter (za5 seen me)).drop i).take m)∧Below w.heap.size w w':=by
 have HB0:Hid (Below w.heap.size w (w.alloc (.cells #[.pointer (some ⟨P,0,none⟩)] 56))):=za1 _ _
 have HA1:Hid (zcn (w.alloc (.cells #[.pointer (some ⟨P,0,none⟩)] 56)) base S P lv ov tvs l es ts me next seen sent):=h.below HB0.out
 have hPlt:=h.cells.lt
 have HWB:Hid (WBox P me seen w.heap.size (w.alloc (.cells #[.pointer (some ⟨P,0,none⟩)] 56))):=⟨by simp,by simp[go_sem],by simp;omega,HA1.out.cells.me,HA1.out.cells.seen⟩
 have hfl:(l.filter (za5 seen me)).length≤1000:=Nat.le_trans (List.length_filter_le _ _) hl
 have hmf:∀(fn:Fn) (first cap:Array Value) (w:World),(Instr.makeFunc fn first cap).run Tryz.prog w= .ok (.func fn first cap) w:=fun _ _ _ _=>rfl
 have HPL:Hid (P<w.heap.size):=hPlt
 clear h
 go_enter Tryz.func192,Tryz.ntmps192
 go_wp2_with fail
 refine(chars_pw HA1.out hl).mono ?_
 rintro e w1 ⟨v1,rfl,ho1,hb1⟩
 have HO1:Hid (Own w1 (w.heap.size+1) v1 l):=by
  have e1:(w.alloc (.cells #[.pointer (some ⟨P,0,none⟩)] 56)).heap.size=w.heap.size+1:=by simp
  rw[←e1];exact ho1
 have HW1:Hid (WBox P me seen w.heap.size w1):=HWB.out.low (base:=(w.alloc (.cells #[.pointer (some ⟨P,0,none⟩)] 56)).heap.size) HWB.out.lt HWB.out.pl hb1
 have HB1:Hid (Below w.heap.size w w1):=bla HB0.out hb1
 have hs1:w.heap.size+1≤w1.heap.size:=by have:=hb1.size;simpa using this
 have c0:=HW1.out.at_
 clear ho1 hb1 HWB HA1 HB0
 go_wp2_with fail
 refine(zka (zwn P w.heap.size (w.heap.size+1) me seen (Nat.lt_succ_self _) (by have:=HPL.out;omega)) HO1.out hs1 hl HW1.out).mono ?_
 rintro e w2 ⟨v2,rfl,ho2,hb2⟩
 rw[zxq]at ho2
 have HB2:Hid (Below w.heap.size w w2):=HB1.out.trans (hb2.mono (by omega))
 obtain⟨va,vcap,rfl,hvc⟩:=ho2.lst.len
 have HL2:Hid (Lst w2 (.slice va (l.filter (za5 seen me)).length vcap) (l.filter (za5 seen me))):=ho2.lst
 have HMV:Hid (∀w,(Instr.sliceAt 91 (.slice va (l.filter (za5 seen me)).length vcap) (some (.int .i64 i)) (some (.int .i64 ((i:Int)+m))) none).run Tryz.prog w= .ok (sliced va i (i+m) vcap 7) w):=fun w=>by
  have:=zwp va (l.filter (za5 seen me)).length vcap i (i+m) (by omega) (by omega) w
  simpa using this
 have HLM:Hid (Lst w2 (sliced va i (i+m) vcap 7) (((l.filter (za5 seen me)).drop i).take m)):=by
  have:=lst_mid HL2.out (i:=i) (j:=i+m) (by omega) him
  rw[show i+m-i=m by omega]at this
  exact this
 have HLN:Hid ((((l.filter (za5 seen me)).drop i).take m).length≤100000):=by show _≤_;rw[List.length_take,List.length_drop];omega
 have hsv:=HMV.out
 obtain⟨sa,sl,sc,hsl⟩:∃sa sl sc,sliced va i (i+m) vcap 7= .slice sa sl sc:=⟨_,_,_,rfl⟩
 rw[hsl]at hsv
 rw[hsl]at HLM
 clear ho2 hb2 HO1 HW1 HB1 hmf c0 HMV hsl
 generalize (l.filter (za5 seen me)).length=fl at*
 go_wp2_with fail
 refine(zhw HLM.out HLN.out).mono ?_
 rintro e w3 ⟨v3,rfl,ho3,hb3⟩
 have HR:Hid (Own w3 w.heap.size v3 (((l.filter (za5 seen me)).drop i).take m)∧Below w.heap.size w w3):=⟨ho3.mono HB2.out.size,bla HB2.out hb3⟩
 clear ho3 hb3 HLM HLN hsv HL2
 go_wp2
 go_ret
 exact⟨_,rfl,HR.out⟩
end Go.Proofs.YtcbnnfeelhlapadGreatDoor