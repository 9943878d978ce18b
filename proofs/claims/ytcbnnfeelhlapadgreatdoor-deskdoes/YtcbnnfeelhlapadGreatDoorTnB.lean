/-
  WScC, TnA, TnB.
-/
import Derived.Test.YtcbnnfeelhlapadGreatDoorWScB
import Derived.Test.YtcbnnfeelhlapadGreatDoorTnMem
namespace Go.Proofs.YtcbnnfeelhlapadGreatDoor
set_option maxHeartbeats 6400000
set_option maxRecDepth 20000
open Go.RowKit
variable {w wk:World} {base Q sent:Nat} {S:Nat->Prop} {bv ov:Value} {l:List Ch} {es:List Dd} {me seen next:Int} {d:Dd}
theorem zwk(h:zfw w base S Q bv ov l es me seen next sent)(hs:sent=es.length):
 Calls Tryz.prog 95 #[.pointer (some ⟨Q,0,none⟩)] w fun e w'=>e= .returned (.tuple #[ddV ⟨0,0,0,0,0,0,⟨#[]⟩⟩,.bool false])/\Below w.heap.size w w':=by
 obtain⟨a,cap,rfl⟩:=zfx.len h.ownO
 have c4:=h.cells.opens
 have c5:=h.cells.sent
 have hPlt:=h.cells.lt
 have HZ:Hid (zdq (w.alloc (zd9 ⟨0,0,0,0,0,0,⟨#[]⟩⟩)) w.heap.size 0 ⟨0,0,0,0,0,0,⟨#[]⟩⟩):=zb4 w _
 rw[<-hs]at c4
 have hge:(sent:Int)<=(sent:Int):=Int.le_refl _
 clear h hs
 go_enter Tryz.func95,Tryz.ntmps95
 go_wp2
 go_quiet (fail)
 go_wp2
 have HZ2:=HZ.out.below (below_drewN (Below.refl _ (w.alloc (zd9 ⟨0,0,0,0,0,0,⟨#[]⟩⟩))) nq)
 obtain⟨z,z0,z1,z2,z3,z4,z5,z6⟩:=HZ2
 simp only[Nat.zero_add]at z0 z1 z2 z3 z4 z5 z6
 refine zc7 (d:=⟨0,0,0,0,0,0,⟨#[]⟩⟩) rfl (zdq.written z ⟨0,0,0,0,0,0,⟨#[]⟩⟩ (fun o ho=> ?_)) rfl rfl rfl ?_
 ·rcases zm0 ho with rfl|rfl|rfl|rfl|rfl|rfl|rfl
  all_goals first|exact⟨_,z0⟩|exact⟨_,z1⟩|exact⟨_,z2⟩|exact⟨_,z3⟩|exact⟨_,z4⟩|exact⟨_,z5⟩|exact⟨_,z6⟩
 exact⟨rfl,zgc (Nat.le_refl _) (below_drewN (za2 _ _) _) ⟨0,0,0,0,0,0,⟨#[]⟩⟩⟩
structure TJ(w:World)(base Q:Nat)(S:Nat->Prop)(bv ov:Value)(l:List Ch)(es:List Dd)(me seen next sent:Int)(wk:World):Prop where
 at_:zfw wk base S Q bv ov l es me seen next sent
 kept:zam S w wk
 lt:w.heap.size<wk.heap.size
 free:∀o,o<7->wk.frozen? ⟨w.heap.size,o,none⟩=false
 has:∀o,o<7->∃u,wk.cell? ⟨w.heap.size,o,none⟩=some u
theorem TJ.after{w wk w':World}{base Q:Nat}{S:Nat->Prop}{bv ov:Value}{l:List Ch}{es:List Dd}{me seen next sent:Int}(h:TJ w base Q S bv ov l es me seen next sent wk)(hb:Below wk.heap.size wk w'):TJ w base Q S bv ov l es me seen next sent w':=
 ⟨h.at_.below hb,h.kept.after hb,Nat.lt_of_lt_of_le h.lt hb.size,fun o ho=>by rw[(zdp hb).2 _ _ h.lt];exact h.free o ho,fun o ho=>by rw[(zdp hb).1 _ _ h.lt];exact h.has o ho⟩
structure TE(w:World)(base Q:Nat)(S:Nat->Prop)(bv ov:Value)(l:List Ch)(es:List Dd)(me seen next sent:Int)(d:Dd)(wk:World):Prop where
 at_:zfw wk base S Q bv ov l es me seen next sent
 kept:zam S w wk
 deed:zdq wk w.heap.size 0 d
theorem TJ.put{sent:Int}(h:TJ w base Q S bv ov l es me seen next sent wk)(hlo:∀k,S k->k<w.heap.size)(d:Dd):TE w base Q S bv ov l es me seen next sent d (((((((wk.setCell ⟨w.heap.size,0,none⟩ (.int .i64 d.kind)).setCell ⟨w.heap.size,1,none⟩ (.int .i64 d.by_)).setCell ⟨w.heap.size,2,none⟩ (.int .i64 d.no)).setCell ⟨w.heap.size,3,none⟩ (.int .i64 d.seen)).setCell ⟨w.heap.size,4,none⟩ (.int .i64 d.at_)).setCell ⟨w.heap.size,5,none⟩ (.int .i64 d.many)).setCell ⟨w.heap.size,6,none⟩ (.string d.text)):=by
 have hk:zam (fun k=>k=w.heap.size) wk (((((((wk.setCell ⟨w.heap.size,0,none⟩ (.int .i64 d.kind)).setCell ⟨w.heap.size,1,none⟩ (.int .i64 d.by_)).setCell ⟨w.heap.size,2,none⟩ (.int .i64 d.no)).setCell ⟨w.heap.size,3,none⟩ (.int .i64 d.seen)).setCell ⟨w.heap.size,4,none⟩ (.int .i64 d.at_)).setCell ⟨w.heap.size,5,none⟩ (.int .i64 d.many)).setCell ⟨w.heap.size,6,none⟩ (.string d.text)):=by
  have h0:zam (fun k=>k=w.heap.size) wk wk:=zam.refl _ _
  exact((((((h0.set (p:=⟨w.heap.size,_,none⟩) rfl _).set (p:=⟨w.heap.size,_,none⟩) rfl _).set (p:=⟨w.heap.size,_,none⟩) rfl _).set (p:=⟨w.heap.size,_,none⟩) rfl _).set (p:=⟨w.heap.size,_,none⟩) rfl _).set (p:=⟨w.heap.size,_,none⟩) rfl _).set (p:=⟨w.heap.size,_,none⟩) rfl _
 refine⟨h.at_.kept hk (fun k hs e=>by have:=hlo k hs;omega),⟨hk.os.trans h.kept.os,hk.tape.trans h.kept.tape,hk.output.trans h.kept.output,Nat.le_trans h.kept.size hk.size,fun k hk' hn=>(hk.block k (Nat.lt_of_lt_of_le hk' h.kept.size) (by omega)).trans (h.kept.block k hk' hn)⟩,zdq.written h.lt d h.has⟩
theorem zol(h:zfw w base S Q bv ov l es me seen next sent)(hs:sent<es.length)(hes:es.length<=1000):
 Calls Tryz.prog 95 #[.pointer (some ⟨Q,0,none⟩)] w fun e w'=>e= .returned (.tuple #[ddV es[sent],.bool true])/\zt9 w base S Q l es me seen next ((sent:Int)+1) w':=by
 have HA:=hid h
 have HLO:Hid (∀k,S k->k<w.heap.size):=fun k hk=>(h.lo k hk).2
 obtain⟨g,cap,hov,_⟩:=h.ownO.nth hs
 subst hov
 have c4:=h.cells.opens
 have c5:=h.cells.sent
 have hPlt:=h.cells.lt
 have f5:=h.cells.free 5 (by omega)
 have hs':(sent:Int)<(es.length:Int):=by omega
 have hnge:¬(es.length:Int)<=(sent:Int):=by omega
 have HNTH:Hid (∀wk s',zfw wk base S Q bv (.slice (some ⟨g,0,none⟩) es.length cap) l es me seen next s'->zdq wk g (sent*7) es[sent]):=fun wk s' hk=>by
  obtain⟨g',cap',e,hd⟩:=hk.ownO.nth hs
  simp only[Value.slice.injEq,Option.some.injEq,Addr.mk.injEq,and_true,true_and]at e
  rw[e.1];exact hd
 have HJ0:Hid (TJ w base Q S bv (.slice (some ⟨g,0,none⟩) es.length cap) l es me seen next sent (w.alloc (zd9 ⟨0,0,0,0,0,0,⟨#[]⟩⟩))):=by
  refine⟨h.below (za2 _ _),.of_below (za2 _ _),by simp,fun o ho=> ?_,fun o ho=> ?_⟩
  ·rcases zm0 ho with rfl|rfl|rfl|rfl|rfl|rfl|rfl<;>simp[go_sem]
  rcases zm0 ho with rfl|rfl|rfl|rfl|rfl|rfl|rfl<;>simp[go_sem]
 generalize hed:es[sent]=ed at*
 obtain⟨ekind,eby,eno,eseen,eat,emany,etext⟩:=ed
 clear h hed
 go_enter Tryz.func95,Tryz.ntmps95
 go_wp2
 go_quiet (fail)
 go_wp2
 have HJ1:Hid (TJ w base Q S bv (.slice (some ⟨g,0,none⟩) es.length cap) l es me seen next ((sent:Int)+1) (((w.alloc (zd9 ⟨0,0,0,0,0,0,⟨#[]⟩⟩)).drewN nq).setCell ⟨Q,5,none⟩ (.int .i64 ((sent:Int)+1)))):=by
  have h1:=HJ0.out.after (below_drewN (Below.refl _ (w.alloc (zd9 ⟨0,0,0,0,0,0,⟨#[]⟩⟩))) nq)
  have hw:=h1.at_.wrote (h1.at_.cells.setSent ((sent:Int)+1))
  have hPw:Q≠w.heap.size:=by have:=HLO.out Q h1.at_.hQ;omega
  have hb:=Below.heap_setCell ((w.alloc (zd9 ⟨0,0,0,0,0,0,⟨#[]⟩⟩)).drewN nq) ⟨Q,5,none⟩ (.int .i64 ((sent:Int)+1)) w.heap.size (fun e=>hPw e.symm)
  refine⟨hw,h1.kept.set (p:=⟨Q,5,none⟩) h1.at_.hQ _,by simp[World.setCell],fun o ho=> ?_,fun o ho=> ?_⟩
  ·rw[World.frozen?_of_block (a:=⟨w.heap.size,o,none⟩) hb];exact h1.free o ho
  rw[World.cell?_of_block (a:=⟨w.heap.size,o,none⟩) hb];exact h1.has o ho
 unfold zd9 at HJ1
 generalize ((w.alloc (.cells #[.int .i64 0,.int .i64 0,.int .i64 0,.int .i64 0,.int .i64 0,.int .i64 0,.string ⟨#[]⟩] 124)).drewN nq).setCell ⟨Q,5,none⟩ (.int .i64 ((sent:Int)+1))=w1 at*
 clear HJ0 c4 c5 f5
 refine wrs (fun wk=>zfw wk base S Q bv (.slice (some ⟨g,0,none⟩) es.length cap) l es me seen next ((sent:Int)+1)) (fun i=>i==11) (fun wk=>TJ w base Q S bv (.slice (some ⟨g,0,none⟩) es.length cap) l es me seen next ((sent:Int)+1) wk) (by kernel_rfl) (by kernel_rfl) (by kernel_rfl) (fun _ h=>h.at_) (HJ1.out.after (Below.refl _ _).drew) ?_
 iterate 3 (refine wss rfl (fun K hK=> ?_);go_simp;refine⟨_,fun _ _=>rfl,hK _ ?_⟩;clear hK K)
 refine wss rfl (fun K hK=> ?_)
 go_simp
 refine⟨.slice (some ⟨g,0,none⟩) es.length cap,fun wk hwk=> ?_,hK _ ?_⟩
 ·have c:=hwk.cells.opens
  go_simp
 iterate 3 (clear hK K;refine wss rfl (fun K hK=> ?_);go_simp;refine⟨_,fun _ _=>rfl,hK _ ?_⟩)
 clear hK K
 refine wss rfl (fun K hK=> ?_)
 go_simp
 refine⟨.int .i64 ((sent:Int)+1),fun wk hwk=> ?_,hK _ ?_⟩
 ·have c:=hwk.cells.sent
  go_simp
 clear hK K
 refine wss rfl (fun K hK=> ?_)
 go_simp
 refine⟨.int .i64 sent,fun wk hwk=> ?_,hK _ ?_⟩
 ·rw[IntKind.wrap_i64]
  go_simp
  omega
 clear hK K
 refine wss rfl (fun K hK=> ?_)
 go_simp
 refine⟨.pointer (some ⟨g,sent*7,none⟩),fun wk hwk=> ?_,hK _ ?_⟩
 ·go_simp
 clear hK K
 refine wss rfl (fun K hK=> ?_)
 go_simp
 refine⟨ddV ⟨ekind,eby,eno,eseen,eat,emany,etext⟩,fun wk hwk=> ?_,hK _ ?_⟩
 ·obtain⟨_,c0,c1,c2,c3,c4,c5,c6⟩:=HNTH.out wk _ hwk
  simp only[]at c0 c1 c2 c3 c4 c5 c6
  go_simp
 clear hK K
 refine wsp rfl rfl (fun u=>u= .tuple #[]) (fun u wk=>TE w base Q S bv (.slice (some ⟨g,0,none⟩) es.length cap) l es me seen next ((sent:Int)+1) ⟨ekind,eby,eno,eseen,eat,emany,etext⟩ wk) ⟨_,rfl⟩ (fun _ _ h=>h.at_) (fun wk hwk=> ?_) (fun v11 hv11=> ?_)
 ·have hlt:=hwk.lt
  obtain⟨y0,z0⟩:=hwk.has 0 (by omega)
  obtain⟨y1,z1⟩:=hwk.has 1 (by omega)
  obtain⟨y2,z2⟩:=hwk.has 2 (by omega)
  obtain⟨y3,z3⟩:=hwk.has 3 (by omega)
  obtain⟨y4,z4⟩:=hwk.has 4 (by omega)
  obtain⟨y5,z5⟩:=hwk.has 5 (by omega)
  obtain⟨y6,z6⟩:=hwk.has 6 (by omega)
  have f0:=hwk.free 0 (by omega)
  have f1:=hwk.free 1 (by omega)
  have f2:=hwk.free 2 (by omega)
  have f3:=hwk.free 3 (by omega)
  have f4:=hwk.free 4 (by omega)
  have f5:=hwk.free 5 (by omega)
  have f6:=hwk.free 6 (by omega)
  have hp:=hwk.put HLO.out ⟨ekind,eby,eno,eseen,eat,emany,etext⟩
  go_simp
  exact⟨rfl,hp⟩
 refine wss rfl (fun K hK=> ?_)
 go_simp
 refine⟨_,fun _ _=>rfl,hK _ ?_⟩
 clear hK K
 refine wsn (fun w9 hw9=> ?_)
 have H9:Hid _:=hw9
 clear hw9
 go_wp2
 refine zc7 (d:=⟨ekind,eby,eno,eseen,eat,emany,etext⟩) rfl H9.out.deed rfl rfl rfl ?_
 exact⟨rfl,zt9.of (H9.out.at_.mono (fun _=> .inl) (zkr HA.out.base_le H9.out.kept.size HA.out.lo)) H9.out.kept⟩
structure HS(w:World)(base Q:Nat)(S:Nat->Prop)(ov:Value)(l':List Ch)(es:List Dd)(me seen next sent:Int)(d:Dd)(wk:World):Prop where
 at_:∃bv',zfw wk base (grow S w wk) Q bv' ov l' es me seen next sent
 kept:zam S w wk
 deed:zdq wk w.heap.size 0 d
theorem hs_of{sent:Int}(h:zfw w base S Q bv ov l es me seen next sent){w1:World}{bv':Value}{l':List Ch}(d:Dd)(hj:HJ w d w1)(ho:Own w1 w.heap.size bv' l'):HS w base Q S ov l' es me seen next sent d (w1.setCell ⟨Q,3,none⟩ bv'):=by
 refine⟨⟨bv',by rw[zh3];exact h.rebase hj.below ho⟩,(zam.of_below hj.below).set (p:=⟨Q,3,none⟩) h.hQ _,hj.deed.of_block' (by simpa [World.setCell]using hj.deed.lt) (Below.heap_setCell _ _ _ _ ?_)⟩
 have:=(h.lo Q h.hQ).2
 show w.heap.size≠Q
 omega
structure HU(w:World)(Q:Nat)(bv ov:Value)(me seen next sent:Int)(d:Dd)(wk:World):Prop where
 cells:ScC wk Q bv ov me seen next sent
 deed:zdq wk w.heap.size 0 d
theorem zv1{seen:Nat}(h:zfw w base S Q bv ov l es me seen next sent)(hes:es.length<=1000)(ht:zya l es)(hsn:seen<=900)(hbl:l.length<=1000)(htm:zi2 l)(d:Dd)(hne:d.by_≠me)(hb0:doC l d ((seen:Int)+1)=0):
 Calls Tryz.prog 98 #[.pointer (some ⟨Q,0,none⟩),ddV d] w fun e w'=>e= .returned (.int .i64 (doC (zaj l es) d ((seen:Int)+1)))/\(doC (zaj l es) d ((seen:Int)+1)=0->zt9 w base S Q (doL l d ((seen:Int)+1)) es me ((seen:Int)+1) next sent w')/\(doC (zaj l es) d ((seen:Int)+1)≠0->Below w.heap.size w w'):=by
 have HA:=hid h
 have hQlt:=h.cells.lt
 have HC:Hid (∀wk,Below w.heap.size w wk->Calls Tryz.prog 59 #[.pointer (some ⟨Q,0,none⟩)] wk fun e w'=>∃v',e= .returned v'/\Lst w' v' (zaj l es)/\Below wk.heap.size wk w'):=fun wk hb=>zny (h.below hb) hes ht
 have hte:zi2 (zaj l es)/\(zaj l es).length<=1000:=by have:=ht.tame es.length (Nat.le_refl _);rw[List.take_length]at this;exact this
 have c1:=h.cells.seen
 have c0:=h.cells.me
 obtain⟨kind,by_,no,dseen,at_,many,text⟩:=d
 have HI:Hid (HJ w ⟨kind,by_,no,dseen,at_,many,text⟩ (w.alloc (zd9 ⟨kind,by_,no,dseen,at_,many,text⟩))):=⟨za2 _ _,zb4 w _⟩
 have HDO:Hid (∀wk v,Lst wk v (zaj l es)->Calls Tryz.prog 103 #[v,ddV ⟨kind,by_,no,dseen,at_,many,text⟩,.int .i64 ((seen:Int)+1)] wk fun e w'=>∃v',e= .returned (.tuple #[v',.int .i64 (doC (zaj l es) ⟨kind,by_,no,dseen,at_,many,text⟩ ((seen:Int)+1))])/\Own w' wk.heap.size v' (doR (zaj l es) ⟨kind,by_,no,dseen,at_,many,text⟩ ((seen:Int)+1))/\Below wk.heap.size wk w'):=fun wk v hv=>zhm _ ⟨kind,by_,no,dseen,at_,many,text⟩ _ v wk hv hte.2 hte.1 (by omega) (by omega)
 have HDB:Hid (∀wk,Below w.heap.size w wk->Calls Tryz.prog 103 #[bv,ddV ⟨kind,by_,no,dseen,at_,many,text⟩,.int .i64 ((seen:Int)+1)] wk fun e w'=>∃v',e= .returned (.tuple #[v',.int .i64 0])/\Own w' wk.heap.size v' (doL l ⟨kind,by_,no,dseen,at_,many,text⟩ ((seen:Int)+1))/\Below wk.heap.size wk w'):=fun wk hb=>by
  refine(zhm l ⟨kind,by_,no,dseen,at_,many,text⟩ ((seen:Int)+1) bv wk (h.below hb).ownB.lst hbl htm (by omega) (by omega)).mono ?_
  rintro e w' ⟨v',rfl,ho,hb'⟩
  rw[hb0]
  rw[doR,if_pos hb0]at ho
  exact⟨v',rfl,ho,hb'⟩
 have hne':(by_ != me)=true:=by simp only at hne;simp[hne]
 obtain⟨ba,bc,hbv,_⟩:=h.ownB.lst.len
 subst hbv
 generalize hll:l.length=ll at*
 generalize hcc:doC (zaj l es) ⟨kind,by_,no,dseen,at_,many,text⟩ ((seen:Int)+1)=cc at*
 have HCC:=hid hcc
 clear h hte ht hcc hb0 htm hne hll
 go_enter Tryz.func98,Tryz.ntmps98
 go_wp2
 go_quiet (fail)
 go_wp2
 have HI1:Hid (HJ w ⟨kind,by_,no,dseen,at_,many,text⟩ ((w.alloc (zd9 ⟨kind,by_,no,dseen,at_,many,text⟩)).drewN nq)):=HI.out.after (below_drewN (Below.refl _ _) _)
 unfold zd9 at HI1
 generalize (w.alloc (.cells #[.int .i64 kind,.int .i64 by_,.int .i64 no,.int .i64 dseen,.int .i64 at_,.int .i64 many,.string text] 124)).drewN nq=w1 at*
 clear HI c0 c1
 refine wrs (fun wk=>HJ w ⟨kind,by_,no,dseen,at_,many,text⟩ wk) (fun i=>i==1||i==4) (fun wk=>HJ w ⟨kind,by_,no,dseen,at_,many,text⟩ wk) (by kernel_rfl) (by kernel_rfl) (by kernel_rfl) (fun _ h=>h) (HI1.out.after (Below.refl _ _).drew) ?_
 refine wss rfl (fun K hK=> ?_)
 go_simp
 refine⟨_,fun _ _=>rfl,hK _ ?_⟩
 clear hK K
 refine wsp rfl rfl (fun u=>∃a n c,u= .slice a n c) (fun u wk=>HJ w ⟨kind,by_,no,dseen,at_,many,text⟩ wk/\Lst wk u (zaj l es)) ⟨_,none,0,0,rfl⟩ (fun _ _ h=>h.1) (fun wk hwk=> ?_) (fun v1 hv1=> ?_)
 ·go_simp
  refine(HC.out wk hwk.below).mono ?_
  rintro e w6 ⟨u,rfl,hs,hb⟩
  obtain⟨ta,tc,hu,_⟩:=hs.len
  exact⟨u,rfl,⟨_,_,_,hu⟩,hwk.after hb,hs⟩
 obtain⟨va,vn,vc,rfl⟩:=hv1
 refine wss rfl (fun K hK=> ?_)
 go_simp
 refine⟨ddV ⟨kind,by_,no,dseen,at_,many,text⟩,fun wk hwk=> ?_,hK _ ?_⟩
 ·obtain⟨_,c0,c1,c2,c3,c4,c5,c6⟩:=hwk.deed
  simp only[Nat.zero_add]at c0 c1 c2 c3 c4 c5 c6
  go_simp
 clear hK K
 refine wss rfl (fun K hK=> ?_)
 go_simp
 refine⟨_,fun _ _=>rfl,hK _ ?_⟩
 clear hK K
 refine wsp rfl rfl (fun u=>∃v,u= .tuple #[v,.int .i64 cc]) (fun u wk=>HJ w ⟨kind,by_,no,dseen,at_,many,text⟩ wk) ⟨_,.bool false,rfl⟩ (fun _ _ h=>h) (fun wk hwk=> ?_) (fun v4 hv4=> ?_)
 ·go_simp
  refine(HDO.out wk _ hwk.2).mono ?_
  rintro e w6 ⟨v,rfl,ho,hb⟩
  exact⟨_,rfl,⟨v,rfl⟩,hwk.1.after hb⟩
 obtain⟨v,rfl⟩:=hv4
 iterate 5 (refine wss rfl (fun K hK=> ?_);go_simp;refine⟨_,fun _ _=>rfl,hK _ ?_⟩;clear hK K)
 refine wsn (fun w9 hw9=> ?_)
 have H9:Hid _:=hw9
 clear hw9
 have HJ9:=hid H9
 clear H9 HI1
 by_cases hz:cc=0
 ·have hz':(cc != 0)=false:=by simp[hz]
  have HZ:=hid hz
  clear hz
  go_wp2
  refine wrs (fun wk=>zdq wk w.heap.size 0 ⟨kind,by_,no,dseen,at_,many,text⟩) (fun i=>i==4||i==7||i==13) (fun wk=>HJ w ⟨kind,by_,no,dseen,at_,many,text⟩ wk) (by kernel_rfl) (by kernel_rfl) (by kernel_rfl) (fun _ h=>h.deed) (HJ9.out.after (Below.refl _ _).drew) ?_
  iterate 4 (refine wss rfl (fun K hK=> ?_);go_simp;refine⟨_,fun _ _=>rfl,hK _ ?_⟩;clear hK K)
  refine wsp rfl rfl (fun u=>u= .slice ba ll bc) (fun u wk=>HJ w ⟨kind,by_,no,dseen,at_,many,text⟩ wk) ⟨_,rfl⟩ (fun _ _ h=>h.deed) (fun wk hwk=> ?_) (fun v4 hv4=> ?_)
  ·have hc:=(HA.out.below hwk.below).cells
   have c:=hc.base
   have hlt:=hc.lt
   go_simp
   exact⟨rfl,hwk⟩
  subst hv4
  refine wss rfl (fun K hK=> ?_)
  go_simp
  refine⟨ddV ⟨kind,by_,no,dseen,at_,many,text⟩,fun wk hwk=> ?_,hK _ ?_⟩
  ·obtain⟨_,c0,c1,c2,c3,c4,c5,c6⟩:=hwk
   simp only[Nat.zero_add]at c0 c1 c2 c3 c4 c5 c6
   go_simp
  clear hK K
  refine wss rfl (fun K hK=> ?_)
  go_simp
  refine⟨_,fun _ _=>rfl,hK _ ?_⟩
  clear hK K
  refine wsp rfl rfl (fun u=>∃v,u= .tuple #[v,.int .i64 0]) (fun u wk=>HJ w ⟨kind,by_,no,dseen,at_,many,text⟩ wk/\Did w (doL l ⟨kind,by_,no,dseen,at_,many,text⟩ ((seen:Int)+1)) 0 u wk) ⟨_,.bool false,rfl⟩ (fun _ _ h=>h.1.deed) (fun wk hwk=> ?_) (fun v7 hv7=> ?_)
  ·go_simp
   refine(HDB.out wk hwk.below).mono ?_
   rintro e w6 ⟨v,rfl,ho,hb⟩
   exact⟨_,rfl,⟨v,rfl⟩,hwk.after hb,v,wk.heap.size,rfl,hwk.below.size,ho⟩
  obtain⟨vb,rfl⟩:=hv7
  iterate 5 (refine wss rfl (fun K hK=> ?_);go_simp;refine⟨_,fun _ _=>rfl,hK _ ?_⟩;clear hK K)
  refine wsp rfl rfl (fun u=>u= .tuple #[]) (fun u wk=>HS w base Q S ov (doL l ⟨kind,by_,no,dseen,at_,many,text⟩ ((seen:Int)+1)) es me seen next sent ⟨kind,by_,no,dseen,at_,many,text⟩ wk) ⟨_,rfl⟩ (fun _ _ h=>h.deed) (fun wk hwk=> ?_) (fun v13 hv13=> ?_)
  ·obtain⟨hj,v',wj,he,hle,ho⟩:=hwk
   have hvv:vb=v':=by simpa using he
   subst hvv
   have hc:=(HA.out.below hj.below).cells
   have c3:=hc.base
   have f3:=hc.free 3 (by omega)
   have hlt:=hc.lt
   have hp:=hs_of HA.out ⟨kind,by_,no,dseen,at_,many,text⟩ hj (ho.mono hle)
   obtain⟨ca,cc',hcv,_⟩:=ho.lst.len
   subst hcv
   go_simp
   exact⟨rfl,hp⟩
  refine wsn (fun w8 hw8=> ?_)
  have H8:Hid _:=hw8
  clear hw8
  have HS8:=hid H8
  clear H8 HJ9
  obtain⟨bv',hat⟩:=HS8.out.at_
  have hc8:=hat.cells
  have hQ8:=hc8.lt
  have e1:=hc8.seen
  have f1:=hc8.free 1 (by omega)
  have HR:Hid (zt9 w base S Q (doL l ⟨kind,by_,no,dseen,at_,many,text⟩ ((seen:Int)+1)) es me ((seen:Int)+1) next sent (w8.setCell ⟨Q,1,none⟩ (.int .i64 ((seen:Int)+1)))):=zt9.of (by rw[zh3];exact hat.wrote (hc8.setSeen _)) (HS8.out.kept.set (p:=⟨Q,1,none⟩) HA.out.hQ _)
  clear hat hc8 HS8
  go_wp2
  go_ret
  exact⟨zae HZ.out.symm,fun _=>HR.out,fun e=>absurd HZ.out e⟩
 have hz':(cc != 0)=true:=by simp[hz]
 have HZ:=hid hz
 clear hz
 go_wp2
 go_ret
 exact⟨rfl,fun e=>absurd e HZ.out,fun _=>HJ9.out.below⟩
theorem zmi:Tryz.prog.elem 61=124:=by kernel_rfl
theorem ziy:Tryz.prog.underlying 61=some (.slice (Tryz.prog.elem 61)):=by kernel_rfl
theorem zoj(w:World):(sizeOf 124).run Tryz.prog w= .ok 7 w:=by
 obtain⟨i0,hi,_,hz1,_⟩:=info_parts Tryz.infoDeed
 simp[sizeOf,typeInfo,hi,hz1]
theorem zu8(a:Option Addr)(len cap k:Nat)(hk:k<=len)(w:World):(Instr.sliceAt 61 (.slice a len cap) (some (.int .i64 k)) none none).run Tryz.prog w= .ok (sliced a k len cap 7) w:=by
 rw[run_sliceAt_slice _ _ _ _ _ _ ziy,run_slice_l _ _ _ _ _ ziy _ _ (by omega) (by omega),zmi,zoj]
 rfl
theorem tail_val{g n cap:Nat}(h:zfx w base (.slice (some ⟨g,0,none⟩) (n+1) cap) (d::es))(hn:es.length=n):
 ∃ad cs,(∀w,(Instr.sliceAt 61 (.slice (some ⟨g,0,none⟩) (n+1) cap) (some (.int .i64 1)) none none).run Tryz.prog w= .ok (.slice (some ad) n cs) w)/\(∀wk,zfx wk base (.slice (some ⟨g,0,none⟩) (n+1) cap) (d::es)->∀j u,(zbv es)[j]? =some u->wk.cell? (ad.add j)=some u)/\n<=cs:=by
 have hcap:n+1<=cap:=by
  rcases h.2 with⟨h',_⟩|⟨g',cap',cur,h',_,_,hnc,_⟩
  ·simp at h'
  simp only[Value.slice.injEq,Option.some.injEq,Addr.mk.injEq,and_true]at h'
  obtain⟨_,_,rfl⟩:=h'
  simp at hnc
  omega
 by_cases hc1:cap=1
 ·refine⟨⟨g,0,none⟩,cap-1,fun w=> ?_,fun wk _ j u hu=> ?_,by omega⟩
  ·have:=zu8 (some ⟨g,0,none⟩) (n+1) cap 1 (by omega) w
   have e:sliced (some ⟨g,0,none⟩) 1 (n+1) cap 7= .slice (some ⟨g,0,none⟩) n (cap-1):=by
    unfold sliced
    simp[hc1]
   rw[e]at this
   exact this
  have:=(List.getElem?_eq_some_iff.1 hu).1
  rw[zhy]at this
  omega
 refine⟨⟨g,7,none⟩,cap-1,fun w=> ?_,fun wk hk j u hu=> ?_,by omega⟩
 ·have:=zu8 (some ⟨g,0,none⟩) (n+1) cap 1 (by omega) w
  have e:sliced (some ⟨g,0,none⟩) 1 (n+1) cap 7= .slice (some ⟨g,7,none⟩) n (cap-1):=by
   unfold sliced
   simp[hc1,zdv]
  rw[e]at this
  exact this
 have hj:j<n*7:=by
  have:=(List.getElem?_eq_some_iff.1 hu).1
  rw[zhy,hn]at this
  exact this
 rw[zdv]
 unfold zfx at hk
 have e2:(d::es).length=n+1:=by rw[List.length_cons,hn]
 rw[e2]at hk
 have h7:(zf9 d).length=7:=rfl
 rw[World.ownsRow.cellAt hk (7+j) (by omega),zbv,List.getElem?_append_right (by rw[h7];omega),h7,Nat.add_sub_cancel_left]
 exact hu
theorem zfw.reopen{w1:World}{ov':Value}{es':List Dd}{sent:Int}(h:zfw wk base (grow S w wk) Q bv ov l es me seen next sent)(hk:w.heap.size<=wk.heap.size)(hg:wk.grownBy w1 none)(ho:zfx w1 wk.heap.size ov' es'):zfw (w1.setCell ⟨Q,4,none⟩ ov') base (grow S w (w1.setCell ⟨Q,4,none⟩ ov')) Q bv ov' l es' me seen next sent:=by
 have hb:Below wk.heap.size wk w1:=⟨hg.os,hg.tape,hg.output,hg.size,fun k hk'=>hg.block k hk' (by simp)⟩
 have h1:=h.below hb
 have hQ:=(h.lo Q h.hQ).2
 have hsz:(w1.setCell ⟨Q,4,none⟩ ov').heap.size=w1.heap.size:=by simp[World.setCell]
 have hne:∀k,k≠Q->(w1.setCell ⟨Q,4,none⟩ ov').heap[k]? =w1.heap[k]? :=fun k e=>Below.heap_setCell _ _ _ _ e
 have hnew:∀k,ov'.ownBlock=some k->wk.heap.size<=k/\k<w1.heap.size:=fun k e=>World.ownsRow.lt ho k e
 have hmono:zfx w1 base ov' es':=by
  obtain⟨a1,a2⟩:=ho
  refine⟨a1,?_⟩
  rcases a2 with a2|⟨g,cap,cur,e,hg',r⟩
  ·exact .inl a2
  exact .inr ⟨g,cap,cur,e,Nat.le_trans h.base_le hg',r⟩
 have hgr:∀k,grow S w wk k->grow S w (w1.setCell ⟨Q,4,none⟩ ov') k:=fun k e=>zht e (by rw[hsz];exact hb.size)
 refine⟨fun k hs=> ?_,hgr _ h.hQ,h1.cells.setOpens _,za5 h1.ownB (fun k e=>hne k (h1.bB k e).2),za5 hmono (fun k e=>hne k (by have:=hnew k e;omega)),fun k e=>⟨hgr k (h.bB k e).1,(h.bB k e).2⟩,fun k e=>⟨.inr ⟨by have:=hnew k e;omega,by rw[hsz];exact(hnew k e).2⟩,by have:=hnew k e;omega,fun e'=> ?_⟩⟩
 ·rw[hsz]
  have:=h.base_le
  rcases hs with hs|hs
  ·have h2:=h.lo k (.inl hs)
   have:=hb.size
   omega
  rw[hsz]at hs
  by_cases hk2:k<wk.heap.size
  ·have h2:=h.lo k (.inr ⟨hs.1,hk2⟩)
   omega
  omega
 have:=hnew k e;have:=(h.lo k (h.bB k e').1).2;omega
theorem qbh{seen:Nat}(h:zfw w base S Q bv ov l (d::es) me seen next ((sent:Int)+1))(hes:es.length<=1000)(hsn:seen<=900)(hst:sent<=1000)(hbl:l.length<=1000)(htm:zi2 l)(hbm:d.by_=me)(hb0:doC l d ((seen:Int)+1)=0):
 Calls Tryz.prog 98 #[.pointer (some ⟨Q,0,none⟩),ddV d] w fun e w'=>e= .returned (.int .i64 0)/\zt9 w base S Q (doL l d ((seen:Int)+1)) es me ((seen:Int)+1) next sent w':=by
 have HA0:=h
 have hQlt:=h.cells.lt
 have c1:=h.cells.seen
 have c0:=h.cells.me
 have c4:=h.cells.opens
 obtain⟨g,cap,hov,hdd⟩:=h.ownO.nth (k:=0) (by simp)
 subst hov
 have hl1:(d::es).length=es.length+1:=rfl
 rw[hl1]at HA0 c4
 have HA:=hid HA0
 obtain⟨hgl,g0,g1,g2,g3,g4,g5,g6⟩:=hdd
 simp only[Nat.zero_mul,Nat.zero_add,List.getElem_cons_zero]at g0 g1 g2 g3 g4 g5 g6
 obtain⟨ad,cs,hsl,hsrc,hncs⟩:=tail_val HA0.ownO rfl
 have HSRC:Hid _:=hsrc
 obtain⟨kind,by_,no,dseen,at_,many,text⟩:=d
 have HI:Hid (HJ w ⟨kind,by_,no,dseen,at_,many,text⟩ (w.alloc (zd9 ⟨kind,by_,no,dseen,at_,many,text⟩))):=⟨za2 _ _,zb4 w _⟩
 have HDB:Hid (∀wk,Below w.heap.size w wk->Calls Tryz.prog 103 #[bv,ddV ⟨kind,by_,no,dseen,at_,many,text⟩,.int .i64 ((seen:Int)+1)] wk fun e w'=>∃v',e= .returned (.tuple #[v',.int .i64 0])/\Own w' wk.heap.size v' (doL l ⟨kind,by_,no,dseen,at_,many,text⟩ ((seen:Int)+1))/\Below wk.heap.size wk w'):=fun wk hb=>by
  refine(zhm l ⟨kind,by_,no,dseen,at_,many,text⟩ ((seen:Int)+1) bv wk (h.below hb).ownB.lst hbl htm (by omega) (by omega)).mono ?_
  rintro e w' ⟨v',rfl,ho,hb'⟩
  rw[hb0]
  rw[doR,if_pos hb0]at ho
  exact⟨v',rfl,ho,hb'⟩
 have hne':(by_ != me)=false:=by simp only at hbm;simp[hbm]
 obtain⟨ba,bc,hbv,_⟩:=h.ownB.lst.len
 subst hbv
 have hpos:((es.length:Int)+1==0)=false:=by simp;omega
 generalize hll:l.length=ll at*
 simp only at g0 g1 g2 g3 g4 g5 g6
 have HSL:Hid _:=hsl
 clear h HA0 hb0 htm hbm hll hl1 hsrc hsl
 go_enter Tryz.func98,Tryz.ntmps98
 go_wp2
 go_quiet (fail)
 go_wp2
 have HI1:Hid (HJ w ⟨kind,by_,no,dseen,at_,many,text⟩ ((w.alloc (zd9 ⟨kind,by_,no,dseen,at_,many,text⟩)).drewN nq)):=HI.out.after (below_drewN (Below.refl _ _) _)
 unfold zd9 at HI1
 generalize (w.alloc (.cells #[.int .i64 kind,.int .i64 by_,.int .i64 no,.int .i64 dseen,.int .i64 at_,.int .i64 many,.string text] 124)).drewN nq=w1 at*
 clear HI c0 c1 c4 g0 g1 g2 g3 g4 g5 g6 hgl hQlt nq
 have hA1:=HA.out.below HI1.out.below
 have hQlt:=hA1.cells.lt
 have c4:=hA1.cells.opens
 obtain⟨g',cap',hov',hgl,g0,g1,g2,g3,g4,g5,g6⟩:=hA1.ownO.nth (k:=0) (by simp)
 simp only[Value.slice.injEq,Option.some.injEq,Addr.mk.injEq,and_true,List.length_cons,true_and]at hov'
 obtain⟨rfl,rfl⟩:=hov'
 simp only[Nat.zero_mul,Nat.zero_add,List.getElem_cons_zero]at g0 g1 g2 g3 g4 g5 g6
 obtain⟨hE,q0,q1,q2,q3,q4,q5,q6⟩:=HI1.out.deed
 simp only[Nat.zero_add]at q0 q1 q2 q3 q4 q5 q6
 clear hA1
 go_quiet (fail)
 go_wp2
 have HI2:Hid (HJ w ⟨kind,by_,no,dseen,at_,many,text⟩ (w1.drewN nq)):=HI1.out.after (below_drewN (Below.refl _ _) _)
 generalize w1.drewN nq=w2 at*
 clear HI1 c4 g0 g1 g2 g3 g4 g5 g6 q0 q1 q2 q3 q4 q5 q6 hE hgl hQlt nq
 refine wrs (fun wk=>zdq wk w.heap.size 0 ⟨kind,by_,no,dseen,at_,many,text⟩) (fun i=>i==4||i==7||i==13) (fun wk=>HJ w ⟨kind,by_,no,dseen,at_,many,text⟩ wk) (by kernel_rfl) (by kernel_rfl) (by kernel_rfl) (fun _ h=>h.deed) (HI2.out.after (Below.refl _ _).drew) ?_
 iterate 4 (refine wss rfl (fun K hK=> ?_);go_simp;refine⟨_,fun _ _=>rfl,hK _ ?_⟩;clear hK K)
 refine wsp rfl rfl (fun u=>u= .slice ba ll bc) (fun u wk=>HJ w ⟨kind,by_,no,dseen,at_,many,text⟩ wk) ⟨_,rfl⟩ (fun _ _ h=>h.deed) (fun wk hwk=> ?_) (fun v4 hv4=> ?_)
 ·have hc:=(HA.out.below hwk.below).cells
  have c:=hc.base
  have hlt:=hc.lt
  go_simp
  exact⟨rfl,hwk⟩
 subst hv4
 refine wss rfl (fun K hK=> ?_)
 go_simp
 refine⟨ddV ⟨kind,by_,no,dseen,at_,many,text⟩,fun wk hwk=> ?_,hK _ ?_⟩
 ·obtain⟨_,c0,c1,c2,c3,c4,c5,c6⟩:=hwk
  simp only[Nat.zero_add]at c0 c1 c2 c3 c4 c5 c6
  go_simp
 clear hK K
 refine wss rfl (fun K hK=> ?_)
 go_simp
 refine⟨_,fun _ _=>rfl,hK _ ?_⟩
 clear hK K
 refine wsp rfl rfl (fun u=>∃v,u= .tuple #[v,.int .i64 0]) (fun u wk=>HJ w ⟨kind,by_,no,dseen,at_,many,text⟩ wk/\Did w (doL l ⟨kind,by_,no,dseen,at_,many,text⟩ ((seen:Int)+1)) 0 u wk) ⟨_,.bool false,rfl⟩ (fun _ _ h=>h.1.deed) (fun wk hwk=> ?_) (fun v7 hv7=> ?_)
 ·go_simp
  refine(HDB.out wk hwk.below).mono ?_
  rintro e w6 ⟨v,rfl,ho,hb⟩
  exact⟨_,rfl,⟨v,rfl⟩,hwk.after hb,v,wk.heap.size,rfl,hwk.below.size,ho⟩
 obtain⟨vb,rfl⟩:=hv7
 iterate 5 (refine wss rfl (fun K hK=> ?_);go_simp;refine⟨_,fun _ _=>rfl,hK _ ?_⟩;clear hK K)
 refine wsp rfl rfl (fun u=>u= .tuple #[]) (fun u wk=>HS w base Q S (.slice (some ⟨g,0,none⟩) (es.length+1) cap) (doL l ⟨kind,by_,no,dseen,at_,many,text⟩ ((seen:Int)+1)) (⟨kind,by_,no,dseen,at_,many,text⟩::es) me seen next ((sent:Int)+1) ⟨kind,by_,no,dseen,at_,many,text⟩ wk) ⟨_,rfl⟩ (fun _ _ h=>h.deed) (fun wk hwk=> ?_) (fun v13 hv13=> ?_)
 ·obtain⟨hj,v',wj,he,hle,ho⟩:=hwk
  have hvv:vb=v':=by simpa using he
  subst hvv
  have hc:=(HA.out.below hj.below).cells
  have c3:=hc.base
  have f3:=hc.free 3 (by omega)
  have hlt:=hc.lt
  have hp:=hs_of HA.out ⟨kind,by_,no,dseen,at_,many,text⟩ hj (ho.mono hle)
  obtain⟨ca,cc',hcv,_⟩:=ho.lst.len
  subst hcv
  go_simp
  exact⟨rfl,hp⟩
 refine wsn (fun w8 hw8=> ?_)
 have H8:Hid _:=hw8
 clear hw8
 have HS8:=hid H8
 clear H8 HI2 HDB
 obtain⟨bv',hat⟩:=HS8.out.at_
 have HAT:=hid hat
 have hQ8:=hat.cells.lt
 have e4:=hat.cells.opens
 have hsl:=HSL.out
 have HKS:=HS8.out.kept.size
 obtain⟨i0,hi0,hz0,hz1,hz2⟩:=info_parts Tryz.infoDeed
 clear hat
 go_wp2_with (at_builtin;refine wpList_append_own _ rfl (.tmp 79) (.tmp 84) 61 rfl w8.heap.size 124 i0 zdh 7 64 Tryz.underlying61 hi0 hz0 hz1 hz2 rfl (by decide) _ _ _ rfl (World.ownsRow_nil _ _ _ _) ad es.length cs (zbv es) rfl ?d0 ?d1 ?d2 ?d3 ?d4 ?d5 ?_)
 case d0=>rw[zhy]
 case d1=>exact HSRC.out w8 HAT.out.ownO
 case d2=>exact zhx es
 case d3=>unfold maxLen;omega
 case d4=>omega
 case d5=>exact Nat.le_refl _
 intro v9 w9 hown hgrow _
 have HOW:Hid (zfx w9 w8.heap.size v9 es):=by
  show zfx _ _ _ _
  unfold zfx
  exact hown
 replace hgrow:w8.grownBy w9 none:=hgrow
 have HG9:=hid hgrow
 have HR4:=hid (HAT.out.reopen HKS HG9.out HOW.out)
 have HK9:Hid (zam S w (w9.setCell ⟨Q,4,none⟩ v9)):=(HS8.out.kept.after ⟨hgrow.os,hgrow.tape,hgrow.output,hgrow.size,fun k hk'=>hgrow.block k hk' (fun e=>by cases e)⟩).set (p:=⟨Q,4,none⟩) HA.out.hQ _
 obtain⟨va9,vc9,hv9⟩:=zfx.len HOW.out
 subst hv9
 have hb9:w9.heap[Q]? =w8.heap[Q]? :=hgrow.block Q HAT.out.cells.lt (fun e=>by cases e)
 have hc9:=HAT.out.cells.kept hgrow.size hb9
 have hQ9:=hc9.lt
 have e4:=hc9.opens
 have e5:=hc9.sent
 have e1:=hc9.seen
 have f4:=hc9.free 4 (by omega)
 have f5:=hc9.free 5 (by omega)
 have f1:=hc9.free 1 (by omega)
 have hspos:(0:Int)<(sent:Int)+1:=by omega
 have HR5:Hid (zt9 w base S Q (doL l ⟨kind,by_,no,dseen,at_,many,text⟩ ((seen:Int)+1)) es me ((seen:Int)+1) next sent (((w9.setCell ⟨Q,4,none⟩ (.slice va9 es.length vc9)).setCell ⟨Q,5,none⟩ (.int .i64 sent)).setCell ⟨Q,1,none⟩ (.int .i64 ((seen:Int)+1)))):=by
  have h5:=HR4.out.wrote (HR4.out.cells.setSent sent)
  have h6:=h5.wrote (h5.cells.setSeen ((seen:Int)+1))
  exact zt9.of (by rw[zh3,zh3];exact h6) ((HK9.out.set (p:=⟨Q,5,none⟩) HA.out.hQ _).set (p:=⟨Q,1,none⟩) HA.out.hQ _)
 clear hown hgrow hb9 hc9 HR4 HK9 HG9 HOW HAT HS8
 go_wp2
 go_ret
 exact⟨rfl,HR5.out⟩
variable {base:Nat} {w:World} {S:Nat->Prop}
abbrev zqe:Array Value:= #[.slice none 0 0,.bool false,.bool false,.bool false,.bool false,.int .i64 0,.int .i64 0,.int .i64 0,.int .i64 0,.int .i64 0,.int .i64 0,.int .i64 0,.int .i64 0]
theorem zvq(w:World){base:Nat}(hb:base<=w.heap.size):zb5 (w.alloc (.cells zqe 65)) base (fun k=>k=w.heap.size) w.heap.size (.slice none 0 0) Bk.empty:=by
 refine⟨fun k e=>⟨by omega,by simp;omega⟩,rfl,⟨by simp,by simp[go_sem],fun j hj=> ?_,fun j hj=> ?_,fun j hj=> ?_,fun o ho=> ?_⟩,World.ownsRow_nil _ _ _ _,fun k e=>by simp[Value.ownBlock]at e⟩
 ·rcases(show j=0\/j=1\/j=2\/j=3 by omega)with rfl|rfl|rfl|rfl<;>simp[go_sem,Bk.empty]
 ·rcases(show j=0\/j=1\/j=2\/j=3 by omega)with rfl|rfl|rfl|rfl<;>simp[go_sem,Bk.empty]
 ·rcases(show j=0\/j=1\/j=2\/j=3 by omega)with rfl|rfl|rfl|rfl<;>simp[go_sem,Bk.empty]
 rcases(show o=0\/o=1\/o=2\/o=3\/o=4\/o=5\/o=6\/o=7\/o=8\/o=9\/o=10\/o=11\/o=12 by omega)with rfl|rfl|rfl|rfl|rfl|rfl|rfl|rfl|rfl|rfl|rfl|rfl|rfl<;>simp[go_sem]
theorem qct(w:World)(G:Nat):TwC (w.alloc (.cells (zkx G) 69)) w.heap.size G (fun _=>0) (zbo zpz):=by
 refine⟨by simp,by simp[go_sem],fun k hk=> ?_,fun o ho=> ?_⟩
 ·rcases(show k=0\/k=1\/k=2\/k=3 by omega)with rfl|rfl|rfl|rfl<;>simp[go_sem,zbo,zpz,zbq]
 rcases(show o=0\/o=1\/o=2\/o=3\/o=4 by omega)with rfl|rfl|rfl|rfl|rfl<;>simp[go_sem]
theorem tnAt_any(w:World)(hb:base<=w.heap.size):zke base (w.heap.size+1) w.heap.size (fun _=>0) zpz ((w.alloc (.cells zqe 65)).alloc (.cells (zkx w.heap.size) 69)) (fun k=>w.heap.size<=k/\k<w.heap.size+2):=by
 have hsz:((w.alloc (.cells zqe 65)).alloc (.cells (zkx w.heap.size) 69)).heap.size=w.heap.size+2:=by simp
 have h0:Hq base (fun _=>Th.no base) w (fun _=>False) w:=⟨fun _=>0,⟨fun _ e=>absurd rfl e,hb,fun _ _=>trivial⟩,fun _ e=>absurd rfl e,zam.refl _ _⟩
 have h1:=Hq.lay h0 (za2 w (.cells zqe 65)) (i:=1) (by omega) (Th.book base w.heap.size Bk.empty) ⟨_,(zvq w hb).mono (fun k e=>⟨by omega,by simp;omega⟩) (fun k e=>⟨by omega,e.2⟩)⟩
 have h2:=Hq.lay h1 (za2 _ (.cells (zkx w.heap.size) 69)) (i:=6) (by omega) (Th.tw base (w.heap.size+1) w.heap.size (fun _=>0) (zbo zpz)) ⟨⟨by simp,by simp⟩,by have:=qct (w.alloc (.cells zqe 65)) w.heap.size;simpa using this⟩
 have h3:zbu base w (fun _=>False) (w.heap.size+1) w.heap.size (fun _=>0) zpz (fun _=>Th.no _) _:=zj1 h2 (fun T hp=>hp) (fun T hp=>hp) (fun k hk T hp=>by show(Th.no _).P _ T;trivial) (fun j T hp=>trivial)
 obtain⟨ow,h4⟩:=h3
 refine⟨fun k e=>by omega,ow,h4.at_,fun k e=> ?_⟩
 rcases h4.old k e with x|x
 ·exact x.elim
 omega
theorem new_tn(w:World):Calls Tryz.prog 13 #[] w fun e w'=>e= .returned (.pointer (some ⟨w.heap.size+1,0,none⟩))/\w'=(w.alloc (.cells zqe 65)).alloc (.cells (zkx w.heap.size) 69):=by
 go_enter Tryz.func13,Tryz.ntmps13
 go_wp2
 go_ret
 exact⟨by simp,rfl⟩
theorem zxs{D G:Nat}{pw:Nat->Nat}{t:Twn}(h:zke base D G pw t w S){k:Nat}(hk:k<4):
 Calls Tryz.prog 97 #[.pointer (some ⟨D,0,none⟩),.int .i64 (k:Int)] w fun e w'=>e= .returned (.tuple #[])/\zkd base w S D G pw (zdu t k) w':=by
 have HI:=hid h.start
 have HL:=hid h.held
 have g0:=HI.out.cells.book
 have hlt:=HI.out.cells.lt
 have hk4:(k:Int)<4:=by omega
 clear h
 go_enter Tryz.func97,Tryz.ntmps97
 go_wp2_with fail
 obtain⟨T,dv,hl,hs⟩:=HI.out.book
 refine(leave_bk hl (k:Int)).mono ?_
 rintro e w1 ⟨rfl,hto⟩
 have H1:Hid (zbu base w S D G pw ⟨zcp t.b k,t.ws⟩ (fun _=>Th.no base) w1):=hs _ _ hto
 clear hto hs hl HI g0 hlt
 have H2:=hid (H1.out.clear hk)
 obtain⟨u1,c1⟩:∃u,w1.cell? ⟨D,1+k,none⟩=some u:=⟨_,H1.out.cells.ws k hk⟩
 have f1:=H1.out.cells.free (1+k) (by omega)
 have hlt:=H1.out.cells.lt
 clear H1
 go_wp2_with fail
 go_end0
 exact⟨rfl,H2.out.done HL.out⟩
theorem zx7{B:Nat}{dv:Value}{b:Bk}(h:zb5 w base S B dv b)(hg:zct b)(seen:Nat)(hsl:seen<=b.ds.length):
 Calls Tryz.prog 102 #[.pointer (some ⟨B,0,none⟩),.int .i64 seen] w fun e w'=>e= .returned (.int .i64 (zba b seen))/\w'=w:=by
 have HA:=hid h
 have HG:=hid hg
 have hsm:=hg.small
 have c0:=h.cells.deeds
 have hlt:=h.cells.lt
 have hL:=h.ownD.dlst
 obtain⟨a,cap,rfl⟩:=h.ownD.len
 have HDL:=hid hL
 clear h hg hL
 go_enter Tryz.func102,Tryz.ntmps102
 go_wp2_with fail
 refine(zzo HA.out HG.out).mono ?_
 rintro e w1 ⟨rfl,hw1⟩
 rw[hw1]
 clear hw1 w1
 go_wp2_with fail
 go_loop [5,6] (fun n i=>∃j:Nat,seen+j<=b.ds.length/\i= .int .i64 ((seen:Int)+j)/\n= .int .i64 (zgi b seen j)) (fun _ i=>b.ds.length-(intOf i).toNat)
 case atStart=>exact⟨0,hsl,by go_num,rfl⟩
 obtain⟨j,hj,rfl,rfl⟩:=hrel
 by_cases hjl:seen+j<b.ds.length
 ·have HLP:=hid (zqr hjl)
  obtain⟨a',len',cap',he,e1,e2,e3⟩:=HDL.out
  simp only[Value.slice.injEq]at he
  obtain⟨rfl,rfl,rfl⟩:=he
  rcases e3 with e3|⟨bb,off,rfl,hr⟩
  ·omega
  obtain⟨hbb,g0,g1,g2,g3,g4,g5,g6⟩:=hr.at_ (seen+j) hjl
  generalize b.ds[seen+j]=d at*
  obtain⟨kind,by_,no,dseen,at_,many,text⟩:=d
  simp only at g3
  have hji:((seen:Int)+j)<(b.ds.length:Int):=by omega
  rw[show((seen:Int)+(j:Int))=((seen+j:Nat):Int) by omega]at*
  generalize zgi b seen j=n at*
  clear hr e1 e2 g0 g1 g2 g4 g5 g6
  by_cases hs:dseen<n
  ·have HN2:Hid (zgi b seen (j+1)=dseen):=by have h5:=HLP.out;show _=_;rw[h5];show min n dseen=dseen;omega
   clear HLP
   go_wp2
   go_round
   case rel=>exact⟨j+1,by omega,by go_num,by rw[HN2.out]⟩
   case measure=>simp[intOf];omega
  have HN2:Hid (zgi b seen (j+1)=n):=by have h5:=HLP.out;show _=_;rw[h5];show min n dseen=n;omega
  clear HLP
  go_wp2
  go_round
  case rel=>exact⟨j+1,by omega,by go_num,by rw[HN2.out]⟩
  case measure=>simp[intOf];omega
 rw[ztw (by omega)]
 obtain⟨least,hcq⟩:∃c,zba b seen=c:=⟨_,rfl⟩
 have HCQ:=hid hcq
 rw[hcq]
 clear hcq
 go_wp2
 go_ret
 exact⟨by rw[HCQ.out];rfl,rfl⟩
variable {w:World} {base D G:Nat} {pw:Nat->Nat} {t:Twn} {S:Nat->Prop} {dv:Value}
theorem tdo_bad(h:zke base D G pw t w S){tk:Int->List (List Ch)}(hr:TR t tk)(x:Tst)(hkd:x.kind<1\/7<x.kind):
 Calls Tryz.prog 56 #[.pointer (some ⟨D,0,none⟩),tsV x] w fun e w'=>e= .returned (.int .i64 2)/\zkd base w S D G pw t w':=by
 have HI:=hid (h.start.step x 0)
 have HL:=hid h.held
 have HR:=hid hr
 obtain⟨kind,w_,at_,many,text⟩:=x
 clear h hr
 rcases(show kind<1\/7<kind from hkd)with hq|hq
 ·clear hkd
  go_enter Tryz.func56,Tryz.ntmps56
  go_wp2
  go_ret
  exact⟨rfl,HI.out.done HL.out⟩
 have hq2:¬kind<1:=by omega
 clear hkd
 go_enter Tryz.func56,Tryz.ntmps56
 go_wp2
 go_ret
 exact⟨rfl,HI.out.done HL.out⟩
def TBox(D G E:Nat)(x:Tst)(wk:World):Prop:=DLog D G wk/\zt7 wk E 0 x
section
variable {base D G E:Nat} {pw:Nat->Nat} {t:Twn} {ex:Nat->Th base} {w0 wk w':World} {S:Nat->Prop} {x:Tst}
theorem zbu.dlog(h:zbu base w0 S D G pw t ex wk):DLog D G wk:=⟨h.cells.lt,h.cells.book⟩
theorem zbu.tbox(h:zbu base w0 S D G pw t (zat ex 0 (Th.st base E x)) wk):TBox D G E x wk:=⟨h.dlog,h.stepAt⟩
theorem zbu.shut:Shut (fun wk=>zbu base w0 S D G pw t ex wk):=fun _ _ h hb=>h.after hb
def TBk(D G E:Nat)(x:Tst)(dv:Value)(wk:World):Prop:=TBox D G E x wk/\G<wk.heap.size/\wk.cell? ⟨G,0,none⟩=some dv
structure JT(base:Nat)(w0:World)(S:Nat->Prop)(D G:Nat)(pw:Nat->Nat)(t:Twn)(E:Nat)(x:Tst)(dv:Value)(wk:World):Prop where
 di:zbu base w0 S D G pw t (zat (fun _=>Th.no base) 0 (Th.st base E x)) wk
 bk:G<wk.heap.size/\wk.cell? ⟨G,0,none⟩=some dv
theorem JT.tbk(h:JT base w0 S D G pw t E x dv wk):TBk D G E x dv wk:=⟨h.di.tbox,h.bk⟩
theorem JT.after{dv:Value}(h:JT base w0 S D G pw t E x dv wk)(hb:Below wk.heap.size wk w'):JT base w0 S D G pw t E x dv w':=
 ⟨h.di.after hb,Nat.lt_of_lt_of_le h.bk.1 hb.size,by rw[(zdp hb).1 _ _ h.bk.1];exact h.bk.2⟩
structure JTL(base:Nat)(w0:World)(S:Nat->Prop)(D G:Nat)(pw:Nat->Nat)(t:Twn)(E:Nat)(x:Tst)(dv:Value)(l:List Ch)(u:Value)(wk:World):Prop where
 jt:JT base w0 S D G pw t E x dv wk
 own:Lst wk u l
structure NT(base:Nat)(w0:World)(S:Nat->Prop)(D G:Nat)(pw:Nat->Nat)(t:Twn)(E:Nat)(x:Tst)(dv:Value)(r:Wr)(u:Value)(wk:World):Prop where
 jt:JT base w0 S D G pw t E x dv wk
 new:∃P w1 v1,u= .pointer (some ⟨P,0,none⟩)/\zbu base w0 S D G pw t (zat (fun _=>Th.no base) 0 (Th.st base E x)) w1/\Below w1.heap.size w1 wk/\zfw wk w1.heap.size (fun k=>w1.heap.size<=k/\k<wk.heap.size) P v1 (.slice none 0 0) r.base [] r.me r.seen r.next 0
theorem NT.seat{P k:Nat}{r:Wr}(h:NT base w0 S D G pw t E x dv r (.pointer (some ⟨P,0,none⟩)) wk)(hk:k<4)(hr:r.opens=[])(hs:r.sent=0):
 JT base w0 S D G (zq2 pw k P) ⟨t.b,zai t.ws k (some r)⟩ E x dv (wk.setCell ⟨D,1+k,none⟩ (.pointer (some ⟨P,0,none⟩))):=by
 obtain⟨P',w1,v1,he,h1,h2,h3⟩:=h.new
 obtain rfl:P=P':=by simpa using he
 have hne:=h.jt.di.ne
 refine⟨h1.newS h2 hk hr hs h3,by simpa [World.setCell]using h.jt.bk.1,?_⟩
 rw[World.cell?_of_block (a:=⟨G,0,none⟩) (Below.heap_setCell _ _ _ _ (fun e=>hne e.symm))]
 exact h.jt.bk.2
end
theorem zw7(h:zke base D G pw t w S){tk:Int->List (List Ch)}(hr:TR t tk)(x:Tst)(hkd:x.kind=1)(hc:zde t.b x.w≠0):
 Calls Tryz.prog 56 #[.pointer (some ⟨D,0,none⟩),tsV x] w fun e w'=>e= .returned (.int .i64 (zde t.b x.w))/\zkd base w S D G pw t w':=by
 have HI:=hid (h.start.step x 0)
 have HL:=hid h.held
 have HR:=hid hr
 have HC:=hid hc
 clear hc
 obtain⟨kind,w_,at_,many,text⟩:=x
 clear h hr
 obtain rfl:kind=1:=hkd
 obtain⟨nx,hnx⟩:∃c,zey t.b w_=c:=⟨_,rfl⟩
 have HNX:=hid hnx
 obtain⟨cd,hcd⟩:∃c,zde t.b w_=c:=⟨_,rfl⟩
 have HCD:=hid hcd
 have HB:=hid (zme HC.out)
 have hcn:¬cd=0:=by rw[<-hcd];exact HC.out
 clear hnx hcd
 go_enter Tryz.func56,Tryz.ntmps56
 go_wp2_with fail
 generalize World.alloc _ _=w5 at*
 refine wrs (fun wk=>TBox D G w.heap.size ⟨1,w_,at_,many,text⟩ wk) (fun i=>i==6) (fun wk=>zbu base w S D G pw t (zat (fun _=>Th.no base) 0 (Th.st base w.heap.size ⟨1,w_,at_,many,text⟩)) wk) (by kernel_rfl) (by kernel_rfl) (by kernel_rfl) (fun _ h=>h.tbox) (HI.out.after (Below.refl _ _).drew) ?_
 refine za0 (some 29) w (.pointer (some ⟨D,0,none⟩)) (.tmp 0) (.pointer (some ⟨D,0,none⟩)) ?_ ?_
 ·intros;go_simp
 go_big_quiet_op
 refine za0 (some 30) w (.pointer (some ⟨D,0,none⟩)) (.tmp 29) (.pointer (some ⟨D,0,none⟩)) ?_ ?_
 ·intros;go_simp
 go_big_quiet_op
 refine za0 (some 31) w (.pointer (some ⟨D,0,none⟩)) (.tmp 30) (.pointer (some ⟨D,0,none⟩)) ?_ ?_
 ·intros;go_simp
 go_big_quiet_op
 refine za0 (some 32) w (.pointer (some ⟨G,0,none⟩)) (.tmp 31) (.pointer (some ⟨D,0,none⟩)) (fun wk hwk ρ s31=> ?_) ?_
 ·have g0:=hwk.1.2
  have hlt:=hwk.1.1
  go_simp
 go_big_quiet_op
 refine za0 (some 33) w (.pointer (some ⟨w.heap.size,1,none⟩)) (.tmp 3) (.pointer (some ⟨w.heap.size,0,none⟩)) ?_ ?_
 ·intros;go_simp
 go_big_quiet_op
 refine za0 (some 34) w (.int .i64 (w_)) (.tmp 33) (.pointer (some ⟨w.heap.size,1,none⟩)) (fun wk hwk ρ s33=> ?_) ?_
 ·obtain⟨_,c0,c1,c2,c3,c4⟩:=hwk.2
  simp only[Nat.zero_add]at c1
  go_simp
 go_big_quiet_op
 refine zac (some 35) w rfl rfl rfl (fun u=>u= .tuple #[.int .i64 (nx),.int .i64 (cd)]) (fun u wk=>zbu base w S D G pw ⟨zc4 t.b w_,t.ws⟩ (zat (fun _=>Th.no base) 0 (Th.st base w.heap.size ⟨1,w_,at_,many,text⟩)) wk) (⟨_,rfl⟩) (fun _ _ h=>h.tbox) (fun wk hwk=> ?_) (fun u9 hu9=> ?_)
 ·generalize hA:Act.eval _=ρ
  have s32:ρ (.tmp 32)= .pointer (some ⟨G,0,none⟩):=by rw[<-hA];kernel_rfl
  have s34:ρ (.tmp 34)= .int .i64 (w_):=by rw[<-hA];kernel_rfl
  have sf:ρ (.func 92)= .func (.func 92) #[] #[]:=by rw[<-hA];kernel_rfl
  clear hA
  go_simp
  obtain⟨T,dv,hl,hs⟩:=hwk.book
  refine(qfg hl HR.out.ti.good _).mono ?_
  rintro e w7 ⟨rfl,hto⟩
  exact⟨_,rfl,by rw[HNX.out,HCD.out],hs _ _ hto⟩
 subst hu9
 go_big_quiet_op
 refine za0 (some 28) w (.tuple #[.int .i64 (nx),.int .i64 (cd)]) (.tmp 35) (.tuple #[.int .i64 (nx),.int .i64 (cd)]) ?_ ?_
 ·intros;go_simp
 go_big_quiet_op
 refine za0 (some 36) w (.int .i64 (nx)) (.tmp 28) (.tuple #[.int .i64 (nx),.int .i64 (cd)]) ?_ ?_
 ·intros;go_simp
 go_big_quiet_op
 refine za0 (some 37) w (.int .i64 (cd)) (.tmp 28) (.tuple #[.int .i64 (nx),.int .i64 (cd)]) ?_ ?_
 ·intros;go_simp
 go_big_quiet_op
 refine za0 (some 5) w (.int .i64 (nx)) (.tmp 36) (.int .i64 (nx)) ?_ ?_
 ·intros;go_simp
 go_big_quiet_op
 refine za0 (some 6) w (.int .i64 (cd)) (.tmp 37) (.int .i64 (cd)) ?_ ?_
 ·intros;go_simp
 go_big_quiet_op
 refine wsn (fun w9 hw9=> ?_)
 have H9:=hid hw9
 clear hw9 HI
 go_wp2_with fail
 go_ret
 exact⟨by rw[HCD.out];rfl,by have:=H9.out;rw[HB.out]at this;exact this.done HL.out⟩
theorem zto(h:zke base D G pw t w S){tk:Int->List (List Ch)}(hr:TR t tk)(x:Tst)(hkd:x.kind=1){k:Nat}(hk:k<4)(hxw:x.w=k)(hc:zde t.b k=0):
 Calls Tryz.prog 56 #[.pointer (some ⟨D,0,none⟩),tsV x] w fun e w'=>e= .returned (.int .i64 0)/\∃P,zkd base w S D G (zq2 pw k P) ⟨zc4 t.b k,zai t.ws k (some (newW t.b k))⟩ w':=by
 have HI:=hid (h.start.step x 0)
 have HL:=hid h.held
 have HR:=hid hr
 have HJC:=hid hc
 clear hc
 obtain⟨kind,w_,at_,many,text⟩:=x
 clear h hr
 obtain rfl:kind=1:=hkd
 obtain rfl:w_=(k:Int):=hxw
 have HNX:Hid (zey t.b k=t.b.last k+1):=by show zey t.b k=_;rw[zey,if_pos HJC.out]
 have HCD:=hid HJC.out
 have HLE:Hid (t.b.chars.length<=1000):=by have:=zay (b:=t.b);show _<=_;omega
 have HAL:Hid (zct (zc4 t.b k)):=zp8 _ HR.out.ti.good
 have hk4:(k:Int)<4:=by omega
 go_enter Tryz.func56,Tryz.ntmps56
 go_wp2_with fail
 generalize World.alloc _ _=w5 at*
 refine wrs (fun wk=>TBox D G w.heap.size ⟨1,(k:Int),at_,many,text⟩ wk) (fun i=>i==6) (fun wk=>zbu base w S D G pw t (zat (fun _=>Th.no base) 0 (Th.st base w.heap.size ⟨1,(k:Int),at_,many,text⟩)) wk) (by kernel_rfl) (by kernel_rfl) (by kernel_rfl) (fun _ h=>h.tbox) (HI.out.after (Below.refl _ _).drew) ?_
 refine za0 (some 29) w (.pointer (some ⟨D,0,none⟩)) (.tmp 0) (.pointer (some ⟨D,0,none⟩)) ?_ ?_
 ·intros;go_simp
 go_big_quiet_op
 refine za0 (some 30) w (.pointer (some ⟨D,0,none⟩)) (.tmp 29) (.pointer (some ⟨D,0,none⟩)) ?_ ?_
 ·intros;go_simp
 go_big_quiet_op
 refine za0 (some 31) w (.pointer (some ⟨D,0,none⟩)) (.tmp 30) (.pointer (some ⟨D,0,none⟩)) ?_ ?_
 ·intros;go_simp
 go_big_quiet_op
 refine za0 (some 32) w (.pointer (some ⟨G,0,none⟩)) (.tmp 31) (.pointer (some ⟨D,0,none⟩)) (fun wk hwk ρ s31=> ?_) ?_
 ·have g0:=hwk.1.2
  have hlt:=hwk.1.1
  go_simp
 go_big_quiet_op
 refine za0 (some 33) w (.pointer (some ⟨w.heap.size,1,none⟩)) (.tmp 3) (.pointer (some ⟨w.heap.size,0,none⟩)) ?_ ?_
 ·intros;go_simp
 go_big_quiet_op
 refine za0 (some 34) w (.int .i64 ((k:Int))) (.tmp 33) (.pointer (some ⟨w.heap.size,1,none⟩)) (fun wk hwk ρ s33=> ?_) ?_
 ·obtain⟨_,c0,c1,c2,c3,c4⟩:=hwk.2
  simp only[Nat.zero_add]at c1
  go_simp
 go_big_quiet_op
 refine zac (some 35) w rfl rfl rfl (fun u=>u= .tuple #[.int .i64 (t.b.last k+1),.int .i64 (0)]) (fun u wk=>zbu base w S D G pw ⟨zc4 t.b (k:Int),t.ws⟩ (zat (fun _=>Th.no base) 0 (Th.st base w.heap.size ⟨1,(k:Int),at_,many,text⟩)) wk) (⟨_,rfl⟩) (fun _ _ h=>h.tbox) (fun wk hwk=> ?_) (fun u9 hu9=> ?_)
 ·generalize hA:Act.eval _=ρ
  have s32:ρ (.tmp 32)= .pointer (some ⟨G,0,none⟩):=by rw[<-hA];kernel_rfl
  have s34:ρ (.tmp 34)= .int .i64 ((k:Int)):=by rw[<-hA];kernel_rfl
  have sf:ρ (.func 92)= .func (.func 92) #[] #[]:=by rw[<-hA];kernel_rfl
  clear hA
  go_simp
  obtain⟨T,dv,hl,hs⟩:=hwk.book
  refine(qfg hl HR.out.ti.good _).mono ?_
  rintro e w7 ⟨rfl,hto⟩
  exact⟨_,rfl,by rw[HNX.out,HCD.out],hs _ _ hto⟩
 subst hu9
 go_big_quiet_op
 refine za0 (some 28) w (.tuple #[.int .i64 (t.b.last k+1),.int .i64 (0)]) (.tmp 35) (.tuple #[.int .i64 (t.b.last k+1),.int .i64 (0)]) ?_ ?_
 ·intros;go_simp
 go_big_quiet_op
 refine za0 (some 36) w (.int .i64 (t.b.last k+1)) (.tmp 28) (.tuple #[.int .i64 (t.b.last k+1),.int .i64 (0)]) ?_ ?_
 ·intros;go_simp
 go_big_quiet_op
 refine za0 (some 37) w (.int .i64 (0)) (.tmp 28) (.tuple #[.int .i64 (t.b.last k+1),.int .i64 (0)]) ?_ ?_
 ·intros;go_simp
 go_big_quiet_op
 refine za0 (some 5) w (.int .i64 (t.b.last k+1)) (.tmp 36) (.int .i64 (t.b.last k+1)) ?_ ?_
 ·intros;go_simp
 go_big_quiet_op
 refine za0 (some 6) w (.int .i64 (0)) (.tmp 37) (.int .i64 (0)) ?_ ?_
 ·intros;go_simp
 go_big_quiet_op
 refine wsn (fun w9 hw9=> ?_)
 have H9:=hid hw9
 clear hw9 HI
 go_wp2_with fail
 obtain⟨T,dv,hbk,_⟩:=H9.out.book
 obtain⟨a,cap,hdv⟩:=hbk.ownD.len
 rw[show(Twn.b (⟨zc4 t.b k,t.ws⟩:Twn)).ds=t.b.ds from zsr _ _]at hdv
 subst hdv
 have HJ:Hid (JT base w S D G pw ⟨zc4 t.b k,t.ws⟩ w.heap.size ⟨1,(k:Int),at_,many,text⟩ (.slice a t.b.ds.length cap) w9):=⟨H9.out,hbk.cells.lt,hbk.cells.deeds⟩
 clear hbk H9
 refine wrs (fun wk=>TBk D G w.heap.size ⟨1,(k:Int),at_,many,text⟩ (.slice a t.b.ds.length cap) wk) (fun i=>i==18||i==19||i==23) (fun wk=>JT base w S D G pw ⟨zc4 t.b k,t.ws⟩ w.heap.size ⟨1,(k:Int),at_,many,text⟩ (.slice a t.b.ds.length cap) wk) (by kernel_rfl) (by kernel_rfl) (by kernel_rfl) (fun _ h=>h.tbk) (HJ.out.after (Below.refl _ _).drew) ?_
 refine za0 (some 40) w (.pointer (some ⟨D,0,none⟩)) (.tmp 0) (.pointer (some ⟨D,0,none⟩)) ?_ ?_
 ·intros;go_simp
 go_big_quiet_op
 refine za0 (some 41) w (.pointer (some ⟨w.heap.size,1,none⟩)) (.tmp 3) (.pointer (some ⟨w.heap.size,0,none⟩)) ?_ ?_
 ·intros;go_simp
 go_big_quiet_op
 refine za0 (some 42) w (.int .i64 ((k:Int))) (.tmp 41) (.pointer (some ⟨w.heap.size,1,none⟩)) (fun wk hwk ρ s41=> ?_) ?_
 ·obtain⟨_,c0,c1,c2,c3,c4⟩:=hwk.1.2
  simp only[Nat.zero_add]at c1
  go_simp
 go_big_quiet_op
 refine za0 (some 43) w (.pointer (some ⟨w.heap.size,1,none⟩)) (.tmp 3) (.pointer (some ⟨w.heap.size,0,none⟩)) ?_ ?_
 ·intros;go_simp
 go_big_quiet_op
 refine za0 (some 44) w (.int .i64 ((k:Int))) (.tmp 43) (.pointer (some ⟨w.heap.size,1,none⟩)) (fun wk hwk ρ s43=> ?_) ?_
 ·obtain⟨_,c0,c1,c2,c3,c4⟩:=hwk.1.2
  simp only[Nat.zero_add]at c1
  go_simp
 go_big_quiet_op
 refine za0 (some 45) w (.int .i64 (t.b.last k+1)) (.tmp 5) (.int .i64 (t.b.last k+1)) ?_ ?_
 ·intros;go_simp
 go_big_quiet_op
 refine za0 (some 46) w (.pointer (some ⟨D,0,none⟩)) (.tmp 0) (.pointer (some ⟨D,0,none⟩)) ?_ ?_
 ·intros;go_simp
 go_big_quiet_op
 refine za0 (some 47) w (.pointer (some ⟨D,0,none⟩)) (.tmp 46) (.pointer (some ⟨D,0,none⟩)) ?_ ?_
 ·intros;go_simp
 go_big_quiet_op
 refine za0 (some 48) w (.pointer (some ⟨D,0,none⟩)) (.tmp 47) (.pointer (some ⟨D,0,none⟩)) ?_ ?_
 ·intros;go_simp
 go_big_quiet_op
 refine za0 (some 49) w (.pointer (some ⟨G,0,none⟩)) (.tmp 48) (.pointer (some ⟨D,0,none⟩)) (fun wk hwk ρ s48=> ?_) ?_
 ·have g0:=hwk.1.1.2
  have hlt:=hwk.1.1.1
  go_simp
 go_big_quiet_op
 refine za0 (some 50) w (.pointer (some ⟨G,0,none⟩)) (.tmp 49) (.pointer (some ⟨G,0,none⟩)) ?_ ?_
 ·intros;go_simp
 go_big_quiet_op
 refine za0 (some 51) w (.pointer (some ⟨G,0,none⟩)) (.tmp 50) (.pointer (some ⟨G,0,none⟩)) ?_ ?_
 ·intros;go_simp
 go_big_quiet_op
 refine za0 (some 52) w (.slice a t.b.ds.length cap) (.tmp 51) (.pointer (some ⟨G,0,none⟩)) (fun wk hwk ρ s51=> ?_) ?_
 ·have g1:=hwk.2.2
  have hlt:=hwk.2.1
  go_simp
 go_big_quiet_op
 refine za0 (some 53) w (.int .i64 ((t.b.ds.length:Int))) (.tmp 52) (.slice a t.b.ds.length cap) ?_ ?_
 ·intros;go_simp
 go_big_quiet_op
 refine za0 (some 54) w (.pointer (some ⟨D,0,none⟩)) (.tmp 0) (.pointer (some ⟨D,0,none⟩)) ?_ ?_
 ·intros;go_simp
 go_big_quiet_op
 refine za0 (some 55) w (.pointer (some ⟨D,0,none⟩)) (.tmp 54) (.pointer (some ⟨D,0,none⟩)) ?_ ?_
 ·intros;go_simp
 go_big_quiet_op
 refine za0 (some 56) w (.pointer (some ⟨D,0,none⟩)) (.tmp 55) (.pointer (some ⟨D,0,none⟩)) ?_ ?_
 ·intros;go_simp
 go_big_quiet_op
 refine za0 (some 57) w (.pointer (some ⟨G,0,none⟩)) (.tmp 56) (.pointer (some ⟨D,0,none⟩)) (fun wk hwk ρ s56=> ?_) ?_
 ·have g0:=hwk.1.1.2
  have hlt:=hwk.1.1.1
  go_simp
 go_big_quiet_op
 refine zac (some 58) w rfl rfl rfl (fun u=>True) (fun u wk=>JTL base w S D G pw ⟨zc4 t.b k,t.ws⟩ w.heap.size ⟨1,(k:Int),at_,many,text⟩ (.slice a t.b.ds.length cap) t.b.chars u wk) (⟨undef,trivial⟩) (fun _ _ h=>h.jt.tbk) (fun wk hwk=> ?_) (fun u18 hu18=> ?_)
 ·generalize hA:Act.eval _=ρ
  have s57:ρ (.tmp 57)= .pointer (some ⟨G,0,none⟩):=by rw[<-hA];kernel_rfl
  have sf:ρ (.func 39)= .func (.func 39) #[] #[]:=by rw[<-hA];kernel_rfl
  clear hA
  go_simp
  obtain⟨T,dv,hl,_⟩:=hwk.di.book
  refine(zk3 hl HAL.out).mono ?_
  rintro e w7 ⟨v7,rfl,hown,hb⟩
  rw[show(Twn.b (⟨zc4 t.b k,t.ws⟩:Twn)).chars=t.b.chars from zp6 _ _]at hown
  exact⟨_,rfl,hwk.after hb,hown.lst⟩
 clear hu18
 go_big_quiet_op
 refine zac (some 59) w rfl rfl rfl (fun u=>∃P,u= .pointer (some ⟨P,0,none⟩)) (fun u wk=>NT base w S D G pw ⟨zc4 t.b k,t.ws⟩ w.heap.size ⟨1,(k:Int),at_,many,text⟩ (.slice a t.b.ds.length cap) (newW t.b k) u wk) (⟨.pointer (some ⟨0,0,none⟩),0,rfl⟩) (fun _ _ h=>h.jt.tbk) (fun wk hwk=> ?_) (fun u19 hu19=> ?_)
 ·generalize hA:Act.eval _=ρ
  have s44:ρ (.tmp 44)= .int .i64 ((k:Int)):=by rw[<-hA];kernel_rfl
  have s45:ρ (.tmp 45)= .int .i64 (t.b.last k+1):=by rw[<-hA];kernel_rfl
  have s53:ρ (.tmp 53)= .int .i64 ((t.b.ds.length:Int)):=by rw[<-hA];kernel_rfl
  have s58:ρ (.tmp 58)=u18:=by rw[<-hA];kernel_rfl
  have sf:ρ (.func 93)= .func (.func 93) #[] #[]:=by rw[<-hA];kernel_rfl
  clear hA
  go_simp
  refine(new_sc hwk.own HLE.out k (t.b.last k+1) t.b.ds.length).mono ?_
  rintro e w7 ⟨P,v1,rfl,hat,hb⟩
  exact⟨_,rfl,⟨P,rfl⟩,hwk.jt.after hb,P,wk,v1,rfl,hwk.jt.di,hb,hat⟩
 obtain⟨P,rfl⟩:=hu19
 go_big_quiet_op
 refine za0 (some 60) w (.pointer (some ⟨D,0,none⟩)) (.tmp 40) (.pointer (some ⟨D,0,none⟩)) ?_ ?_
 ·intros;go_simp
 go_big_quiet_op
 refine za0 (some 61) w (.pointer (some ⟨D,1,none⟩)) (.tmp 60) (.pointer (some ⟨D,0,none⟩)) ?_ ?_
 ·intros;go_simp
 go_big_quiet_op
 refine wsb (some 62) w rfl (.pointer (some ⟨D,1+k,none⟩)) rfl (by kernel_rfl) (fun wk hwk=> ?_) ?_
 ·generalize hA:Act.eval _=ρ
  have s61:ρ (.tmp 61)= .pointer (some ⟨D,1,none⟩):=by rw[<-hA];kernel_rfl
  have s42:ρ (.tmp 42)= .int .i64 ((k:Int)):=by rw[<-hA];kernel_rfl
  clear hA
  go_simp
 go_big_quiet_op
 refine zim rfl rfl rfl (fun wk=>JT base w S D G (zq2 pw k P) ⟨zc4 t.b k,zai t.ws k (some (newW t.b k))⟩ w.heap.size ⟨1,(k:Int),at_,many,text⟩ (.slice a t.b.ds.length cap) wk) (fun _ h=>h.tbk) (fun wk hwk=> ?_) ?_
 ·generalize hA:Act.eval _=ρ
  have s62:ρ (.tmp 62)= .pointer (some ⟨D,1+k,none⟩):=by rw[<-hA];kernel_rfl
  have s59:ρ (.tmp 59)= .pointer (some ⟨P,0,none⟩):=by rw[<-hA];kernel_rfl
  clear hA
  have hq:=hwk.seat hk rfl rfl
  obtain⟨u1,cc⟩:∃u,wk.cell? ⟨D,1+k,none⟩=some u:=⟨_,hwk.jt.di.cells.ws k hk⟩
  have ff:=hwk.jt.di.cells.free (1+k) (by omega)
  have hlt:=hwk.jt.di.cells.lt
  go_simp
  exact hq
 refine wsn (fun w12 hw12=> ?_)
 have H12:=hid hw12
 clear hw12 HJ
 go_wp2_with fail
 go_ret
 exact⟨rfl,P,H12.out.di.done HL.out⟩
end Go.Proofs.YtcbnnfeelhlapadGreatDoor