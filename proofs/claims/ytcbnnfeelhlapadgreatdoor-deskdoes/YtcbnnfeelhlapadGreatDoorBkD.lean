/-
  BkD.
-/
import Derived.Deep.RegionLaw
import Derived.Deep.AppendLies
import Derived.Test.YtcbnnfeelhlapadGreatDoorBkW
namespace Go.Proofs.YtcbnnfeelhlapadGreatDoor
set_option maxHeartbeats 1600000
set_option maxRecDepth 20000
open Go.RowKit
variable {b:Bk} {d:Dd} {w w' w6 w5:World} {base B:Nat} {S:Nat->Prop} {dv:Value} {o:Obj}
theorem zxy(b:Bk)(d:Dd):(b.isHere d.by_=false/\za6 b d=5)\/(b.isHere d.by_=true/\d.no≠b.last d.by_+1/\za6 b d=7)
 \/(b.isHere d.by_=true/\d.no=b.last d.by_+1/\d.seen<b.said d.by_/\za6 b d=8)\/(b.isHere d.by_=true/\d.no=b.last d.by_+1/\b.said d.by_<=d.seen/\b.len<d.seen/\za6 b d=8)
 \/(b.isHere d.by_=true/\d.no=b.last d.by_+1/\b.said d.by_<=d.seen/\d.seen<=b.len/\120<=b.len/\za6 b d=9)
 \/(b.isHere d.by_=true/\d.no=b.last d.by_+1/\b.said d.by_<=d.seen/\d.seen<=b.len/\b.len<120/\za6 b d=doC b.chars d (b.len+1)):=by
 unfold za6
 cases hh:b.isHere d.by_
 ·exact .inl ⟨rfl,if_pos rfl⟩
 rw[if_neg (by simp)]
 by_cases h1:d.no=b.last d.by_+1
 ·rw[if_neg (fun e=>e h1)]
  by_cases h2:d.seen<b.said d.by_
  ·exact .inr (.inr (.inl ⟨rfl,h1,h2,if_pos (.inl h2)⟩))
  by_cases h3:b.len<d.seen
  ·exact .inr (.inr (.inr (.inl ⟨rfl,h1,by omega,h3,if_pos (.inr h3)⟩)))
  rw[if_neg (by omega)]
  by_cases h4:120<=b.len
  ·exact .inr (.inr (.inr (.inr (.inl ⟨rfl,h1,by omega,by omega,h4,if_pos h4⟩))))
  exact .inr (.inr (.inr (.inr (.inr ⟨rfl,h1,by omega,by omega,by omega,if_neg h4⟩))))
 exact .inr (.inl ⟨rfl,h1,if_pos h1⟩)
theorem zej{c:Int}(h:za6 b d=c)(hc:c≠0):zb9 b d=b/\zar b d=0:=by
 have:za6 b d≠0:=by rw[h];exact hc
 exact⟨zt1 this,by rw[zar,if_neg this]⟩
structure TB(w:World)(base:Nat)(S:Nat->Prop)(B:Nat)(dv:Value)(b:Bk)(d:Dd)(wk:World):Prop where
 book:zb5 wk base S B dv b
 deed:zdq wk w.heap.size 0 d
 below:Below w.heap.size w wk
theorem TB.after{wk:World}(h:TB w base S B dv b d wk)(hb:Below wk.heap.size wk w'):TB w base S B dv b d w':=⟨h.book.below hb,h.deed.below hb,bla h.below hb⟩
theorem zi5(h:zb5 w base S B dv b)(d:Dd):TB w base S B dv b d (w.alloc (zd9 d)):=
 ⟨h.below ((Below.refl _ _).alloc (Nat.le_refl _) _),zb4 w d,(Below.refl _ _).alloc (Nat.le_refl _) _⟩
theorem TB.stay{w wk:World}{base B:Nat}{S:Nat->Prop}{dv:Value}{b:Bk}{d:Dd}(h:TB w base S B dv b d wk)(h0:zb5 w base S B dv b):zeu w base S B b wk:=h0.stay h.below
theorem ne_wrap{no m:Int}(h0: -9223372036854775808<=no)(h1:no<=9223372036854775807)(hm:0<=m)(hm2:m<=120)(h:no≠m+1):(wrap64 (no-1) != m)=true:=by
 rw[bne_iff_ne]
 unfold wrap64
 omega
theorem take_bk5(h:zb5 w base S B dv b)(hg:zct b)(d:Dd)(hn0: -9223372036854775808<=d.no)(hn1:d.no<=9223372036854775807)(hh:b.isHere d.by_=false)(hcd:za6 b d=5):
 Calls Tryz.prog 96 #[.pointer (some ⟨B,0,none⟩),ddV d] w fun e w'=>e= .returned (.tuple #[.int .i64 (zar b d),.int .i64 (za6 b d)])/\zeu w base S B (zb9 b d) w':=by
 have HA:=hid h
 have HI:=hid (zi5 h d)
 obtain⟨a,cap,rfl⟩:=h.ownD.len
 have hlen:b.len=(b.ds.length:Int):=rfl
 have hl2:=hg.small
 obtain⟨hl0,hl1⟩:=zb2 hg d.by_
 obtain⟨hs0,hs1⟩:=hg.said d.by_
 have HCD:=hid hcd
 obtain⟨hb',hn'⟩:=zej hcd (by decide)
 have HB:=hid hb'
 have HN:=hid hn'
 clear hb' hn' hcd
 obtain⟨kind,by_,no,seen,at_,many,text⟩:=d
 simp only at hh hn0 hn1 hl0 hl1 hs0 hs1
 clear h hg
 go_enter Tryz.func96,Tryz.ntmps96
 go_wp2_with fail
 refine(zcz HI.out.book.cells _).mono ?_
 rintro e w1 ⟨rfl,rfl⟩
 rw[hh]
 generalize w.alloc _=w1 at*
 go_wp2
 go_ret2
 exact⟨zdy HN.out.symm HCD.out.symm,by rw[HB.out];exact(HI.out.after (Below.refl _ _)).stay HA.out⟩
theorem take_bk7(h:zb5 w base S B dv b)(hg:zct b)(d:Dd)(hn0: -9223372036854775808<=d.no)(hn1:d.no<=9223372036854775807)(hh:b.isHere d.by_=true)(hno:d.no≠b.last d.by_+1)(hcd:za6 b d=7):
 Calls Tryz.prog 96 #[.pointer (some ⟨B,0,none⟩),ddV d] w fun e w'=>e= .returned (.tuple #[.int .i64 (zar b d),.int .i64 (za6 b d)])/\zeu w base S B (zb9 b d) w':=by
 have HA:=hid h
 have HI:=hid (zi5 h d)
 obtain⟨a,cap,rfl⟩:=h.ownD.len
 have hlen:b.len=(b.ds.length:Int):=rfl
 have hl2:=hg.small
 obtain⟨hl0,hl1⟩:=zb2 hg d.by_
 obtain⟨hs0,hs1⟩:=hg.said d.by_
 have HCD:=hid hcd
 obtain⟨hb',hn'⟩:=zej hcd (by decide)
 have HB:=hid hb'
 have HN:=hid hn'
 clear hb' hn' hcd
 obtain⟨kind,by_,no,seen,at_,many,text⟩:=d
 simp only at hh hn0 hn1 hl0 hl1 hs0 hs1 hno
 obtain⟨hw,_⟩:=zad hh
 obtain⟨j,rfl,hj⟩:=zc1 hw
 have hne:=ne_wrap hn0 hn1 hl0 (by omega) hno
 clear h hg
 go_enter Tryz.func96,Tryz.ntmps96
 go_wp2_with fail
 refine(zcz HI.out.book.cells _).mono ?_
 rintro e w1 ⟨rfl,rfl⟩
 rw[hh]
 generalize w.alloc _=w1 at*
 obtain⟨_,c0,c1,c2,c3,c4,c5,c6⟩:=HI.out.deed
 simp only[Nat.zero_add]at c0 c1 c2 c3 c4 c5 c6
 have g0:=HI.out.book.cells.deeds
 have g2:=HI.out.book.cells.last j hj
 have g3:=HI.out.book.cells.said j hj
 have hlt:=HI.out.book.cells.lt
 generalize b.last j=m at*
 generalize b.said j=sd at*
 go_wp2
 go_quiet (fail)
 go_wp2
 go_ret2
 exact⟨zdy HN.out.symm HCD.out.symm,by rw[HB.out];exact(HI.out.after (below_drewN (Below.refl _ _) _)).stay HA.out⟩
theorem qdn(h:zb5 w base S B dv b)(hg:zct b)(d:Dd)(hn0: -9223372036854775808<=d.no)(hn1:d.no<=9223372036854775807)(hh:b.isHere d.by_=true)(hno:d.no=b.last d.by_+1)(hs:d.seen<b.said d.by_)(hcd:za6 b d=8):
 Calls Tryz.prog 96 #[.pointer (some ⟨B,0,none⟩),ddV d] w fun e w'=>e= .returned (.tuple #[.int .i64 (zar b d),.int .i64 (za6 b d)])/\zeu w base S B (zb9 b d) w':=by
 have HA:=hid h
 have HI:=hid (zi5 h d)
 obtain⟨a,cap,rfl⟩:=h.ownD.len
 have hlen:b.len=(b.ds.length:Int):=rfl
 have hl2:=hg.small
 obtain⟨hl0,hl1⟩:=zb2 hg d.by_
 obtain⟨hs0,hs1⟩:=hg.said d.by_
 have HCD:=hid hcd
 obtain⟨hb',hn'⟩:=zej hcd (by decide)
 have HB:=hid hb'
 have HN:=hid hn'
 clear hb' hn' hcd
 obtain⟨kind,by_,no,seen,at_,many,text⟩:=d
 simp only at hh hn0 hn1 hl0 hl1 hs0 hs1 hno hs
 obtain⟨hw,_⟩:=zad hh
 obtain⟨j,rfl,hj⟩:=zc1 hw
 have hno1:1<=no:=by omega
 have hne:(no-1 != b.last j)=false:=by simp;omega
 clear hno hlen
 clear h hg
 go_enter Tryz.func96,Tryz.ntmps96
 go_wp2_with fail
 refine(zcz HI.out.book.cells _).mono ?_
 rintro e w1 ⟨rfl,rfl⟩
 rw[hh]
 generalize w.alloc _=w1 at*
 obtain⟨_,c0,c1,c2,c3,c4,c5,c6⟩:=HI.out.deed
 simp only[Nat.zero_add]at c0 c1 c2 c3 c4 c5 c6
 have g0:=HI.out.book.cells.deeds
 have g2:=HI.out.book.cells.last j hj
 have g3:=HI.out.book.cells.said j hj
 have hlt:=HI.out.book.cells.lt
 generalize hgm:b.last j=m at*
 generalize hgs:b.said j=sd at*
 have GM:=hid hgm
 have GS:=hid hgs
 clear hgm hgs
 go_wp2
 go_quiet (fail)
 generalize hw2:w1.drewN nq=w2 at*
 have HI2:Hid (TB w base S B (.slice a b.ds.length cap) b ⟨kind,(j:Int),no,seen,at_,many,text⟩ w2):=by show TB _ _ _ _ _ _ _ _;rw[<-hw2];exact HI.out.after (below_drewN (Below.refl _ _) _)
 clear c0 c1 c2 c3 c4 c5 c6 g0 g2 g3 hlt hne HI hw2
 obtain⟨_,c0,c1,c2,c3,c4,c5,c6⟩:=HI2.out.deed
 simp only[Nat.zero_add]at c0 c1 c2 c3 c4 c5 c6
 have g0:=HI2.out.book.cells.deeds
 have g2:=HI2.out.book.cells.last j hj
 rw[GM.out]at g2
 have g3:=HI2.out.book.cells.said j hj
 rw[GS.out]at g3
 have hlt:=HI2.out.book.cells.lt
 go_wp2
 go_quiet (fail)
 go_wp2
 go_ret2
 exact⟨zdy HN.out.symm HCD.out.symm,by rw[HB.out];exact(HI2.out.after (below_drewN (Below.refl _ _) _)).stay HA.out⟩
theorem qdm(h:zb5 w base S B dv b)(hg:zct b)(d:Dd)(hn0: -9223372036854775808<=d.no)(hn1:d.no<=9223372036854775807)(hh:b.isHere d.by_=true)(hno:d.no=b.last d.by_+1)(hs:b.said d.by_<=d.seen)(ht:b.len<d.seen)(hcd:za6 b d=8):
 Calls Tryz.prog 96 #[.pointer (some ⟨B,0,none⟩),ddV d] w fun e w'=>e= .returned (.tuple #[.int .i64 (zar b d),.int .i64 (za6 b d)])/\zeu w base S B (zb9 b d) w':=by
 have HA:=hid h
 have HI:=hid (zi5 h d)
 obtain⟨a,cap,rfl⟩:=h.ownD.len
 have hlen:b.len=(b.ds.length:Int):=rfl
 have hl2:=hg.small
 obtain⟨hl0,hl1⟩:=zb2 hg d.by_
 obtain⟨hs0,hs1⟩:=hg.said d.by_
 have HCD:=hid hcd
 obtain⟨hb',hn'⟩:=zej hcd (by decide)
 have HB:=hid hb'
 have HN:=hid hn'
 clear hb' hn' hcd
 obtain⟨kind,by_,no,seen,at_,many,text⟩:=d
 simp only at hh hn0 hn1 hl0 hl1 hs0 hs1 hno hs ht
 obtain⟨hw,_⟩:=zad hh
 obtain⟨j,rfl,hj⟩:=zc1 hw
 rw[hlen]at ht
 have hno1:1<=no:=by omega
 have hne:(no-1 != b.last j)=false:=by simp;omega
 clear hno hlen
 clear h hg
 go_enter Tryz.func96,Tryz.ntmps96
 go_wp2_with fail
 refine(zcz HI.out.book.cells _).mono ?_
 rintro e w1 ⟨rfl,rfl⟩
 rw[hh]
 generalize w.alloc _=w1 at*
 obtain⟨_,c0,c1,c2,c3,c4,c5,c6⟩:=HI.out.deed
 simp only[Nat.zero_add]at c0 c1 c2 c3 c4 c5 c6
 have g0:=HI.out.book.cells.deeds
 have g2:=HI.out.book.cells.last j hj
 have g3:=HI.out.book.cells.said j hj
 have hlt:=HI.out.book.cells.lt
 generalize hgm:b.last j=m at*
 generalize hgs:b.said j=sd at*
 have GM:=hid hgm
 have GS:=hid hgs
 clear hgm hgs
 go_wp2
 go_quiet (fail)
 generalize hw2:w1.drewN nq=w2 at*
 have HI2:Hid (TB w base S B (.slice a b.ds.length cap) b ⟨kind,(j:Int),no,seen,at_,many,text⟩ w2):=by show TB _ _ _ _ _ _ _ _;rw[<-hw2];exact HI.out.after (below_drewN (Below.refl _ _) _)
 clear c0 c1 c2 c3 c4 c5 c6 g0 g2 g3 hlt hne HI hw2
 obtain⟨_,c0,c1,c2,c3,c4,c5,c6⟩:=HI2.out.deed
 simp only[Nat.zero_add]at c0 c1 c2 c3 c4 c5 c6
 have g0:=HI2.out.book.cells.deeds
 have g2:=HI2.out.book.cells.last j hj
 rw[GM.out]at g2
 have g3:=HI2.out.book.cells.said j hj
 rw[GS.out]at g3
 have hlt:=HI2.out.book.cells.lt
 have hs':decide (seen<sd)=false:=decide_eq_false (by omega)
 have ht':decide ((b.ds.length:Int)<seen)=true:=decide_eq_true ht
 go_wp2
 go_quiet (fail)
 go_wp2
 go_ret2
 exact⟨zdy HN.out.symm HCD.out.symm,by rw[HB.out];exact(HI2.out.after (below_drewN (Below.refl _ _) _)).stay HA.out⟩
theorem take_bk9(h:zb5 w base S B dv b)(hg:zct b)(d:Dd)(hn0: -9223372036854775808<=d.no)(hn1:d.no<=9223372036854775807)(hh:b.isHere d.by_=true)(hno:d.no=b.last d.by_+1)(hs:b.said d.by_<=d.seen)(ht:d.seen<=b.len)(hl:120<=b.len)(hcd:za6 b d=9):
 Calls Tryz.prog 96 #[.pointer (some ⟨B,0,none⟩),ddV d] w fun e w'=>e= .returned (.tuple #[.int .i64 (zar b d),.int .i64 (za6 b d)])/\zeu w base S B (zb9 b d) w':=by
 have HA:=hid h
 have HI:=hid (zi5 h d)
 obtain⟨a,cap,rfl⟩:=h.ownD.len
 have hlen:b.len=(b.ds.length:Int):=rfl
 have hl2:=hg.small
 obtain⟨hl0,hl1⟩:=zb2 hg d.by_
 obtain⟨hs0,hs1⟩:=hg.said d.by_
 have HCD:=hid hcd
 obtain⟨hb',hn'⟩:=zej hcd (by decide)
 have HB:=hid hb'
 have HN:=hid hn'
 clear hb' hn' hcd
 obtain⟨kind,by_,no,seen,at_,many,text⟩:=d
 simp only at hh hn0 hn1 hl0 hl1 hs0 hs1 hno hs ht hl
 obtain⟨hw,_⟩:=zad hh
 obtain⟨j,rfl,hj⟩:=zc1 hw
 rw[hlen]at ht hl
 have hno1:1<=no:=by omega
 have hne:(no-1 != b.last j)=false:=by simp;omega
 clear hno hlen
 clear h hg
 go_enter Tryz.func96,Tryz.ntmps96
 go_wp2_with fail
 refine(zcz HI.out.book.cells _).mono ?_
 rintro e w1 ⟨rfl,rfl⟩
 rw[hh]
 generalize w.alloc _=w1 at*
 obtain⟨_,c0,c1,c2,c3,c4,c5,c6⟩:=HI.out.deed
 simp only[Nat.zero_add]at c0 c1 c2 c3 c4 c5 c6
 have g0:=HI.out.book.cells.deeds
 have g2:=HI.out.book.cells.last j hj
 have g3:=HI.out.book.cells.said j hj
 have hlt:=HI.out.book.cells.lt
 generalize hgm:b.last j=m at*
 generalize hgs:b.said j=sd at*
 have GM:=hid hgm
 have GS:=hid hgs
 clear hgm hgs
 go_wp2
 go_quiet (fail)
 generalize hw2:w1.drewN nq=w2 at*
 have HI2:Hid (TB w base S B (.slice a b.ds.length cap) b ⟨kind,(j:Int),no,seen,at_,many,text⟩ w2):=by show TB _ _ _ _ _ _ _ _;rw[<-hw2];exact HI.out.after (below_drewN (Below.refl _ _) _)
 clear c0 c1 c2 c3 c4 c5 c6 g0 g2 g3 hlt hne HI hw2
 obtain⟨_,c0,c1,c2,c3,c4,c5,c6⟩:=HI2.out.deed
 simp only[Nat.zero_add]at c0 c1 c2 c3 c4 c5 c6
 have g0:=HI2.out.book.cells.deeds
 have g2:=HI2.out.book.cells.last j hj
 rw[GM.out]at g2
 have g3:=HI2.out.book.cells.said j hj
 rw[GS.out]at g3
 have hlt:=HI2.out.book.cells.lt
 have hs':decide (seen<sd)=false:=decide_eq_false (by omega)
 have ht':decide ((b.ds.length:Int)<seen)=false:=decide_eq_false (by omega)
 go_wp2
 go_quiet (fail)
 go_wp2
 go_ret2
 exact⟨zdy HN.out.symm HCD.out.symm,by rw[HB.out];exact(HI2.out.after (below_drewN (Below.refl _ _) _)).stay HA.out⟩
end Go.Proofs.YtcbnnfeelhlapadGreatDoor
namespace Go.Proofs.YtcbnnfeelhlapadGreatDoor
set_option maxHeartbeats 1600000
set_option maxRecDepth 20000
open Go.RowKit
variable {b:Bk} {d:Dd} {w w' w6 w5:World} {base B:Nat} {S:Nat->Prop} {dv:Value} {o:Obj}
structure TB2(w:World)(base:Nat)(S:Nat->Prop)(B:Nat)(b:Bk)(d:Dd)(wk:World):Prop where
 to:zeu w base S B b wk
 deed:zdq wk w.heap.size 0 d
theorem TB2.after{w wk w':World}{base B:Nat}{S:Nat->Prop}{b:Bk}{d:Dd}(h:TB2 w base S B b d wk)(hb:Below wk.heap.size wk w'):TB2 w base S B b d w':=⟨h.to.after hb,h.deed.below hb⟩
theorem zgb{row:Option Nat}(hg:(w5.drew.alloc o).grownBy w6 row){k:Nat}(hk:k<w5.heap.size)(hr:row≠some k):w6.heap[k]? =w5.heap[k]? :=by
 rw[hg.block k (by simp;omega) (fun e=>hr e.symm)]
 exact Below.heap_alloc _ _ _ hk
theorem zdq.of_block{E:Nat}(h:zdq w E 0 d)(hs:E<w'.heap.size)(hb:w'.heap[E]? =w.heap[E]?):zdq w' E 0 d:=by
 have hc:∀o,w'.cell? ⟨E,o,none⟩=w.cell? ⟨E,o,none⟩:=fun o=>World.cell?_of_block (a:=⟨E,o,none⟩) hb
 obtain⟨_,c0,c1,c2,c3,c4,c5,c6⟩:=h
 refine⟨hs,?_,?_,?_,?_,?_,?_,?_⟩<;>rw[hc]<;>assumption
theorem qaj{v':Value}(h:TB w base S B dv b d w5)(h0:zb5 w base S B dv b)(hg:(w5.drew.alloc o).grownBy w6 dv.ownBlock)
 (hown:zfx w6 base v' (b.ds++[d])) (hv:∀k,v'.ownBlock=some k->dv.ownBlock=some k\/w5.heap.size<=k):TB2 w base S B ⟨b.ds++[d],b.here,b.last,b.said⟩ d (w6.setCell ⟨B,0,none⟩ v'):=by
 have hBlt:=h0.cells.lt
 have hs5:=h.below.size
 have hs6:w5.heap.size+1<=w6.heap.size:=by have:=hg.size;simpa using this
 have hsz:(w6.setCell ⟨B,0,none⟩ v').heap.size=w6.heap.size:=by simp[World.setCell]
 have hdB:=h.book.dB
 have hdlt:∀k,dv.ownBlock=some k->k<w.heap.size:=fun k e=>(h0.lo k (hdB k e).1).2
 have hvlt:∀k,v'.ownBlock=some k->k<w6.heap.size:=fun k e=>(World.ownsRow.lt hown k e).2
 have hblk:∀k,k<w5.heap.size->dv.ownBlock≠some k->k≠B->(w6.setCell ⟨B,0,none⟩ v').heap[k]? =w5.heap[k]? :=fun k hk hr hB=>by
  rw[Below.heap_setCell _ _ _ _ hB]
  exact zgb hg hk hr
 have hB6:w6.heap[B]? =w5.heap[B]? :=zgb hg (by omega) (fun e=>(hdB B e).2 rfl)
 have hc6:=h.book.cells.kept (w':=w6) (by omega) hB6
 have hvB:∀k,v'.ownBlock=some k->k≠B:=fun k e=>by
  rcases hv k e with e|e
  ·exact(hdB k e).2
  omega
 refine⟨⟨⟨v',⟨fun k hk=> ?_,.inl h0.hB,⟨by rw[hsz];omega,?_,fun j hj=> ?_,fun j hj=> ?_,fun j hj=> ?_,fun o ho=> ?_⟩,za5 hown (fun k e=>Below.heap_setCell _ _ _ _ (hvB k e)),fun k e=>⟨?_,hvB k e⟩⟩⟩,⟨?_,?_,?_,by rw[hsz];omega,fun k hk hS=> ?_⟩⟩,?_⟩
 ·rw[hsz]
  rcases hk with hk|⟨hk,hk2⟩
  ·have:=h0.lo k hk
   omega
  rw[hsz]at hk2
  have:=h0.base_le
  omega
 ·have:=hc6.deeds
  simp[go_sem,this]
 ·have:=hc6.here j hj
  simp[go_sem,this]
 ·have:=hc6.last j hj
  simp[go_sem,this]
 ·have:=hc6.said j hj
  simp[go_sem,this]
 ·have:=hc6.free o ho
  simpa [go_sem]using this
 ·rcases hv k e with e'|e'
  ·exact .inl (hdB k e').1
  exact .inr ⟨by omega,by rw[hsz];exact hvlt k e⟩
 ·exact hg.os.trans h.below.os
 ·exact hg.tape.trans h.below.tape
 ·exact hg.output.trans h.below.output
 ·rw[hblk k (by omega) (fun e=>hS (hdB k e).1) (fun e=>hS (by rw[e];exact h0.hB))]
  exact h.below.block k hk
 exact h.deed.of_block (by rw[hsz];omega) (hblk _ h.deed.lt (fun e=>by have:=hdlt _ e;omega) (by omega))
theorem TB2.setLast{w wk:World}{base B:Nat}{S:Nat->Prop}{b:Bk}{d:Dd}(h:TB2 w base S B b d wk)(hB:B<w.heap.size)(hSB:S B){j:Nat}(hj:j<4)(x:Int):TB2 w base S B ⟨b.ds,b.here,zai b.last j x,b.said⟩ d (wk.setCell ⟨B,5+j,none⟩ (.int .i64 x)):=by
 obtain⟨⟨⟨dv,hat⟩,hk⟩,hd⟩:=h
 have hsz:(wk.setCell ⟨B,5+j,none⟩ (.int .i64 x)).heap.size=wk.heap.size:=by simp[World.setCell]
 have hne:∀k,k≠B->(wk.setCell ⟨B,5+j,none⟩ (.int .i64 x)).heap[k]? =wk.heap[k]? :=fun k e=>Below.heap_setCell _ _ _ _ e
 refine⟨⟨⟨dv,?_⟩,hk.set (p:=⟨B,5+j,none⟩) hSB _⟩,hd.of_block (by rw[hsz];exact hd.lt) (hne _ (by omega))⟩
 have:=hat.cells_of hne (by rw[hsz];exact Nat.le_refl _) (hat.cells.setLast hj x) rfl
 have e:grow S w (wk.setCell ⟨B,5+j,none⟩ (.int .i64 x))=grow S w wk:=by unfold grow;rw[hsz]
 rw[e]
 exact this
theorem TB2.setSaid{w wk:World}{base B:Nat}{S:Nat->Prop}{b:Bk}{d:Dd}(h:TB2 w base S B b d wk)(hB:B<w.heap.size)(hSB:S B){j:Nat}(hj:j<4)(x:Int):TB2 w base S B ⟨b.ds,b.here,b.last,zai b.said j x⟩ d (wk.setCell ⟨B,9+j,none⟩ (.int .i64 x)):=by
 obtain⟨⟨⟨dv,hat⟩,hk⟩,hd⟩:=h
 have hsz:(wk.setCell ⟨B,9+j,none⟩ (.int .i64 x)).heap.size=wk.heap.size:=by simp[World.setCell]
 have hne:∀k,k≠B->(wk.setCell ⟨B,9+j,none⟩ (.int .i64 x)).heap[k]? =wk.heap[k]? :=fun k e=>Below.heap_setCell _ _ _ _ e
 refine⟨⟨⟨dv,?_⟩,hk.set (p:=⟨B,9+j,none⟩) hSB _⟩,hd.of_block (by rw[hsz];exact hd.lt) (hne _ (by omega))⟩
 have:=hat.cells_of hne (by rw[hsz];exact Nat.le_refl _) (hat.cells.setSaid hj x) rfl
 have e:grow S w (wk.setCell ⟨B,9+j,none⟩ (.int .i64 x))=grow S w wk:=by unfold grow;rw[hsz]
 rw[e]
 exact this
theorem take_bkD(h:zb5 w base S B dv b)(hg:zct b)(d:Dd)(hn0: -9223372036854775808<=d.no)(hn1:d.no<=9223372036854775807)(hh:b.isHere d.by_=true)(hno:d.no=b.last d.by_+1)(hs:b.said d.by_<=d.seen)(ht:d.seen<=b.len)(hl:b.len<120)(cd:Int)(hcc:doC b.chars d (b.len+1)=cd)(hcd:za6 b d=cd)(hz:cd≠0):
 Calls Tryz.prog 96 #[.pointer (some ⟨B,0,none⟩),ddV d] w fun e w'=>e= .returned (.tuple #[.int .i64 (zar b d),.int .i64 (za6 b d)])/\zeu w base S B (zb9 b d) w':=by
 have HA:Hid (zb5 w base S B dv b):=h
 have HI:Hid (TB w base S B dv b d (w.alloc (zd9 d))):=zi5 h d
 obtain⟨a,cap,rfl⟩:=h.ownD.len
 have hlen:b.len=(b.ds.length:Int):=rfl
 have hl2:b.ds.length<=120:=hg.small
 obtain⟨hl0,hl1⟩:=zb2 hg d.by_
 obtain⟨hs0,hs1⟩:=hg.said d.by_
 have HCD:Hid (za6 b d=cd):=hcd
 obtain⟨hb',hn'⟩:=zej hcd hz
 have HB:Hid (zb9 b d=b):=hb'
 have HN:Hid (zar b d=0):=hn'
 have hz':(cd != 0)=true:=by simp[hz]
 clear hb' hn' hcd hz
 obtain⟨kind,by_,no,seen,at_,many,text⟩:=d
 simp only at hh hn0 hn1 hl0 hl1 hs0 hs1 hno hs ht hl
 obtain⟨hw,_⟩:=zad hh
 obtain⟨j,rfl,hj⟩:=zc1 hw
 have HG:Hid (zct b):=hg
 have HSC:Hid (b.chars.length<=1000):=by have:=zay (b:=b);show _<=_;omega
 have HTM:Hid (zi2 b.chars):=zjd hg
 have HCC:Hid (doC b.chars ⟨kind,(j:Int),no,seen,at_,many,text⟩ ((b.ds.length:Int)+1)=cd):=hcc
 have HNO:Hid (no=b.last j+1):=hno
 rw[hlen]at ht hl
 have hno1:1<=no:=by omega
 have hne:(no-1 != b.last j)=false:=by simp;omega
 clear hno hlen
 clear h hg hcc
 go_enter Tryz.func96,Tryz.ntmps96
 go_wp2_with fail
 refine(zcz HI.out.book.cells _).mono ?_
 rintro e w1 ⟨rfl,rfl⟩
 rw[hh]
 generalize w.alloc _=w1 at*
 obtain⟨_,c0,c1,c2,c3,c4,c5,c6⟩:=HI.out.deed
 simp only[Nat.zero_add]at c0 c1 c2 c3 c4 c5 c6
 have g0:=HI.out.book.cells.deeds
 have g2:=HI.out.book.cells.last j hj
 have g3:=HI.out.book.cells.said j hj
 have hlt:=HI.out.book.cells.lt
 generalize hgm:b.last j=m at*
 generalize hgs:b.said j=sd at*
 have GM:Hid (b.last j=m):=hgm
 have GS:Hid (b.said j=sd):=hgs
 clear hgm hgs
 go_wp2
 go_quiet (fail)
 generalize hw2:w1.drewN nq=w2 at*
 have HI2:Hid (TB w base S B (.slice a b.ds.length cap) b ⟨kind,(j:Int),no,seen,at_,many,text⟩ w2):=by show TB _ _ _ _ _ _ _ _;rw[<-hw2];exact HI.out.after (below_drewN (Below.refl _ _) _)
 clear c0 c1 c2 c3 c4 c5 c6 g0 g2 g3 hlt hne HI hw2
 obtain⟨_,c0,c1,c2,c3,c4,c5,c6⟩:=HI2.out.deed
 simp only[Nat.zero_add]at c0 c1 c2 c3 c4 c5 c6
 have g0:=HI2.out.book.cells.deeds
 have g2:=HI2.out.book.cells.last j hj
 rw[GM.out]at g2
 have g3:=HI2.out.book.cells.said j hj
 rw[GS.out]at g3
 have hlt:=HI2.out.book.cells.lt
 have hs':decide (seen<sd)=false:=decide_eq_false (by omega)
 have ht':decide ((b.ds.length:Int)<seen)=false:=decide_eq_false (by omega)
 go_wp2
 go_quiet (fail)
 generalize hw3:w2.drewN nq=w3 at*
 have HI3:Hid (TB w base S B (.slice a b.ds.length cap) b ⟨kind,(j:Int),no,seen,at_,many,text⟩ w3):=by show TB _ _ _ _ _ _ _ _;rw[<-hw3];exact HI2.out.after (below_drewN (Below.refl _ _) _)
 clear c0 c1 c2 c3 c4 c5 c6 g0 g2 g3 hlt hs' ht' HI2 hw3
 obtain⟨_,c0,c1,c2,c3,c4,c5,c6⟩:=HI3.out.deed
 simp only[Nat.zero_add]at c0 c1 c2 c3 c4 c5 c6
 have g0:=HI3.out.book.cells.deeds
 have hlt:=HI3.out.book.cells.lt
 go_wp2
 clear c0 c1 c2 c3 c4 c5 c6 g0 hlt
 refine wrs (fun wk=>TB w base S B (.slice a b.ds.length cap) b ⟨kind,(j:Int),no,seen,at_,many,text⟩ wk) (fun i=>i==1||i==9) (fun wk=>TB w base S B (.slice a b.ds.length cap) b ⟨kind,(j:Int),no,seen,at_,many,text⟩ wk) (by kernel_rfl) (by kernel_rfl) (by kernel_rfl) (fun _ h=>h) (HI3.out.after (Below.refl _ _).drew) ?_
 refine wss rfl (fun K hK=> ?_)
 go_simp
 refine⟨_,fun _ _=>rfl,hK _ ?_⟩
 clear hK K
 refine wsp rfl rfl (fun u=>∃a n c,u= .slice a n c) (fun u wk=>TB w base S B (.slice a b.ds.length cap) b ⟨kind,(j:Int),no,seen,at_,many,text⟩ wk/\Lst wk u b.chars) ⟨_,none,0,0,rfl⟩ (fun _ _ h=>h.1) (fun wk hwk=> ?_) (fun v5 hv5=> ?_)
 ·go_simp
  refine(zk3 hwk.book HG.out).mono ?_
  rintro e w5 ⟨u,rfl,ho,hb⟩
  obtain⟨a5,c5,rfl,_⟩:=ho.lst.len
  exact⟨_,rfl,⟨_,_,_,rfl⟩,hwk.after hb,ho.lst⟩
 obtain⟨a5,n5,c5,rfl⟩:=hv5
 refine wss rfl (fun K hK=> ?_)
 go_simp
 refine⟨ddV ⟨kind,(j:Int),no,seen,at_,many,text⟩,fun wk hwk=> ?_,hK _ ?_⟩
 ·obtain⟨_,c0,c1,c2,c3,c4,c5,c6⟩:=hwk.deed
  simp only[Nat.zero_add]at c0 c1 c2 c3 c4 c5 c6
  go_simp
 iterate 3 (clear hK K;refine wss rfl (fun K hK=> ?_);go_simp;refine⟨_,fun _ _=>rfl,hK _ ?_⟩)
 clear hK K
 refine wss rfl (fun K hK=> ?_)
 go_simp
 refine⟨.slice a b.ds.length cap,fun wk hwk=> ?_,hK _ ?_⟩
 ·have g0:=hwk.book.cells.deeds
  go_simp
 clear hK K
 refine wss rfl (fun K hK=> ?_)
 go_simp
 refine⟨_,fun _ _=>rfl,hK _ ?_⟩
 clear hK K
 refine wss rfl (fun K hK=> ?_)
 go_simp
 refine⟨.int .i64 ((b.ds.length:Int)+1),fun wk hwk=> ?_,hK _ ?_⟩
 ·go_simp
  rw[IntKind.wrap_i64]
  omega
 clear hK K
 refine wsp rfl rfl (fun u=>∃v,u= .tuple #[v,.int .i64 cd]) (fun u wk=>TB w base S B (.slice a b.ds.length cap) b ⟨kind,(j:Int),no,seen,at_,many,text⟩ wk) ⟨_,.int .i64 0,rfl⟩ (fun _ _ h=>h) (fun wk hwk=> ?_) (fun v6 hv6=> ?_)
 ·go_simp
  refine(zhm b.chars ⟨kind,(j:Int),no,seen,at_,many,text⟩ ((b.ds.length:Int)+1) _ wk hwk.2 HSC.out HTM.out (by omega) (by omega)).mono ?_
  rintro e w6 ⟨u,rfl,ho,hb⟩
  exact⟨_,rfl,⟨u,by rw[HCC.out]⟩,hwk.1.after hb⟩
 obtain⟨v6,rfl⟩:=hv6
 iterate 5 (refine wss rfl (fun K hK=> ?_);go_simp;refine⟨_,fun _ _=>rfl,hK _ ?_⟩;clear hK K)
 refine wsn (fun w7 hw7=> ?_)
 have HI7:Hid _:=hw7
 clear hw7
 go_wp2
 go_ret2
 exact⟨zdy HN.out.symm HCD.out.symm,by rw[HB.out];exact HI7.out.stay HA.out⟩
theorem take_bkZ(h:zb5 w base S B dv b)(hg:zct b)(d:Dd)(hn0: -9223372036854775808<=d.no)(hn1:d.no<=9223372036854775807)(hh:b.isHere d.by_=true)(hno:d.no=b.last d.by_+1)(hs:b.said d.by_<=d.seen)(ht:d.seen<=b.len)(hl:b.len<120)(cd:Int)(hcc:doC b.chars d (b.len+1)=cd)(hcd:za6 b d=cd)(hz:cd=0):
 Calls Tryz.prog 96 #[.pointer (some ⟨B,0,none⟩),ddV d] w fun e w'=>e= .returned (.tuple #[.int .i64 (zar b d),.int .i64 (za6 b d)])/\zeu w base S B (zb9 b d) w':=by
 have HA:Hid (zb5 w base S B dv b):=h
 have HI:Hid (TB w base S B dv b d (w.alloc (zd9 d))):=zi5 h d
 obtain⟨a,cap,rfl⟩:=h.ownD.len
 have hlen:b.len=(b.ds.length:Int):=rfl
 have hl2:b.ds.length<=120:=hg.small
 obtain⟨hl0,hl1⟩:=zb2 hg d.by_
 obtain⟨hs0,hs1⟩:=hg.said d.by_
 have HCD:Hid (za6 b d=cd):=hcd
 have HB:Hid (zb9 b d=⟨b.ds++[d],b.here,zai b.last d.by_ d.no,zai b.said d.by_ d.seen⟩):=by show zb9 b d=_;rw[zb9,if_pos (hcd.trans hz)]
 have HN:Hid (zar b d=b.len+1):=by show zar b d=_;rw[zar,if_pos (hcd.trans hz)]
 obtain⟨i0,hi,hz0,hz1,hz2⟩:=info_parts Tryz.infoDeed
 have hBlt:=h.cells.lt
 have hSB:=h.hB
 have hz':(cd != 0)=false:=by simp[hz]
 have HZ:Hid (cd=0):=hz
 clear hcd hz
 obtain⟨kind,by_,no,seen,at_,many,text⟩:=d
 simp only at hh hn0 hn1 hl0 hl1 hs0 hs1 hno hs ht hl
 obtain⟨hw,_⟩:=zad hh
 obtain⟨j,rfl,hj⟩:=zc1 hw
 have HG:Hid (zct b):=hg
 have HSC:Hid (b.chars.length<=1000):=by have:=zay (b:=b);show _<=_;omega
 have HTM:Hid (zi2 b.chars):=zjd hg
 have HCC:Hid (doC b.chars ⟨kind,(j:Int),no,seen,at_,many,text⟩ ((b.ds.length:Int)+1)=cd):=hcc
 have HNO:Hid (no=b.last j+1):=hno
 rw[hlen]at ht hl
 have hno1:1<=no:=by omega
 have hne:(no-1 != b.last j)=false:=by simp;omega
 clear hno hlen
 clear h hg hcc
 go_enter Tryz.func96,Tryz.ntmps96
 go_wp2_with fail
 refine(zcz HI.out.book.cells _).mono ?_
 rintro e w1 ⟨rfl,rfl⟩
 rw[hh]
 generalize w.alloc _=w1 at*
 obtain⟨_,c0,c1,c2,c3,c4,c5,c6⟩:=HI.out.deed
 simp only[Nat.zero_add]at c0 c1 c2 c3 c4 c5 c6
 have g0:=HI.out.book.cells.deeds
 have g2:=HI.out.book.cells.last j hj
 have g3:=HI.out.book.cells.said j hj
 have hlt:=HI.out.book.cells.lt
 generalize hgm:b.last j=m at*
 generalize hgs:b.said j=sd at*
 have GM:Hid (b.last j=m):=hgm
 have GS:Hid (b.said j=sd):=hgs
 clear hgm hgs
 go_wp2
 go_quiet (fail)
 generalize hw2:w1.drewN nq=w2 at*
 have HI2:Hid (TB w base S B (.slice a b.ds.length cap) b ⟨kind,(j:Int),no,seen,at_,many,text⟩ w2):=by show TB _ _ _ _ _ _ _ _;rw[<-hw2];exact HI.out.after (below_drewN (Below.refl _ _) _)
 clear c0 c1 c2 c3 c4 c5 c6 g0 g2 g3 hlt hne HI hw2
 obtain⟨_,c0,c1,c2,c3,c4,c5,c6⟩:=HI2.out.deed
 simp only[Nat.zero_add]at c0 c1 c2 c3 c4 c5 c6
 have g0:=HI2.out.book.cells.deeds
 have g2:=HI2.out.book.cells.last j hj
 rw[GM.out]at g2
 have g3:=HI2.out.book.cells.said j hj
 rw[GS.out]at g3
 have hlt:=HI2.out.book.cells.lt
 have hs':decide (seen<sd)=false:=decide_eq_false (by omega)
 have ht':decide ((b.ds.length:Int)<seen)=false:=decide_eq_false (by omega)
 go_wp2
 go_quiet (fail)
 generalize hw3:w2.drewN nq=w3 at*
 have HI3:Hid (TB w base S B (.slice a b.ds.length cap) b ⟨kind,(j:Int),no,seen,at_,many,text⟩ w3):=by show TB _ _ _ _ _ _ _ _;rw[<-hw3];exact HI2.out.after (below_drewN (Below.refl _ _) _)
 clear c0 c1 c2 c3 c4 c5 c6 g0 g2 g3 hlt hs' ht' HI2 hw3
 obtain⟨_,c0,c1,c2,c3,c4,c5,c6⟩:=HI3.out.deed
 simp only[Nat.zero_add]at c0 c1 c2 c3 c4 c5 c6
 have g0:=HI3.out.book.cells.deeds
 have hlt:=HI3.out.book.cells.lt
 go_wp2
 clear c0 c1 c2 c3 c4 c5 c6 g0 hlt
 refine wrs (fun wk=>TB w base S B (.slice a b.ds.length cap) b ⟨kind,(j:Int),no,seen,at_,many,text⟩ wk) (fun i=>i==1||i==9) (fun wk=>TB w base S B (.slice a b.ds.length cap) b ⟨kind,(j:Int),no,seen,at_,many,text⟩ wk) (by kernel_rfl) (by kernel_rfl) (by kernel_rfl) (fun _ h=>h) (HI3.out.after (Below.refl _ _).drew) ?_
 refine wss rfl (fun K hK=> ?_)
 go_simp
 refine⟨_,fun _ _=>rfl,hK _ ?_⟩
 clear hK K
 refine wsp rfl rfl (fun u=>∃a n c,u= .slice a n c) (fun u wk=>TB w base S B (.slice a b.ds.length cap) b ⟨kind,(j:Int),no,seen,at_,many,text⟩ wk/\Lst wk u b.chars) ⟨_,none,0,0,rfl⟩ (fun _ _ h=>h.1) (fun wk hwk=> ?_) (fun v5 hv5=> ?_)
 ·go_simp
  refine(zk3 hwk.book HG.out).mono ?_
  rintro e w5 ⟨u,rfl,ho,hb⟩
  obtain⟨a5,c5,rfl,_⟩:=ho.lst.len
  exact⟨_,rfl,⟨_,_,_,rfl⟩,hwk.after hb,ho.lst⟩
 obtain⟨a5,n5,c5,rfl⟩:=hv5
 refine wss rfl (fun K hK=> ?_)
 go_simp
 refine⟨ddV ⟨kind,(j:Int),no,seen,at_,many,text⟩,fun wk hwk=> ?_,hK _ ?_⟩
 ·obtain⟨_,c0,c1,c2,c3,c4,c5,c6⟩:=hwk.deed
  simp only[Nat.zero_add]at c0 c1 c2 c3 c4 c5 c6
  go_simp
 iterate 3 (clear hK K;refine wss rfl (fun K hK=> ?_);go_simp;refine⟨_,fun _ _=>rfl,hK _ ?_⟩)
 clear hK K
 refine wss rfl (fun K hK=> ?_)
 go_simp
 refine⟨.slice a b.ds.length cap,fun wk hwk=> ?_,hK _ ?_⟩
 ·have g0:=hwk.book.cells.deeds
  go_simp
 clear hK K
 refine wss rfl (fun K hK=> ?_)
 go_simp
 refine⟨_,fun _ _=>rfl,hK _ ?_⟩
 clear hK K
 refine wss rfl (fun K hK=> ?_)
 go_simp
 refine⟨.int .i64 ((b.ds.length:Int)+1),fun wk hwk=> ?_,hK _ ?_⟩
 ·go_simp
  rw[IntKind.wrap_i64]
  omega
 clear hK K
 refine wsp rfl rfl (fun u=>∃v,u= .tuple #[v,.int .i64 cd]) (fun u wk=>TB w base S B (.slice a b.ds.length cap) b ⟨kind,(j:Int),no,seen,at_,many,text⟩ wk) ⟨_,.int .i64 0,rfl⟩ (fun _ _ h=>h) (fun wk hwk=> ?_) (fun v6 hv6=> ?_)
 ·go_simp
  refine(zhm b.chars ⟨kind,(j:Int),no,seen,at_,many,text⟩ ((b.ds.length:Int)+1) _ wk hwk.2 HSC.out HTM.out (by omega) (by omega)).mono ?_
  rintro e w6 ⟨u,rfl,ho,hb⟩
  exact⟨_,rfl,⟨u,by rw[HCC.out]⟩,hwk.1.after hb⟩
 obtain⟨v6,rfl⟩:=hv6
 iterate 5 (refine wss rfl (fun K hK=> ?_);go_simp;refine⟨_,fun _ _=>rfl,hK _ ?_⟩;clear hK K)
 refine wsn (fun w7 hw7=> ?_)
 have HI7:Hid _:=hw7
 clear hw7
 obtain⟨_,c0,c1,c2,c3,c4,c5,c6⟩:=HI7.out.deed
 simp only[Nat.zero_add]at c0 c1 c2 c3 c4 c5 c6
 have g0:=HI7.out.book.cells.deeds
 have f0:=HI7.out.book.cells.free 0 (by omega)
 have hlt:=HI7.out.book.cells.lt
 have HOW:Hid (∀o,World.ownsRow (w7.drew.alloc o) base 124 7 (.slice a b.ds.length cap) b.ds.length (zbv b.ds)):=fun o=>(HI7.out.book.ownD.below ((Below.refl _ _).drew)).alloc o
 have HSR:Hid _:=zwd w7.drew [⟨kind,(j:Int),no,seen,at_,many,text⟩] #[.int .i64 kind,.int .i64 j,.int .i64 no,.int .i64 seen,.int .i64 at_,.int .i64 many,.string text] rfl
 have HKC:Hid (∀o w8,(w7.drew.alloc o).grownBy w8 (Value.ownBlock (.slice a b.ds.length cap))->w8.cell? ⟨B,0,none⟩=some (.slice a b.ds.length cap)/\w8.frozen? ⟨B,0,none⟩=false):=fun o w8 hg=>by
  have e:=zgb hg (k:=B) (by have:=HI7.out.book.cells.lt;omega) (fun e=>(HI7.out.book.dB B e).2 rfl)
  exact⟨(World.cell?_of_block (a:=⟨B,0,none⟩) e).trans HI7.out.book.cells.deeds,(World.frozen?_of_block (a:=⟨B,0,none⟩) e).trans (HI7.out.book.cells.free 0 (by omega))⟩
 have hbs:base<=w7.heap.size+1:=by have:=HI7.out.book.base_le;omega
 have HT2:Hid (∀o w8 v',(w7.drew.alloc o).grownBy w8 (Value.ownBlock (.slice a b.ds.length cap))->zfx w8 base v' (b.ds++[⟨kind,(j:Int),no,seen,at_,many,text⟩])->(∀k,v'.ownBlock=some k->Value.ownBlock (.slice a b.ds.length cap)=some k\/w7.heap.size<=k)->TB2 w base S B ⟨b.ds++[⟨kind,(j:Int),no,seen,at_,many,text⟩],b.here,b.last,b.said⟩ ⟨kind,(j:Int),no,seen,at_,many,text⟩ (w8.setCell ⟨B,0,none⟩ v')):=fun o w8 v' hg ho hv=>qaj HI7.out HA.out hg ho hv
 have HHS:Hid (w7.heap.size=w7.heap.size):=rfl
 clear HHS
 go_wp2
 go_region_law ((refine step_append_lies _ (by rfl) (.tmp 75) (.tmp 77) 61 (by rfl) base 124 i0 zdh 7 64 Tryz.underlying61 hi hz0 hz1 hz2 rfl (by decide) (.slice a b.ds.length cap) b.ds.length (zbv b.ds) (by rfl) (HOW.out _) ⟨w7.heap.size,0,none⟩ 1 1 (zbv [⟨kind,(j:Int),no,seen,at_,many,text⟩]) (by rfl) rfl HSR.out (zhx _) (by decide) (by unfold maxLen;omega) (by omega) (by simp;omega) (w7.heap.size+1) (by simp) ?_;intro g8 cap8 w8 hown hgrow hat hlt8;obtain⟨k0,k1⟩:=HKC.out _ _ hgrow))
 all_goals
  have H8:Hid (TB2 w base S B ⟨b.ds++[⟨kind,(j:Int),no,seen,at_,many,text⟩],b.here,b.last,b.said⟩ ⟨kind,(j:Int),no,seen,at_,many,text⟩ (w8.setCell ⟨B,0,none⟩ (.slice (some ⟨g8,0,none⟩) (b.ds.length+1) cap8))):=HT2.out _ _ _ hgrow (by unfold zfx;rw[List.length_append,zk0];exact hown) (fun k hk=>by
   simp only[Value.ownBlock,Option.some.injEq]at hk
   subst hk
   rcases hat with e|e
   ·exact .inl e
   exact .inr (by omega))
  generalize w8.setCell _ _=w9 at*
  clear hown hgrow hat hlt8 k0 k1 c0 c1 c2 c3 c4 c5 c6 g0 f0 hlt HT2 HKC HSR HOW hbs HI7
  obtain⟨dv9,hat9⟩:=H8.out.to.at_
  obtain⟨a9,cap9,rfl⟩:=hat9.ownD.len
  have hln:(b.ds++[(⟨kind,(j:Int),no,seen,at_,many,text⟩:Dd)]).length=b.ds.length+1:=by simp
  have g0:=hat9.cells.deeds
  have g2:=hat9.cells.last j hj
  have g3:=hat9.cells.said j hj
  have f2:=hat9.cells.free (5+j) (by omega)
  have f3:=hat9.cells.free (9+j) (by omega)
  have hlt:=hat9.cells.lt
  obtain⟨_,c0,c1,c2,c3,c4,c5,c6⟩:=H8.out.deed
  simp only[Nat.zero_add]at c0 c1 c2 c3 c4 c5 c6
  have hBE:¬B=w.heap.size:=by omega
  have hEB:¬w.heap.size=B:=by omega
  simp only[hln]at g0
  simp only at g2 g3
  have HF:Hid (TB2 w base S B ⟨b.ds++[⟨kind,(j:Int),no,seen,at_,many,text⟩],b.here,zai b.last j no,zai b.said j seen⟩ ⟨kind,(j:Int),no,seen,at_,many,text⟩ (((w9.setCell ⟨B,5+j,none⟩ (.int .i64 no)).setCell ⟨B,9+j,none⟩ (.int .i64 seen)).drew.drew)):=((H8.out.setLast hBlt hSB hj no).setSaid hBlt hSB hj seen).after (Below.refl _ _).drew.drew
  clear hat9 H8 hln
  go_wp2
  go_region
  all_goals
   go_wp2
   go_region
   all_goals
    go_wp2
    go_ret2
    exact⟨zdy (by rw[HN.out];rfl) (by rw[HCD.out,HZ.out]),by rw[HB.out];exact HF.out.to⟩
theorem qdo(h:zb5 w base S B dv b)(hg:zct b)(d:Dd)(hn0: -9223372036854775808<=d.no)(hn1:d.no<=9223372036854775807):
 Calls Tryz.prog 96 #[.pointer (some ⟨B,0,none⟩),ddV d] w fun e w'=>e= .returned (.tuple #[.int .i64 (zar b d),.int .i64 (za6 b d)])/\zeu w base S B (zb9 b d) w':=by
 rcases zxy b d with⟨h1,hc⟩|⟨h1,h2,hc⟩|⟨h1,h2,h3,hc⟩|⟨h1,h2,h3,h4,hc⟩|⟨h1,h2,h3,h4,h5,hc⟩|⟨h1,h2,h3,h4,h5,hc⟩
 ·exact take_bk5 h hg d hn0 hn1 h1 hc
 ·exact take_bk7 h hg d hn0 hn1 h1 h2 hc
 ·exact qdn h hg d hn0 hn1 h1 h2 h3 hc
 ·exact qdm h hg d hn0 hn1 h1 h2 h3 h4 hc
 ·exact take_bk9 h hg d hn0 hn1 h1 h2 h3 h4 h5 hc
 by_cases hz:doC b.chars d (b.len+1)=0
 ·exact take_bkZ h hg d hn0 hn1 h1 h2 h3 h4 h5 _ rfl hc hz
 exact take_bkD h hg d hn0 hn1 h1 h2 h3 h4 h5 _ rfl hc hz
end Go.Proofs.YtcbnnfeelhlapadGreatDoor