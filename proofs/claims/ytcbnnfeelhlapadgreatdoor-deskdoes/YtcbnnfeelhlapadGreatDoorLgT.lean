/-
  LgT.
-/
import Derived.Test.YtcbnnfeelhlapadGreatDoorLgS
import Derived.Test.YtcbnnfeelhlapadGreatDoorShelf
namespace Go.Proofs.YtcbnnfeelhlapadGreatDoor
set_option maxHeartbeats 1600000
set_option maxRecDepth 20000
open Go.RowKit
variable {w wk w':World} {base G:Nat} {S:Nat->Prop} {dv lv l8:Value} {b:Bk} {d:Dd} {L8:List Ch}
theorem zqu(s:ByteArray)(w:World)(h:s.size<=1000):
 Calls Tryz.prog 191 #[.string s] w fun e w'=>e= .returned (.string s)/\Below w.heap.size w w':=by
 go_enter Tryz.func191,Tryz.ntmps191
 go_wp2_with (go_at_call 176;refine(Tryz.stringslite_Clone s _ (by omega)).mono ?_;rintro e w' ⟨rfl,hb⟩)
 go_ret
 exact⟨rfl,hb⟩
structure TL(w:World)(base:Nat)(S:Nat->Prop)(G:Nat)(dv lv:Value)(b:Bk)(d:Dd)(wk:World):Prop where
 log:zc2 wk base S G dv lv b
 deed:zdq wk w.heap.size 0 d
 free:wk.frozen? ⟨w.heap.size,6,none⟩=false
 below:Below w.heap.size w wk
theorem TL.after(h:TL w base S G dv lv b d wk)(hb:Below wk.heap.size wk w'):TL w base S G dv lv b d w':=
 ⟨h.log.below hb,h.deed.below hb,by rw[(zdp hb).2 _ _ h.deed.lt];exact h.free,bla h.below hb⟩
theorem zgx(h:zc2 w base S G dv lv b)(d:Dd):TL w base S G dv lv b d (w.alloc (zd9 d)):=
 ⟨h.below ((Below.refl _ _).alloc (Nat.le_refl _) _),zb4 w d,by simp[go_sem],(Below.refl _ _).alloc (Nat.le_refl _) _⟩
def zlb(b:Bk)(d:Dd):Int:=
 if b.isHere d.by_=false then 5 else if d.no≠b.last d.by_+1 then 7 else if d.seen<b.said d.by_\/b.len<d.seen then 8 else if 120<=b.len then 9 else 0
theorem zs6(b:Bk)(d:Dd):(b.isHere d.by_=false/\zlb b d=5)\/(b.isHere d.by_=true/\d.no≠b.last d.by_+1/\zlb b d=7)\/(b.isHere d.by_=true/\d.no=b.last d.by_+1/\zr0 b d.by_ d.seen=false/\zlb b d=8)
 \/(b.isHere d.by_=true/\d.no=b.last d.by_+1/\zr0 b d.by_ d.seen=true/\120<=b.len/\zlb b d=9)\/(b.isHere d.by_=true/\d.no=b.last d.by_+1/\zr0 b d.by_ d.seen=true/\b.len<120/\zlb b d=0):=by
 unfold zlb
 cases hh:b.isHere d.by_
 ·exact .inl ⟨rfl,if_pos rfl⟩
 rw[if_neg (by simp)]
 by_cases h1:d.no=b.last d.by_+1
 ·rw[if_neg (fun e=>e h1)]
  by_cases h2:d.seen<b.said d.by_\/b.len<d.seen
  ·rw[if_pos h2]
   exact .inr (.inr (.inl ⟨rfl,h1,h2.elim qev qeu,rfl⟩))
  rw[if_neg h2]
  have hm:=qet (b:=b) (n:=d.by_) (seen:=d.seen) (by omega) (by omega)
  by_cases h4:120<=b.len
  ·exact .inr (.inr (.inr (.inl ⟨rfl,h1,hm,h4,if_pos h4⟩)))
  exact .inr (.inr (.inr (.inr ⟨rfl,h1,hm,by omega,if_neg h4⟩)))
 exact .inr (.inl ⟨rfl,h1,if_pos h1⟩)
theorem zou(b:Bk)(d:Dd):za6 b d=if zlb b d≠0 then zlb b d else doC b.chars d (b.len+1):=by
 unfold za6 zlb
 by_cases h1:b.isHere d.by_=false
 ·rw[if_pos h1,if_pos h1,if_pos (by decide)]
 rw[if_neg h1,if_neg h1]
 by_cases h2:d.no≠b.last d.by_+1
 ·rw[if_pos h2,if_pos h2,if_pos (by decide)]
 rw[if_neg h2,if_neg h2]
 by_cases h3:d.seen<b.said d.by_\/b.len<d.seen
 ·rw[if_pos h3,if_pos h3,if_pos (by decide)]
 rw[if_neg h3,if_neg h3]
 by_cases h4:120<=b.len
 ·rw[if_pos h4,if_pos h4,if_pos (by decide)]
 rw[if_neg h4,if_neg h4,if_neg (by decide)]
theorem refuses5(h:zc2 w base S G dv lv b)(hg:zct b)(d:Dd)(hh:b.isHere d.by_=false)(hcd:zlb b d=5):
 Calls Tryz.prog 193 #[.pointer (some ⟨G,0,none⟩),ddV d] w fun e w'=>e= .returned (.int .i64 (zlb b d))/\Below w.heap.size w w':=by
 have HI:=hid (zgx h d)
 have HCD:=hid hcd
 have hlen:b.len=(b.ds.length:Int):=rfl
 have hl2:=hg.small
 obtain⟨hl0,hl1⟩:=zb2 hg d.by_
 obtain⟨kind,by_,no,seen,at_,many,text⟩:=d
 simp only at hh hl0 hl1
 clear hcd
 clear h hg hlen
 go_enter Tryz.func193,Tryz.ntmps193
 go_wp2_with (go_at_call 155;refine(zfv HI.out.log.cells _).mono ?_;rintro e w' ⟨rfl,rfl⟩;rw[hh])
 go_ret
 exact⟨zae HCD.out.symm,HI.out.below⟩
theorem refuses7(h:zc2 w base S G dv lv b)(hg:zct b)(d:Dd)(hh:b.isHere d.by_=true)(hno:d.no≠b.last d.by_+1)(hcd:zlb b d=7):
 Calls Tryz.prog 193 #[.pointer (some ⟨G,0,none⟩),ddV d] w fun e w'=>e= .returned (.int .i64 (zlb b d))/\Below w.heap.size w w':=by
 have HI:=hid (zgx h d)
 have HCD:=hid hcd
 have hlen:b.len=(b.ds.length:Int):=rfl
 have hl2:=hg.small
 obtain⟨hl0,hl1⟩:=zb2 hg d.by_
 obtain⟨kind,by_,no,seen,at_,many,text⟩:=d
 simp only at hh hl0 hl1 hno
 clear hcd
 obtain⟨hw,hx⟩:=zad hh
 clear hx
 obtain⟨j,rfl,hj⟩:=zc1 hw
 have hno':(no != b.last j+1)=true:=by simp[hno]
 clear hno
 have hj4:(j:Int)<4:=by omega
 clear h hg
 go_enter Tryz.func193,Tryz.ntmps193
 go_wp2_with fail
 refine(zfv HI.out.log.cells _).mono ?_
 rintro e w1 ⟨rfl,rfl⟩
 rw[hh]
 generalize w.alloc _=w1 at*
 go_wp2
 refine wp_region_quiet (C:=fun wk=>TL w base S G dv lv b ⟨kind,(j:Int),no,seen,at_,many,text⟩ wk) (by kernel_rfl) (by kernel_rfl) (HI.out.after (Below.refl _ _).drew) ?_
 refine wpQuiet_step (fun K hK=> ?_)
 go_simp
 refine⟨_,fun _ _=>rfl,hK _ ?_⟩
 clear hK K
 refine wpQuiet_step (fun K hK=> ?_)
 go_simp
 refine⟨.int .i64 no,fun wk hwk=> ?_,hK _ ?_⟩
 ·obtain⟨_,c0,c1,c2,c3,c4,c5,c6⟩:=hwk.deed
  simp only[Nat.zero_add]at c0 c1 c2 c3 c4 c5 c6
  go_simp
 iterate 2 (clear hK K;refine wpQuiet_step (fun K hK=> ?_);go_simp;refine⟨_,fun _ _=>rfl,hK _ ?_⟩)
 clear hK K
 refine wpQuiet_step (fun K hK=> ?_)
 go_simp
 refine⟨.int .i64 j,fun wk hwk=> ?_,hK _ ?_⟩
 ·obtain⟨_,c0,c1,c2,c3,c4,c5,c6⟩:=hwk.deed
  simp only[Nat.zero_add]at c0 c1 c2 c3 c4 c5 c6
  go_simp
 iterate 2 (clear hK K;refine wpQuiet_step (fun K hK=> ?_);go_simp;refine⟨_,fun _ _=>rfl,hK _ ?_⟩)
 clear hK K
 refine wpQuiet_step (fun K hK=> ?_)
 go_simp
 refine⟨.pointer (some ⟨G,j*3,none⟩),fun wk hwk=> ?_,hK _ ?_⟩
 ·go_simp
 clear hK K
 refine wpQuiet_step (fun K hK=> ?_)
 go_simp
 refine⟨.agg #[.bool (b.here j),.int .i64 (b.last j),.int .i64 (b.said j)],fun wk hwk=> ?_,hK _ ?_⟩
 ·have g1:=hwk.log.cells.here j hj
  have g2:=hwk.log.cells.last j hj
  have g3:=hwk.log.cells.said j hj
  go_simp
 clear hK K
 refine wpQuiet_step (fun K hK=> ?_)
 go_simp
 refine⟨_,fun wk hwk=>(zp0 (b.here j) (b.last j) (b.said j) wk hl0 (by omega)).mono (fun _ _ ⟨he,hb⟩=>⟨he,hwk.after hb⟩),hK _ ?_⟩
 clear hK K
 refine wpQuiet_step (fun K hK=> ?_)
 go_simp
 refine⟨.bool true,fun wk hwk=> ?_,hK _ ?_⟩
 ·go_simp
 clear hK K
 refine wpQuiet_step (fun K hK=> ?_)
 go_simp
 refine⟨_,fun _ _=>rfl,hK _ ?_⟩
 clear hK K
 refine wpQuiet_nil ?_
 intro w2 hw2
 have HI2:=hid hw2
 clear hw2
 go_wp2
 go_ret
 exact⟨zae HCD.out.symm,HI2.out.below⟩
theorem refuses8(h:zc2 w base S G dv lv b)(hg:zct b)(d:Dd)(hh:b.isHere d.by_=true)(hno:d.no=b.last d.by_+1)(hm:zr0 b d.by_ d.seen=false)(hcd:zlb b d=8):
 Calls Tryz.prog 193 #[.pointer (some ⟨G,0,none⟩),ddV d] w fun e w'=>e= .returned (.int .i64 (zlb b d))/\Below w.heap.size w w':=by
 have HI:=hid (zgx h d)
 have HCD:=hid hcd
 have hlen:b.len=(b.ds.length:Int):=rfl
 have hl2:=hg.small
 obtain⟨hl0,hl1⟩:=zb2 hg d.by_
 obtain⟨kind,by_,no,seen,at_,many,text⟩:=d
 simp only at hh hl0 hl1 hno hm
 clear hcd
 obtain⟨hw,hx⟩:=zad hh
 clear hx
 obtain⟨j,rfl,hj⟩:=zc1 hw
 have hno':(no != b.last j+1)=false:=by simp[hno]
 clear hno
 have hj4:(j:Int)<4:=by omega
 clear h hg
 go_enter Tryz.func193,Tryz.ntmps193
 go_wp2_with fail
 refine(zfv HI.out.log.cells _).mono ?_
 rintro e w1 ⟨rfl,rfl⟩
 rw[hh]
 generalize w.alloc _=w1 at*
 go_wp2
 refine wp_region_quiet (C:=fun wk=>TL w base S G dv lv b ⟨kind,(j:Int),no,seen,at_,many,text⟩ wk) (by kernel_rfl) (by kernel_rfl) (HI.out.after (Below.refl _ _).drew) ?_
 refine wpQuiet_step (fun K hK=> ?_)
 go_simp
 refine⟨_,fun _ _=>rfl,hK _ ?_⟩
 clear hK K
 refine wpQuiet_step (fun K hK=> ?_)
 go_simp
 refine⟨.int .i64 no,fun wk hwk=> ?_,hK _ ?_⟩
 ·obtain⟨_,c0,c1,c2,c3,c4,c5,c6⟩:=hwk.deed
  simp only[Nat.zero_add]at c0 c1 c2 c3 c4 c5 c6
  go_simp
 iterate 2 (clear hK K;refine wpQuiet_step (fun K hK=> ?_);go_simp;refine⟨_,fun _ _=>rfl,hK _ ?_⟩)
 clear hK K
 refine wpQuiet_step (fun K hK=> ?_)
 go_simp
 refine⟨.int .i64 j,fun wk hwk=> ?_,hK _ ?_⟩
 ·obtain⟨_,c0,c1,c2,c3,c4,c5,c6⟩:=hwk.deed
  simp only[Nat.zero_add]at c0 c1 c2 c3 c4 c5 c6
  go_simp
 iterate 2 (clear hK K;refine wpQuiet_step (fun K hK=> ?_);go_simp;refine⟨_,fun _ _=>rfl,hK _ ?_⟩)
 clear hK K
 refine wpQuiet_step (fun K hK=> ?_)
 go_simp
 refine⟨.pointer (some ⟨G,j*3,none⟩),fun wk hwk=> ?_,hK _ ?_⟩
 ·go_simp
 clear hK K
 refine wpQuiet_step (fun K hK=> ?_)
 go_simp
 refine⟨.agg #[.bool (b.here j),.int .i64 (b.last j),.int .i64 (b.said j)],fun wk hwk=> ?_,hK _ ?_⟩
 ·have g1:=hwk.log.cells.here j hj
  have g2:=hwk.log.cells.last j hj
  have g3:=hwk.log.cells.said j hj
  go_simp
 clear hK K
 refine wpQuiet_step (fun K hK=> ?_)
 go_simp
 refine⟨_,fun wk hwk=>(zp0 (b.here j) (b.last j) (b.said j) wk hl0 (by omega)).mono (fun _ _ ⟨he,hb⟩=>⟨he,hwk.after hb⟩),hK _ ?_⟩
 clear hK K
 refine wpQuiet_step (fun K hK=> ?_)
 go_simp
 refine⟨.bool false,fun wk hwk=> ?_,hK _ ?_⟩
 ·go_simp
 clear hK K
 refine wpQuiet_step (fun K hK=> ?_)
 go_simp
 refine⟨_,fun _ _=>rfl,hK _ ?_⟩
 clear hK K
 refine wpQuiet_nil ?_
 intro w2 hw2
 have HI2:=hid hw2
 clear hw2
 obtain⟨_,c0,c1,c2,c3,c4,c5,c6⟩:=HI2.out.deed
 simp only[Nat.zero_add]at c0 c1 c2 c3 c4 c5 c6
 go_wp2_with (go_at_call 195;refine(zjb HI2.out.log j hj _).mono ?_;rintro e w' ⟨rfl,rfl⟩;rw[hm])
 go_ret
 exact⟨zae HCD.out.symm,HI2.out.below⟩
theorem refuses9(h:zc2 w base S G dv lv b)(hg:zct b)(d:Dd)(hh:b.isHere d.by_=true)(hno:d.no=b.last d.by_+1)(hm:zr0 b d.by_ d.seen=true)(hl:120<=b.len)(hcd:zlb b d=9):
 Calls Tryz.prog 193 #[.pointer (some ⟨G,0,none⟩),ddV d] w fun e w'=>e= .returned (.int .i64 (zlb b d))/\Below w.heap.size w w':=by
 have HI:=hid (zgx h d)
 have HCD:=hid hcd
 have hlen:b.len=(b.ds.length:Int):=rfl
 have hl2:=hg.small
 obtain⟨hl0,hl1⟩:=zb2 hg d.by_
 obtain⟨kind,by_,no,seen,at_,many,text⟩:=d
 simp only at hh hl0 hl1 hno hm hl
 clear hcd
 rw[hlen]at hl
 obtain⟨hw,hx⟩:=zad hh
 clear hx
 obtain⟨j,rfl,hj⟩:=zc1 hw
 have hno':(no != b.last j+1)=false:=by simp[hno]
 clear hno
 have hj4:(j:Int)<4:=by omega
 clear h hg
 go_enter Tryz.func193,Tryz.ntmps193
 go_wp2_with fail
 refine(zfv HI.out.log.cells _).mono ?_
 rintro e w1 ⟨rfl,rfl⟩
 rw[hh]
 generalize w.alloc _=w1 at*
 go_wp2
 refine wp_region_quiet (C:=fun wk=>TL w base S G dv lv b ⟨kind,(j:Int),no,seen,at_,many,text⟩ wk) (by kernel_rfl) (by kernel_rfl) (HI.out.after (Below.refl _ _).drew) ?_
 refine wpQuiet_step (fun K hK=> ?_)
 go_simp
 refine⟨_,fun _ _=>rfl,hK _ ?_⟩
 clear hK K
 refine wpQuiet_step (fun K hK=> ?_)
 go_simp
 refine⟨.int .i64 no,fun wk hwk=> ?_,hK _ ?_⟩
 ·obtain⟨_,c0,c1,c2,c3,c4,c5,c6⟩:=hwk.deed
  simp only[Nat.zero_add]at c0 c1 c2 c3 c4 c5 c6
  go_simp
 iterate 2 (clear hK K;refine wpQuiet_step (fun K hK=> ?_);go_simp;refine⟨_,fun _ _=>rfl,hK _ ?_⟩)
 clear hK K
 refine wpQuiet_step (fun K hK=> ?_)
 go_simp
 refine⟨.int .i64 j,fun wk hwk=> ?_,hK _ ?_⟩
 ·obtain⟨_,c0,c1,c2,c3,c4,c5,c6⟩:=hwk.deed
  simp only[Nat.zero_add]at c0 c1 c2 c3 c4 c5 c6
  go_simp
 iterate 2 (clear hK K;refine wpQuiet_step (fun K hK=> ?_);go_simp;refine⟨_,fun _ _=>rfl,hK _ ?_⟩)
 clear hK K
 refine wpQuiet_step (fun K hK=> ?_)
 go_simp
 refine⟨.pointer (some ⟨G,j*3,none⟩),fun wk hwk=> ?_,hK _ ?_⟩
 ·go_simp
 clear hK K
 refine wpQuiet_step (fun K hK=> ?_)
 go_simp
 refine⟨.agg #[.bool (b.here j),.int .i64 (b.last j),.int .i64 (b.said j)],fun wk hwk=> ?_,hK _ ?_⟩
 ·have g1:=hwk.log.cells.here j hj
  have g2:=hwk.log.cells.last j hj
  have g3:=hwk.log.cells.said j hj
  go_simp
 clear hK K
 refine wpQuiet_step (fun K hK=> ?_)
 go_simp
 refine⟨_,fun wk hwk=>(zp0 (b.here j) (b.last j) (b.said j) wk hl0 (by omega)).mono (fun _ _ ⟨he,hb⟩=>⟨he,hwk.after hb⟩),hK _ ?_⟩
 clear hK K
 refine wpQuiet_step (fun K hK=> ?_)
 go_simp
 refine⟨.bool false,fun wk hwk=> ?_,hK _ ?_⟩
 ·go_simp
 clear hK K
 refine wpQuiet_step (fun K hK=> ?_)
 go_simp
 refine⟨_,fun _ _=>rfl,hK _ ?_⟩
 clear hK K
 refine wpQuiet_nil ?_
 intro w2 hw2
 have HI2:=hid hw2
 clear hw2
 obtain⟨_,c0,c1,c2,c3,c4,c5,c6⟩:=HI2.out.deed
 simp only[Nat.zero_add]at c0 c1 c2 c3 c4 c5 c6
 go_wp2_with (first|(go_at_call 195;refine(zjb HI2.out.log j hj _).mono ?_;rintro e w' ⟨rfl,rfl⟩;rw[hm])|(go_at_call 85;refine(zir HI2.out.log).mono ?_;rintro e w' ⟨rfl,rfl⟩))
 go_ret
 exact⟨zae HCD.out.symm,HI2.out.below⟩
theorem refuses0(h:zc2 w base S G dv lv b)(hg:zct b)(d:Dd)(hh:b.isHere d.by_=true)(hno:d.no=b.last d.by_+1)(hm:zr0 b d.by_ d.seen=true)(hl:b.len<120)(hcd:zlb b d=0):
 Calls Tryz.prog 193 #[.pointer (some ⟨G,0,none⟩),ddV d] w fun e w'=>e= .returned (.int .i64 (zlb b d))/\Below w.heap.size w w':=by
 have HI:=hid (zgx h d)
 have HCD:=hid hcd
 have hlen:b.len=(b.ds.length:Int):=rfl
 have hl2:=hg.small
 obtain⟨hl0,hl1⟩:=zb2 hg d.by_
 obtain⟨kind,by_,no,seen,at_,many,text⟩:=d
 simp only at hh hl0 hl1 hno hm hl
 clear hcd
 rw[hlen]at hl
 obtain⟨hw,hx⟩:=zad hh
 clear hx
 obtain⟨j,rfl,hj⟩:=zc1 hw
 have hno':(no != b.last j+1)=false:=by simp[hno]
 clear hno
 have hj4:(j:Int)<4:=by omega
 clear h hg
 go_enter Tryz.func193,Tryz.ntmps193
 go_wp2_with fail
 refine(zfv HI.out.log.cells _).mono ?_
 rintro e w1 ⟨rfl,rfl⟩
 rw[hh]
 generalize w.alloc _=w1 at*
 go_wp2
 refine wp_region_quiet (C:=fun wk=>TL w base S G dv lv b ⟨kind,(j:Int),no,seen,at_,many,text⟩ wk) (by kernel_rfl) (by kernel_rfl) (HI.out.after (Below.refl _ _).drew) ?_
 refine wpQuiet_step (fun K hK=> ?_)
 go_simp
 refine⟨_,fun _ _=>rfl,hK _ ?_⟩
 clear hK K
 refine wpQuiet_step (fun K hK=> ?_)
 go_simp
 refine⟨.int .i64 no,fun wk hwk=> ?_,hK _ ?_⟩
 ·obtain⟨_,c0,c1,c2,c3,c4,c5,c6⟩:=hwk.deed
  simp only[Nat.zero_add]at c0 c1 c2 c3 c4 c5 c6
  go_simp
 iterate 2 (clear hK K;refine wpQuiet_step (fun K hK=> ?_);go_simp;refine⟨_,fun _ _=>rfl,hK _ ?_⟩)
 clear hK K
 refine wpQuiet_step (fun K hK=> ?_)
 go_simp
 refine⟨.int .i64 j,fun wk hwk=> ?_,hK _ ?_⟩
 ·obtain⟨_,c0,c1,c2,c3,c4,c5,c6⟩:=hwk.deed
  simp only[Nat.zero_add]at c0 c1 c2 c3 c4 c5 c6
  go_simp
 iterate 2 (clear hK K;refine wpQuiet_step (fun K hK=> ?_);go_simp;refine⟨_,fun _ _=>rfl,hK _ ?_⟩)
 clear hK K
 refine wpQuiet_step (fun K hK=> ?_)
 go_simp
 refine⟨.pointer (some ⟨G,j*3,none⟩),fun wk hwk=> ?_,hK _ ?_⟩
 ·go_simp
 clear hK K
 refine wpQuiet_step (fun K hK=> ?_)
 go_simp
 refine⟨.agg #[.bool (b.here j),.int .i64 (b.last j),.int .i64 (b.said j)],fun wk hwk=> ?_,hK _ ?_⟩
 ·have g1:=hwk.log.cells.here j hj
  have g2:=hwk.log.cells.last j hj
  have g3:=hwk.log.cells.said j hj
  go_simp
 clear hK K
 refine wpQuiet_step (fun K hK=> ?_)
 go_simp
 refine⟨_,fun wk hwk=>(zp0 (b.here j) (b.last j) (b.said j) wk hl0 (by omega)).mono (fun _ _ ⟨he,hb⟩=>⟨he,hwk.after hb⟩),hK _ ?_⟩
 clear hK K
 refine wpQuiet_step (fun K hK=> ?_)
 go_simp
 refine⟨.bool false,fun wk hwk=> ?_,hK _ ?_⟩
 ·go_simp
 clear hK K
 refine wpQuiet_step (fun K hK=> ?_)
 go_simp
 refine⟨_,fun _ _=>rfl,hK _ ?_⟩
 clear hK K
 refine wpQuiet_nil ?_
 intro w2 hw2
 have HI2:=hid hw2
 clear hw2
 obtain⟨_,c0,c1,c2,c3,c4,c5,c6⟩:=HI2.out.deed
 simp only[Nat.zero_add]at c0 c1 c2 c3 c4 c5 c6
 go_wp2_with (first|(go_at_call 195;refine(zjb HI2.out.log j hj _).mono ?_;rintro e w' ⟨rfl,rfl⟩;rw[hm])|(go_at_call 85;refine(zir HI2.out.log).mono ?_;rintro e w' ⟨rfl,rfl⟩))
 go_ret
 exact⟨zae HCD.out.symm,HI2.out.below⟩
theorem zm3(h:zc2 w base S G dv lv b)(hg:zct b)(d:Dd):
 Calls Tryz.prog 193 #[.pointer (some ⟨G,0,none⟩),ddV d] w fun e w'=>e= .returned (.int .i64 (zlb b d))/\Below w.heap.size w w':=by
 rcases zs6 b d with⟨h1,hc⟩|⟨h1,h2,hc⟩|⟨h1,h2,h3,hc⟩|⟨h1,h2,h3,h4,hc⟩|⟨h1,h2,h3,h4,hc⟩
 ·exact refuses5 h hg d h1 hc
 ·exact refuses7 h hg d h1 h2 hc
 ·exact refuses8 h hg d h1 h2 h3 hc
 ·exact refuses9 h hg d h1 h2 h3 h4 hc
 exact refuses0 h hg d h1 h2 h3 h4 hc
end Go.Proofs.YtcbnnfeelhlapadGreatDoor
namespace Go.Proofs.YtcbnnfeelhlapadGreatDoor
set_option maxHeartbeats 1600000
set_option maxRecDepth 20000
open Go.RowKit
variable {w wk w':World} {base G:Nat} {S:Nat->Prop} {dv lv l8:Value} {b:Bk} {d:Dd} {L8:List Ch}
structure LT(w:World)(base:Nat)(S:Nat->Prop)(G:Nat)(dv lv:Value)(b:Bk)(d:Dd)(l8:Value)(L8:List Ch)(wk:World):Prop where
 cells:zpu wk G dv lv b
 ownD:zfx wk base dv b.ds
 ownL:Own wk base l8 L8
 dB:∀k,dv.ownBlock=some k->grow S w wk k/\k≠G/\k≠w.heap.size
 lB:∀k,l8.ownBlock=some k->grow S w wk k/\k≠G/\dv.ownBlock≠some k/\k≠w.heap.size
 kept:zam S w wk
 deed:zdq wk w.heap.size 0 d
 free:wk.frozen? ⟨w.heap.size,6,none⟩=false
theorem zht{k:Nat}(h:grow S w wk k)(hs:wk.heap.size<=w'.heap.size):grow S w w' k:=h.elim .inl (fun e=> .inr ⟨e.1,by omega⟩)
theorem LT.after{w wk w':World}{base G:Nat}{S:Nat->Prop}{dv lv l8:Value}{b:Bk}{d:Dd}{L8:List Ch}(h:LT w base S G dv lv b d l8 L8 wk)(hb:Below wk.heap.size wk w'):LT w base S G dv lv b d l8 L8 w':=
 ⟨h.cells.kept hb.size (hb.block _ h.cells.lt),h.ownD.below hb,h.ownL.below hb,fun k e=>⟨zht (h.dB k e).1 hb.size,(h.dB k e).2⟩,fun k e=>⟨zht (h.lB k e).1 hb.size,(h.lB k e).2⟩,h.kept.after hb,h.deed.below hb,by rw[(zdp hb).2 _ _ h.deed.lt];exact h.free⟩
theorem zzk(h:TL w base S G dv lv b d wk)(h0:zc2 w base S G dv lv b)(hb:Below wk.heap.size wk w')(ho:Own w' wk.heap.size l8 L8):LT w base S G dv lv b d l8 L8 w':=by
 have h':=h.after hb
 have hE:=h.deed.lt
 have hs:=h.below.size
 have hb0:=h0.base_le
 refine⟨h'.log.cells,h'.log.ownD,ho.mono (by omega),fun k e=>⟨.inl (h.log.dB k e).1,(h.log.dB k e).2,fun e'=> ?_⟩,fun k e=> ?_,.of_below h'.below,h'.deed,h'.free⟩
 ·have:=(h0.lo k (h.log.dB k e).1).2
  omega
 have h1:=World.ownsRow.lt ho k e
 have hG:=h0.cells.lt
 refine⟨.inr ⟨by omega,h1.2⟩,by omega,fun e'=> ?_,by omega⟩
 have:=(h0.lo k (h.log.dB k e').1).2
 omega
theorem LT.text{w wk:World}{base G:Nat}{S:Nat->Prop}{dv lv l8:Value}{b:Bk}{d:Dd}{L8:List Ch}(h:LT w base S G dv lv b d l8 L8 wk)(hG:G<w.heap.size):LT w base S G dv lv b d l8 L8 (wk.setCell ⟨w.heap.size,6,none⟩ (.string d.text)):=by
 have hsz:(wk.setCell ⟨w.heap.size,6,none⟩ (.string d.text)).heap.size=wk.heap.size:=by simp[World.setCell]
 have hne:∀k,k≠w.heap.size->(wk.setCell ⟨w.heap.size,6,none⟩ (.string d.text)).heap[k]? =wk.heap[k]? :=fun k e=>Below.heap_setCell _ _ _ _ e
 have hg:∀k,grow S w wk k->grow S w (wk.setCell ⟨w.heap.size,6,none⟩ (.string d.text)) k:=fun k e=>zht e (by rw[hsz];exact Nat.le_refl _)
 obtain⟨hlt,c0,c1,c2,c3,c4,c5,c6⟩:=h.deed
 simp only[Nat.zero_add]at c0 c1 c2 c3 c4 c5 c6
 refine⟨h.cells.kept (by rw[hsz];exact Nat.le_refl _) (hne _ (by omega)),za5 h.ownD (fun k e=>hne k (h.dB k e).2.2),za5 h.ownL (fun k e=>hne k (h.lB k e).2.2.2),fun k e=>⟨hg k (h.dB k e).1,(h.dB k e).2⟩,fun k e=>⟨hg k (h.lB k e).1,(h.lB k e).2⟩,?_,⟨by rw[hsz];exact hlt,?_,?_,?_,?_,?_,?_,?_⟩,by simpa [go_sem]using h.free⟩
 ·exact⟨h.kept.os,h.kept.tape,h.kept.output,by rw[hsz];exact h.kept.size,fun k hk hS=>by rw[hne k (by omega)];exact h.kept.block k hk hS⟩
 ·simp[go_sem,c0]
 ·simp[go_sem,c1]
 ·simp[go_sem,c2]
 ·simp[go_sem,c3]
 ·simp[go_sem,c4]
 ·simp[go_sem,c5]
 simp[go_sem,c6]
theorem LT.wrote{o:Nat}{lv':Value}{b':Bk}(h:LT w base S G dv lv b d l8 L8 wk)(hG:G<w.heap.size)(hS:S G)(u:Value)(hc:zpu (wk.setCell ⟨G,o,none⟩ u) G dv lv' b')(hd:b'.ds=b.ds):LT w base S G dv lv' b' d l8 L8 (wk.setCell ⟨G,o,none⟩ u):=by
 have hsz:(wk.setCell ⟨G,o,none⟩ u).heap.size=wk.heap.size:=by simp[World.setCell]
 have hne:∀k,k≠G->(wk.setCell ⟨G,o,none⟩ u).heap[k]? =wk.heap[k]? :=fun k e=>Below.heap_setCell _ _ _ _ e
 have hg:∀k,grow S w wk k->grow S w (wk.setCell ⟨G,o,none⟩ u) k:=fun k e=>zht e (by rw[hsz];exact Nat.le_refl _)
 have hE:w.heap.size≠G:=by omega
 refine⟨hc,by rw[hd];exact za5 h.ownD (fun k e=>hne k (h.dB k e).2.1),za5 h.ownL (fun k e=>hne k (h.lB k e).2.1),fun k e=>⟨hg k (h.dB k e).1,(h.dB k e).2⟩,fun k e=>⟨hg k (h.lB k e).1,(h.lB k e).2⟩,h.kept.set (p:=⟨G,o,none⟩) hS u,h.deed.of_block (by rw[hsz];exact h.deed.lt) (hne _ hE),?_⟩
 rw[World.frozen?_of_block (w:=wk) (a:=⟨w.heap.size,6,none⟩) (hne _ hE)]
 exact h.free
theorem zpu.setList(h:zpu w G dv lv b)(u:Value):zpu (w.setCell ⟨G,13,none⟩ u) G dv u b:=by
 have hd:=h.deeds
 have hl:=h.list
 refine⟨by simpa using h.lt,fun i hi=> ?_,fun i hi=> ?_,fun i hi=> ?_,?_,?_,fun o ho=> ?_⟩
 ·have h1:=h.here i hi
  simp[go_sem,h1]
 ·have h1:=h.last i hi
  simp[go_sem,h1]
 ·have h1:=h.said i hi
  simp[go_sem,h1]
 ·simp[go_sem,hd]
 ·simp[go_sem,hl]
 simpa [go_sem]using h.free o ho
theorem qey{w5 w6:World}{v':Value}{o:Obj}(h:LT w base S G dv lv b d l8 L8 w5)(h0:zc2 w base S G dv lv b)(hg:(w5.drew.alloc o).grownBy w6 dv.ownBlock)
 (hown:zfx w6 base v' (b.ds++[d])) (hv:∀k,v'.ownBlock=some k->dv.ownBlock=some k\/w5.heap.size<=k):LT w base S G v' lv ⟨b.ds++[d],b.here,b.last,b.said⟩ d l8 L8 (w6.setCell ⟨G,12,none⟩ v'):=by
 have hGlt:=h0.cells.lt
 have hs5:=h.kept.size
 have hE:=h.deed.lt
 have hs6:w5.heap.size+1<=w6.heap.size:=by have:=hg.size;simpa using this
 have hsz:(w6.setCell ⟨G,12,none⟩ v').heap.size=w6.heap.size:=by simp[World.setCell]
 have hvlt:∀k,v'.ownBlock=some k->k<w6.heap.size:=fun k e=>(World.ownsRow.lt hown k e).2
 have hllt:∀k,l8.ownBlock=some k->k<w5.heap.size:=fun k e=>(World.ownsRow.lt h.ownL k e).2
 have hblk:∀k,k<w5.heap.size->dv.ownBlock≠some k->k≠G->(w6.setCell ⟨G,12,none⟩ v').heap[k]? =w5.heap[k]? :=fun k hk hr hG=>by
  rw[Below.heap_setCell _ _ _ _ hG]
  exact zgb hg hk hr
 have hG6:w6.heap[G]? =w5.heap[G]? :=zgb hg (by omega) (fun e=>(h.dB G e).2.1 rfl)
 have hc6:=h.cells.kept (w':=w6) (by omega) hG6
 have hvG:∀k,v'.ownBlock=some k->k≠G/\k≠w.heap.size:=fun k e=>by
  rcases hv k e with e|e
  ·exact(h.dB k e).2
  omega
 have hgr:∀k,grow S w w5 k->grow S w (w6.setCell ⟨G,12,none⟩ v') k:=fun k e=>zht e (by rw[hsz];omega)
 have hEb:(w6.setCell ⟨G,12,none⟩ v').heap[w.heap.size]? =w5.heap[w.heap.size]? :=hblk _ hE (fun e=>(h.dB _ e).2.2 rfl) (by omega)
 refine⟨⟨by rw[hsz];omega,fun j hj=> ?_,fun j hj=> ?_,fun j hj=> ?_,?_,?_,fun o ho=> ?_⟩,za5 hown (fun k e=>Below.heap_setCell _ _ _ _ (hvG k e).1),za5 h.ownL (fun k e=>hblk k (hllt k e) (h.lB k e).2.2.1 (h.lB k e).2.1),fun k e=>⟨?_,hvG k e⟩,fun k e=>⟨hgr k (h.lB k e).1,(h.lB k e).2.1,fun e'=> ?_,(h.lB k e).2.2.2⟩,⟨?_,?_,?_,by rw[hsz];omega,fun k hk hS=> ?_⟩,h.deed.of_block (by rw[hsz];omega) hEb,?_⟩
 ·have h1:=hc6.here j hj
  simp[go_sem,h1]
 ·have h1:=hc6.last j hj
  simp[go_sem,h1]
 ·have h1:=hc6.said j hj
  simp[go_sem,h1]
 ·have h1:=hc6.deeds
  simp[go_sem,h1]
 ·have h1:=hc6.list
  simp[go_sem,h1]
 ·have h1:=hc6.free o ho
  simpa [go_sem]using h1
 ·rcases hv k e with e'|e'
  ·exact hgr k (h.dB k e').1
  exact .inr ⟨by omega,by rw[hsz];exact hvlt k e⟩
 ·rcases hv k e' with e2|e2
  ·exact(h.lB k e).2.2.1 e2
  have:=hllt k e
  omega
 ·exact hg.os.trans h.kept.os
 ·exact hg.tape.trans h.kept.tape
 ·exact hg.output.trans h.kept.output
 ·rw[hblk k (by omega) (fun e=>hS ((h0.dB k e).1)) (fun e=>hS (by rw[e];exact h0.hG))]
  exact h.kept.block k hk hS
 rw[World.frozen?_of_block (w:=w5) (a:=⟨w.heap.size,6,none⟩) hEb]
 exact h.free
theorem LT.to(h:LT w base S G dv l8 b d l8 L8 wk)(h0:∃dv0 lv0 b0,zc2 w base S G dv0 lv0 b0)(hc:L8=b.chars):zk6 w base S G b wk:=by
 obtain⟨dv0,lv0,b0,h0⟩:=h0
 have hs:=h.kept.size
 have hb:=h0.base_le
 refine⟨⟨dv,l8,⟨fun k e=> ?_,.inl h0.hG,h.cells,h.ownD,by rw[<-hc];exact h.ownL,fun k e=>⟨(h.dB k e).1,(h.dB k e).2.1⟩,fun k e=>⟨(h.lB k e).1,(h.lB k e).2.1,(h.lB k e).2.2.1⟩⟩⟩,h.kept⟩
 rcases e with e|e
 ·have:=h0.lo k e
  omega
 omega
theorem take_lgR(h:zc2 w base S G dv lv b)(hg:zct b)(d:Dd)(hr:zlb b d≠0):
 Calls Tryz.prog 164 #[.pointer (some ⟨G,0,none⟩),ddV d] w fun e w'=>e= .returned (.tuple #[.int .i64 (zar b d),.int .i64 (za6 b d)])/\zk6 w base S G (zb9 b d) w':=by
 have HA:=hid h
 have HG:=hid hg
 have HI:=hid (zgx h d)
 have hlen:b.len=(b.ds.length:Int):=rfl
 have hl2:=hg.small
 have hcd:za6 b d=zlb b d:=by rw[zou,if_pos hr]
 have HCD:=hid hcd
 obtain⟨hb',hn'⟩:=zej hcd hr
 have HB:=hid hb'
 have HN:=hid hn'
 have hr':(zlb b d != 0)=true:=by simp[hr]
 obtain⟨kind,by_,no,seen,at_,many,text⟩:=d
 clear hb' hn' h hg hcd hr hlen
 go_enter Tryz.func164,Tryz.ntmps164
 go_wp2_with fail
 refine(zm3 HI.out.log HG.out ⟨kind,by_,no,seen,at_,many,text⟩).mono ?_
 rintro e w1 ⟨rfl,hb1⟩
 have HI1:=hid (HI.out.after hb1)
 clear hb1
 generalize zlb b ⟨kind,by_,no,seen,at_,many,text⟩=c at*
 go_wp2
 go_ret2
 exact⟨zdy HN.out.symm HCD.out.symm,by rw[HB.out];exact HA.out.stay HI1.out.below⟩
theorem take_lgD(h:zc2 w base S G dv lv b)(hg:zct b)(d:Dd)(hr:zlb b d=0)(cd:Int)(hcc:doC b.chars d (b.len+1)=cd)(hz:cd≠0):
 Calls Tryz.prog 164 #[.pointer (some ⟨G,0,none⟩),ddV d] w fun e w'=>e= .returned (.tuple #[.int .i64 (zar b d),.int .i64 (za6 b d)])/\zk6 w base S G (zb9 b d) w':=by
 have HA:Hid (zc2 w base S G dv lv b):=h
 have HG:Hid (zct b):=hg
 have HI:Hid (TL w base S G dv lv b d (w.alloc (zd9 d))):=zgx h d
 have hlen:b.len=(b.ds.length:Int):=rfl
 have hl2:b.ds.length<=120:=hg.small
 have hcd:za6 b d=cd:=by rw[zou,if_neg (fun e=>e hr)];exact hcc
 have HCD:Hid (za6 b d=cd):=hcd
 obtain⟨hb',hn'⟩:=zej hcd hz
 have HB:Hid (zb9 b d=b):=hb'
 have HN:Hid (zar b d=0):=hn'
 have hz':(cd != 0)=true:=by simp[hz]
 clear hb' hn' hcd hz
 obtain⟨a,cap,rfl⟩:=h.ownD.len
 obtain⟨lh,hcc0⟩:b.isHere d.by_=true/\b.len<120:=by
  rcases zs6 b d with⟨_,hc⟩|⟨_,_,hc⟩|⟨_,_,_,hc⟩|⟨_,_,_,_,hc⟩|⟨h1,_,_,h4,_⟩
  ·rw[hr]at hc;cases hc
  ·rw[hr]at hc;cases hc
  ·rw[hr]at hc;cases hc
  ·rw[hr]at hc;cases hc
  exact⟨h1,h4⟩
 rw[hlen]at hcc0
 have HSC:Hid (b.chars.length<=1000):=by have:=zay (b:=b);show _<=_;omega
 have HFT:Hid (zi0 b.chars):=zv5 (zjd hg)
 have HLL:Hid (Lst w lv b.chars):=h.ownL.lst
 obtain⟨hw,hx⟩:=zad lh
 have HCC:Hid (doC b.chars d ((b.ds.length:Int)+1)=cd):=hcc
 obtain⟨kind,by_,no,seen,at_,many,text⟩:=d
 obtain⟨j,rfl,hj⟩:=zc1 hw
 have hj4:(j:Int)<4:=by omega
 have HR:Hid (zlb b ⟨kind,(j:Int),no,seen,at_,many,text⟩=0):=hr
 clear h hg hcc hr hx lh hw hlen
 go_enter Tryz.func164,Tryz.ntmps164
 go_wp2_with fail
 refine(zm3 HI.out.log HG.out ⟨kind,(j:Int),no,seen,at_,many,text⟩).mono ?_
 rintro e w1 ⟨rfl,hb1⟩
 rw[HR.out]
 have HI1:Hid (TL w base S G (.slice a b.ds.length cap) lv b ⟨kind,(j:Int),no,seen,at_,many,text⟩ w1):=HI.out.after hb1
 clear hb1 HI
 go_wp2_with (go_at_call 85;refine(zir HI1.out.log).mono ?_;rintro e w2 ⟨rfl,rfl⟩)
 refine wrs (fun wk=>TL w base S G (.slice a b.ds.length cap) lv b ⟨kind,(j:Int),no,seen,at_,many,text⟩ wk) (fun i=>i==6) (fun wk=>TL w base S G (.slice a b.ds.length cap) lv b ⟨kind,(j:Int),no,seen,at_,many,text⟩ wk) (by kernel_rfl) (by kernel_rfl) (by kernel_rfl) (fun _ h=>h) (HI1.out.after (Below.refl _ _).drew) ?_
 iterate 3 (refine wss rfl (fun K hK=> ?_);go_simp;refine⟨_,fun _ _=>rfl,hK _ ?_⟩;clear hK K)
 refine wss rfl (fun K hK=> ?_)
 go_simp
 refine⟨lv,fun wk hwk=> ?_,hK _ ?_⟩
 ·have g0:=hwk.log.cells.list
  have hlt:=hwk.log.cells.lt
  go_simp
 clear hK K
 refine wss rfl (fun K hK=> ?_)
 go_simp
 refine⟨ddV ⟨kind,(j:Int),no,seen,at_,many,text⟩,fun wk hwk=> ?_,hK _ ?_⟩
 ·obtain⟨_,c0,c1,c2,c3,c4,c5,c6⟩:=hwk.deed
  simp only[Nat.zero_add]at c0 c1 c2 c3 c4 c5 c6
  go_simp
 clear hK K
 refine wss rfl (fun K hK=> ?_)
 go_simp
 refine⟨_,fun _ _=>rfl,hK _ ?_⟩
 clear hK K
 refine wsp rfl rfl (fun u=>∃v,u= .tuple #[v,.int .i64 cd]) (fun u wk=>TL w base S G (.slice a b.ds.length cap) lv b ⟨kind,(j:Int),no,seen,at_,many,text⟩ wk/\∃v,u= .tuple #[v,.int .i64 cd]/\LT w base S G (.slice a b.ds.length cap) lv b ⟨kind,(j:Int),no,seen,at_,many,text⟩ v (doR b.chars ⟨kind,(j:Int),no,seen,at_,many,text⟩ ((b.ds.length:Int)+1)) wk) ⟨_,.int .i64 0,rfl⟩ (fun _ _ h=>h.1) (fun wk hwk=> ?_) (fun v6 hv6=> ?_)
 ·go_simp
  refine(zvh b.chars ⟨kind,(j:Int),no,seen,at_,many,text⟩ ((b.ds.length:Int)+1) _ wk hwk.log.ownL.lst HSC.out HFT.out).mono ?_
  rintro e w6 ⟨u,rfl,ho,hb⟩
  rw[HCC.out]
  exact⟨_,rfl,⟨u,rfl⟩,hwk.after hb,u,rfl,zzk hwk HA.out hb ho⟩
 obtain⟨v6,rfl⟩:=hv6
 iterate 5 (refine wss rfl (fun K hK=> ?_);go_simp;refine⟨_,fun _ _=>rfl,hK _ ?_⟩;clear hK K)
 refine wsn (fun w7 hw7=> ?_)
 have HI7:Hid _:=hw7
 clear hw7
 go_wp2
 go_ret2
 exact⟨zdy HN.out.symm HCD.out.symm,by rw[HB.out];exact HA.out.stay HI7.out.1.below⟩
theorem take_lgZ(h:zc2 w base S G dv lv b)(hg:zct b)(d:Dd)(hr:zlb b d=0)(cd:Int)(hcc:doC b.chars d (b.len+1)=cd)(hz:cd=0):
 Calls Tryz.prog 164 #[.pointer (some ⟨G,0,none⟩),ddV d] w fun e w'=>e= .returned (.tuple #[.int .i64 (zar b d),.int .i64 (za6 b d)])/\zk6 w base S G (zb9 b d) w':=by
 have HA:Hid (zc2 w base S G dv lv b):=h
 have HG:Hid (zct b):=hg
 have HI:Hid (TL w base S G dv lv b d (w.alloc (zd9 d))):=zgx h d
 have hlen:b.len=(b.ds.length:Int):=rfl
 have hl2:b.ds.length<=120:=hg.small
 have hcd:za6 b d=cd:=by rw[zou,if_neg (fun e=>e hr)];exact hcc
 have HCD:Hid (za6 b d=cd):=hcd
 have HB:Hid (zb9 b d=⟨b.ds++[d],b.here,zai b.last d.by_ d.no,zai b.said d.by_ d.seen⟩):=by show zb9 b d=_;rw[zb9,if_pos (hcd.trans hz)]
 have HN:Hid (zar b d=b.len+1):=by show zar b d=_;rw[zar,if_pos (hcd.trans hz)]
 have HCH:Hid (doR b.chars d ((b.ds.length:Int)+1)=Bk.chars ⟨b.ds++[d],b.here,zai b.last d.by_ d.no,zai b.said d.by_ d.seen⟩):=by
  have hz2:doC b.chars d ((b.ds.length:Int)+1)=0:=hcc.trans hz
  have:=zpl hg (hcd.trans hz)
  show doR _ _ _=(zh6 [] 0 (b.ds++[d])).1
  rw[this,doR,if_pos hz2]
  rfl
 have htx:d.text.size<=200:=by have:=(zc0 (hcc.trans hz)).2.2.1;omega
 obtain⟨i0,hi,hz0,hz1,hz2⟩:=info_parts Tryz.infoDeed
 have hGlt:=h.cells.lt
 have hSG:=h.hG
 have hz':(cd != 0)=false:=by simp[hz]
 have HZ:Hid (cd=0):=hz
 clear hcd hz
 obtain⟨a,cap,rfl⟩:=h.ownD.len
 obtain⟨lh,hcc0⟩:b.isHere d.by_=true/\b.len<120:=by
  rcases zs6 b d with⟨_,hc⟩|⟨_,_,hc⟩|⟨_,_,_,hc⟩|⟨_,_,_,_,hc⟩|⟨h1,_,_,h4,_⟩
  ·rw[hr]at hc;cases hc
  ·rw[hr]at hc;cases hc
  ·rw[hr]at hc;cases hc
  ·rw[hr]at hc;cases hc
  exact⟨h1,h4⟩
 rw[hlen]at hcc0
 have HSC:Hid (b.chars.length<=1000):=by have:=zay (b:=b);show _<=_;omega
 have HFT:Hid (zi0 b.chars):=zv5 (zjd hg)
 have HLL:Hid (Lst w lv b.chars):=h.ownL.lst
 obtain⟨hw,hx⟩:=zad lh
 have HCC:Hid (doC b.chars d ((b.ds.length:Int)+1)=cd):=hcc
 obtain⟨kind,by_,no,seen,at_,many,text⟩:=d
 simp only at htx
 obtain⟨j,rfl,hj⟩:=zc1 hw
 have hj4:(j:Int)<4:=by omega
 have HR:Hid (zlb b ⟨kind,(j:Int),no,seen,at_,many,text⟩=0):=hr
 clear h hg hcc hr hx lh hw hlen
 go_enter Tryz.func164,Tryz.ntmps164
 go_wp2_with fail
 refine(zm3 HI.out.log HG.out ⟨kind,(j:Int),no,seen,at_,many,text⟩).mono ?_
 rintro e w1 ⟨rfl,hb1⟩
 rw[HR.out]
 have HI1:Hid (TL w base S G (.slice a b.ds.length cap) lv b ⟨kind,(j:Int),no,seen,at_,many,text⟩ w1):=HI.out.after hb1
 clear hb1 HI
 go_wp2_with (go_at_call 85;refine(zir HI1.out.log).mono ?_;rintro e w2 ⟨rfl,rfl⟩)
 refine wrs (fun wk=>TL w base S G (.slice a b.ds.length cap) lv b ⟨kind,(j:Int),no,seen,at_,many,text⟩ wk) (fun i=>i==6) (fun wk=>TL w base S G (.slice a b.ds.length cap) lv b ⟨kind,(j:Int),no,seen,at_,many,text⟩ wk) (by kernel_rfl) (by kernel_rfl) (by kernel_rfl) (fun _ h=>h) (HI1.out.after (Below.refl _ _).drew) ?_
 iterate 3 (refine wss rfl (fun K hK=> ?_);go_simp;refine⟨_,fun _ _=>rfl,hK _ ?_⟩;clear hK K)
 refine wss rfl (fun K hK=> ?_)
 go_simp
 refine⟨lv,fun wk hwk=> ?_,hK _ ?_⟩
 ·have g0:=hwk.log.cells.list
  have hlt:=hwk.log.cells.lt
  go_simp
 clear hK K
 refine wss rfl (fun K hK=> ?_)
 go_simp
 refine⟨ddV ⟨kind,(j:Int),no,seen,at_,many,text⟩,fun wk hwk=> ?_,hK _ ?_⟩
 ·obtain⟨_,c0,c1,c2,c3,c4,c5,c6⟩:=hwk.deed
  simp only[Nat.zero_add]at c0 c1 c2 c3 c4 c5 c6
  go_simp
 clear hK K
 refine wss rfl (fun K hK=> ?_)
 go_simp
 refine⟨_,fun _ _=>rfl,hK _ ?_⟩
 clear hK K
 refine wsp rfl rfl (fun u=>∃v,u= .tuple #[v,.int .i64 cd]) (fun u wk=>TL w base S G (.slice a b.ds.length cap) lv b ⟨kind,(j:Int),no,seen,at_,many,text⟩ wk/\∃v,u= .tuple #[v,.int .i64 cd]/\LT w base S G (.slice a b.ds.length cap) lv b ⟨kind,(j:Int),no,seen,at_,many,text⟩ v (doR b.chars ⟨kind,(j:Int),no,seen,at_,many,text⟩ ((b.ds.length:Int)+1)) wk) ⟨_,.int .i64 0,rfl⟩ (fun _ _ h=>h.1) (fun wk hwk=> ?_) (fun v6 hv6=> ?_)
 ·go_simp
  refine(zvh b.chars ⟨kind,(j:Int),no,seen,at_,many,text⟩ ((b.ds.length:Int)+1) _ wk hwk.log.ownL.lst HSC.out HFT.out).mono ?_
  rintro e w6 ⟨u,rfl,ho,hb⟩
  rw[HCC.out]
  exact⟨_,rfl,⟨u,rfl⟩,hwk.after hb,u,rfl,zzk hwk HA.out hb ho⟩
 obtain⟨v6,rfl⟩:=hv6
 iterate 5 (refine wss rfl (fun K hK=> ?_);go_simp;refine⟨_,fun _ _=>rfl,hK _ ?_⟩;clear hK K)
 refine wsn (fun w7 hw7=> ?_)
 have HI7:Hid _:=hw7
 clear hw7
 obtain⟨_,v7,he7,hL7⟩:=HI7.out
 simp only[Value.tuple.injEq]at he7
 obtain rfl:v6=v7:=by simpa using he7
 have HL7:Hid (LT w base S G (.slice a b.ds.length cap) lv b ⟨kind,(j:Int),no,seen,at_,many,text⟩ v6 (doR b.chars ⟨kind,(j:Int),no,seen,at_,many,text⟩ ((b.ds.length:Int)+1)) w7):=hL7
 generalize doR b.chars ⟨kind,(j:Int),no,seen,at_,many,text⟩ ((b.ds.length:Int)+1)=L8 at*
 obtain⟨a6,cap6,rfl,_⟩:=HL7.out.ownL.lst.len
 clear hL7 HI7 he7 HI1
 obtain⟨_,c0,c1,c2,c3,c4,c5,c6⟩:=HL7.out.deed
 simp only[Nat.zero_add]at c0 c1 c2 c3 c4 c5 c6
 go_wp2_with fail
 refine(zqu text _ (by omega)).mono ?_
 rintro e w8 ⟨rfl,hb8⟩
 have HL8:Hid (LT w base S G (.slice a b.ds.length cap) lv b ⟨kind,(j:Int),no,seen,at_,many,text⟩ (.slice a6 L8.length cap6) L8 w8):=HL7.out.after hb8
 have HL9:Hid (LT w base S G (.slice a b.ds.length cap) lv b ⟨kind,(j:Int),no,seen,at_,many,text⟩ (.slice a6 L8.length cap6) L8 (w8.setCell ⟨w.heap.size,6,none⟩ (.string text))):=HL8.out.text hGlt
 clear hb8 HL7 c0 c1 c2 c3 c4 c5 c6
 obtain⟨_,c0,c1,c2,c3,c4,c5,c6⟩:=HL8.out.deed
 simp only[Nat.zero_add]at c0 c1 c2 c3 c4 c5 c6
 have f6:=HL8.out.free
 go_wp2
 clear c0 c1 c2 c3 c4 c5 c6 f6 HL8
 generalize w8.setCell _ _=w9 at*
 obtain⟨_,c0,c1,c2,c3,c4,c5,c6⟩:=HL9.out.deed
 simp only[Nat.zero_add]at c0 c1 c2 c3 c4 c5 c6
 have g0:=HL9.out.cells.deeds
 have f0:=HL9.out.cells.free 12 (by omega)
 have hlt:=HL9.out.cells.lt
 have HOW:Hid (∀o,World.ownsRow (w9.drew.alloc o) base 124 7 (.slice a b.ds.length cap) b.ds.length (zbv b.ds)):=fun o=>(HL9.out.ownD.below ((Below.refl _ _).drew)).alloc o
 have HSR:Hid _:=zwd w9.drew [⟨kind,(j:Int),no,seen,at_,many,text⟩] #[.int .i64 kind,.int .i64 j,.int .i64 no,.int .i64 seen,.int .i64 at_,.int .i64 many,.string text] rfl
 have HKC:Hid (∀o wa,(w9.drew.alloc o).grownBy wa (Value.ownBlock (.slice a b.ds.length cap))->wa.cell? ⟨G,12,none⟩=some (.slice a b.ds.length cap)/\wa.frozen? ⟨G,12,none⟩=false):=fun o wa hg=>by
  have e:=zgb hg (k:=G) (by have:=HL9.out.cells.lt;omega) (fun e=>(HL9.out.dB G e).2.1 rfl)
  exact⟨(World.cell?_of_block (a:=⟨G,12,none⟩) e).trans HL9.out.cells.deeds,(World.frozen?_of_block (a:=⟨G,12,none⟩) e).trans (HL9.out.cells.free 12 (by omega))⟩
 have hbs:base<=w9.heap.size+1:=by have:=HA.out.base_le;have:=HL9.out.kept.size;omega
 have HT2:Hid (∀o wa v',(w9.drew.alloc o).grownBy wa (Value.ownBlock (.slice a b.ds.length cap))->zfx wa base v' (b.ds++[⟨kind,(j:Int),no,seen,at_,many,text⟩])->(∀k,v'.ownBlock=some k->Value.ownBlock (.slice a b.ds.length cap)=some k\/w9.heap.size<=k)->LT w base S G v' lv ⟨b.ds++[⟨kind,(j:Int),no,seen,at_,many,text⟩],b.here,b.last,b.said⟩ ⟨kind,(j:Int),no,seen,at_,many,text⟩ (.slice a6 L8.length cap6) L8 (wa.setCell ⟨G,12,none⟩ v')):=fun o wa v' hg ho hv=>qey HL9.out HA.out hg ho hv
 go_region_law ((refine step_append_lies _ (by rfl) (.tmp 41) (.tmp 43) 61 (by rfl) base 124 i0 zdh 7 64 Tryz.underlying61 hi hz0 hz1 hz2 rfl (by decide) (.slice a b.ds.length cap) b.ds.length (zbv b.ds) (by rfl) (HOW.out _) ⟨w9.heap.size,0,none⟩ 1 1 (zbv [⟨kind,(j:Int),no,seen,at_,many,text⟩]) (by rfl) rfl HSR.out (zhx _) (by decide) (by unfold maxLen;omega) (by omega) (by simp;omega) (w9.heap.size+1) (by simp) ?_;intro ga capa wa hown hgrow hat hlta;obtain⟨k0,k1⟩:=HKC.out _ _ hgrow))
 all_goals
  have Ha:Hid (LT w base S G (.slice (some ⟨ga,0,none⟩) (b.ds.length+1) capa) lv ⟨b.ds++[⟨kind,(j:Int),no,seen,at_,many,text⟩],b.here,b.last,b.said⟩ ⟨kind,(j:Int),no,seen,at_,many,text⟩ (.slice a6 L8.length cap6) L8 (wa.setCell ⟨G,12,none⟩ (.slice (some ⟨ga,0,none⟩) (b.ds.length+1) capa))):=HT2.out _ _ _ hgrow (by unfold zfx;rw[List.length_append,zk0];exact hown) (fun k hk=>by
   simp only[Value.ownBlock,Option.some.injEq]at hk
   subst hk
   rcases hat with e|e
   ·exact .inl e
   exact .inr (by omega))
  generalize wa.setCell _ _=wb at*
  clear hown hgrow hat hlta k0 k1 c0 c1 c2 c3 c4 c5 c6 g0 f0 hlt HT2 HKC HSR HOW hbs HL9
  generalize Value.slice (some ⟨ga,0,none⟩) (b.ds.length+1) capa=va at*
  have Hb:Hid (LT w base S G va (.slice a6 L8.length cap6) ⟨b.ds++[⟨kind,(j:Int),no,seen,at_,many,text⟩],b.here,b.last,b.said⟩ ⟨kind,(j:Int),no,seen,at_,many,text⟩ (.slice a6 L8.length cap6) L8 (wb.setCell ⟨G,13,none⟩ (.slice a6 L8.length cap6))):=Ha.out.wrote hGlt hSG _ (Ha.out.cells.setList (.slice a6 L8.length cap6)) rfl
  have g13:=Ha.out.cells.list
  have f13:=Ha.out.cells.free 13 (by omega)
  have hlt:=Ha.out.cells.lt
  go_wp2
  clear g13 f13 hlt Ha
  generalize wb.setCell _ _=wc at*
  obtain⟨_,c0,c1,c2,c3,c4,c5,c6⟩:=Hb.out.deed
  simp only[Nat.zero_add]at c0 c1 c2 c3 c4 c5 c6
  have hlt:=Hb.out.cells.lt
  go_quiet (fail)
  generalize hwd:wc.drewN nq=wd at*
  have Hd:Hid (LT w base S G va (.slice a6 L8.length cap6) ⟨b.ds++[⟨kind,(j:Int),no,seen,at_,many,text⟩],b.here,b.last,b.said⟩ ⟨kind,(j:Int),no,seen,at_,many,text⟩ (.slice a6 L8.length cap6) L8 wd):=by show LT _ _ _ _ _ _ _ _ _ _ _;rw[<-hwd];exact Hb.out.after (below_drewN (Below.refl _ _) _)
  clear c0 c1 c2 c3 c4 c5 c6 hlt Hb hwd
  obtain⟨_,c0,c1,c2,c3,c4,c5,c6⟩:=Hd.out.deed
  simp only[Nat.zero_add]at c0 c1 c2 c3 c4 c5 c6
  have g2:=Hd.out.cells.last j hj
  have g3:=Hd.out.cells.said j hj
  have f2:=Hd.out.cells.free (j*3+1) (by omega)
  have f3:=Hd.out.cells.free (j*3+2) (by omega)
  have hlt:=Hd.out.cells.lt
  simp only at g2 g3
  have hGE:¬G=w.heap.size:=by omega
  have hEG:¬w.heap.size=G:=by omega
  have H1:Hid (LT w base S G va (.slice a6 L8.length cap6) ⟨b.ds++[⟨kind,(j:Int),no,seen,at_,many,text⟩],b.here,zai b.last j no,b.said⟩ ⟨kind,(j:Int),no,seen,at_,many,text⟩ (.slice a6 L8.length cap6) L8 (wd.setCell ⟨G,j*3+1,none⟩ (.int .i64 no))):=Hd.out.wrote hGlt hSG _ (Hd.out.cells.setLast hj no) rfl
  have H2:Hid (LT w base S G va (.slice a6 L8.length cap6) ⟨b.ds++[⟨kind,(j:Int),no,seen,at_,many,text⟩],b.here,zai b.last j no,zai b.said j seen⟩ ⟨kind,(j:Int),no,seen,at_,many,text⟩ (.slice a6 L8.length cap6) L8 ((wd.setCell ⟨G,j*3+1,none⟩ (.int .i64 no)).setCell ⟨G,j*3+2,none⟩ (.int .i64 seen))):=H1.out.wrote hGlt hSG _ (H1.out.cells.setSaid hj seen) rfl
  clear Hd H1
  go_wp2
  go_region
  all_goals
   go_wp2
   go_ret2
   exact⟨zdy (by rw[HN.out];rfl) (by rw[HCD.out,HZ.out]),by rw[HB.out];exact(H2.out.to ⟨_,_,_,HA.out⟩ HCH.out).after (Below.refl _ _).drew⟩
theorem qdl(h:zc2 w base S G dv lv b)(hg:zct b)(d:Dd):
 Calls Tryz.prog 164 #[.pointer (some ⟨G,0,none⟩),ddV d] w fun e w'=>e= .returned (.tuple #[.int .i64 (zar b d),.int .i64 (za6 b d)])/\zk6 w base S G (zb9 b d) w':=by
 by_cases hr:zlb b d=0
 ·by_cases hz:doC b.chars d (b.len+1)=0
  ·exact take_lgZ h hg d hr _ rfl hz
  exact take_lgD h hg d hr _ rfl hz
 exact take_lgR h hg d hr
end Go.Proofs.YtcbnnfeelhlapadGreatDoor