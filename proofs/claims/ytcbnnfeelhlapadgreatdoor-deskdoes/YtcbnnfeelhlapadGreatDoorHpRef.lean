/-
  The contracts of the document's LineOf, word, number and DeedOf: they answer as Line and Parse do.
-/
import Derived.Test.YtcbnnfeelhlapadGreatDoorRBytes
import Derived.Test.YtcbnnfeelhlapadGreatDoorDBack
import Derived.BigRegion
import Derived.RegionTactic
import Derived.ChangeAlike
import Derived.Test.YtcbnnfeelhlapadGreatDoorTRel
import Derived.Test.YtcbnnfeelhlapadGreatDoorBkW
namespace Go.Proofs.YtcbnnfeelhlapadGreatDoor
set_option maxHeartbeats 3200000
set_option maxRecDepth 20000
open Go.RowKit
structure qcc(w:World)(B:Nat)(d:Dd)(wk:World):Prop where
 below:Below w.heap.size w wk
 ready:zbz wk
 at_:At7 wk B d
theorem qcc.after{w wk w':World}{B:Nat}{d:Dd}(h:qcc w B d wk)(hb:Below wk.heap.size wk w'):qcc w B d w':=
 ⟨bla h.below hb,h.ready.below hb,h.at_.below hb⟩
theorem qcc.drew{w wk:World}{B:Nat}{d:Dd}(h:qcc w B d wk):qcc w B d wk.drew:=h.after (Below.refl _ _).drew
theorem zsd{w wk:World}{B:Nat}{d:Dd}(h:qcc w B d wk)(n:Int)(hn:inI n):
 Calls Tryz.prog 42 #[.int .i64 n] wk fun e w'=>e= .returned (.string (zc4 n))∧qcc w B d w':=
 (zj7 n hn wk h.ready).mono fun _ _ ⟨he,hb⟩=>⟨he,h.after hb⟩
theorem qf5(d:Dd)(w:World)(h:za6 d≠0):
 Calls Tryz.prog 61 #[ddV d] w fun e w'=>e= .returned (.tuple #[.string (zcw d),.int .i64 (za6 d)])∧Below w.heap.size w w':=by
 have HS:Hid (zcw d=⟨#[]⟩):=by show zcw d=_;rw[zcw,if_neg h]
 have hne:(za6 d != 0)=true:=by simp[h]
 clear h
 obtain⟨kind,by_,no,seen,at_,many,text⟩:=d
 go_enter Tryz.func61,Tryz.ntmps61
 go_wp2_with fail
 refine(zjf ⟨kind,by_,no,seen,at_,many,text⟩ _).mono ?_
 rintro e w1 ⟨rfl,hb⟩
 go_wp2
 go_ret2
 exact⟨zjr HS.out.symm rfl,bla ((Below.refl _ _).alloc (Nat.le_refl _) _) hb⟩
theorem qb7(d:Dd)(w:World)(hw:zbz w)(h:za6 d=0)(hk:d.kind=1):
 Calls Tryz.prog 61 #[ddV d] w fun e w'=>e= .returned (.tuple #[.string (zcw d),.int .i64 (za6 d)])∧Below w.heap.size w w':=by
 have HC:Hid (za6 d=0):=h
 have HW:Hid (zbz w):=hw
 have HI:Hid _:=zux h
 have g1:=zby HI.out.1
 have g2:=zby HI.out.2.1
 have g3:=zby HI.out.2.2.1
 have g4:=zby HI.out.2.2.2
 have HS:Hid (zcw d=⟨#[112,117,116]⟩++(⟨#[32]⟩++zc4 d.by_++⟨#[32]⟩++zc4 d.no++⟨#[32]⟩++zc4 d.seen++⟨#[32]⟩++zc4 d.at_++⟨#[32]⟩)++d.text):=by
  show zcw d=_
  rw[zcw,if_pos h]
  refine zri ?_
  rw[zib hk]
  simp only[zif,zl7,putL,znh]
  simp
 have hts:=(zj5 (qea h hk).2).2
 obtain⟨kind,by_,no,seen,at_,many,text⟩:=d
 obtain rfl:kind=1:=hk
 simp only at g1 g2 g3 g4 hts
 clear hw h
 go_enter Tryz.func61,Tryz.ntmps61
 go_wp2_with fail
 refine(zjf ⟨_,by_,no,seen,at_,many,text⟩ _).mono ?_
 rintro e w1 ⟨rfl,hb⟩
 rw[HC.out]
 have HL:Hid (qcc w w.heap.size ⟨1,by_,no,seen,at_,many,text⟩ w1):=⟨bla ((Below.refl _ _).alloc (Nat.le_refl _) _) hb,HW.out.below (bla ((Below.refl _ _).alloc (Nat.le_refl _) _) hb),(zjm w ⟨1,by_,no,seen,at_,many,text⟩).below hb⟩
 clear hb
 go_wp2
 refine wp_region_quiet (C:=fun wk=>qcc w w.heap.size ⟨1,by_,no,seen,at_,many,text⟩ wk) (by kernel_rfl) (by kernel_rfl) (HL.out.drew) ?_
 refine wpQuiet_step (fun K hK=> ?_)
 go_simp
 refine⟨_,fun _ _=>rfl,hK _ ?_⟩
 clear hK K
 refine wpQuiet_step (fun K hK=> ?_)
 go_simp
 refine⟨.int .i64 by_,fun wk hwk=> ?_,hK _ ?_⟩
 ·obtain⟨_,c0,c1,c2,c3,c4,c5,c6⟩:=hwk.at_
  go_simp
 clear hK K
 refine wpQuiet_step (fun K hK=> ?_)
 go_simp
 refine⟨_,fun wk hwk=>zsd hwk by_ HI.out.1,hK _ ?_⟩
 clear hK K
 refine wpQuiet_step (fun K hK=> ?_)
 go_simp
 refine⟨.string (⟨#[32]⟩++zc4 by_),fun wk _=> ?_,hK _ ?_⟩
 ·rw[if_neg (by omega)]
  exact⟨rfl,rfl⟩
 clear hK K
 refine wpQuiet_step (fun K hK=> ?_)
 go_simp
 refine⟨.string (⟨#[32]⟩++zc4 by_++⟨#[32]⟩),fun wk _=> ?_,hK _ ?_⟩
 ·rw[if_neg (by omega)]
  exact⟨rfl,rfl⟩
 clear hK K
 refine wpQuiet_step (fun K hK=> ?_)
 go_simp
 refine⟨_,fun _ _=>rfl,hK _ ?_⟩
 clear hK K
 refine wpQuiet_step (fun K hK=> ?_)
 go_simp
 refine⟨.int .i64 no,fun wk hwk=> ?_,hK _ ?_⟩
 ·obtain⟨_,c0,c1,c2,c3,c4,c5,c6⟩:=hwk.at_
  go_simp
 clear hK K
 refine wpQuiet_step (fun K hK=> ?_)
 go_simp
 refine⟨_,fun wk hwk=>zsd hwk no HI.out.2.1,hK _ ?_⟩
 clear hK K
 refine wpQuiet_step (fun K hK=> ?_)
 go_simp
 refine⟨.string (⟨#[32]⟩++zc4 by_++⟨#[32]⟩++zc4 no),fun wk _=> ?_,hK _ ?_⟩
 ·rw[if_neg (by omega)]
  exact⟨rfl,rfl⟩
 clear hK K
 refine wpQuiet_step (fun K hK=> ?_)
 go_simp
 refine⟨.string (⟨#[32]⟩++zc4 by_++⟨#[32]⟩++zc4 no++⟨#[32]⟩),fun wk _=> ?_,hK _ ?_⟩
 ·rw[if_neg (by omega)]
  exact⟨rfl,rfl⟩
 clear hK K
 refine wpQuiet_step (fun K hK=> ?_)
 go_simp
 refine⟨_,fun _ _=>rfl,hK _ ?_⟩
 clear hK K
 refine wpQuiet_step (fun K hK=> ?_)
 go_simp
 refine⟨.int .i64 seen,fun wk hwk=> ?_,hK _ ?_⟩
 ·obtain⟨_,c0,c1,c2,c3,c4,c5,c6⟩:=hwk.at_
  go_simp
 clear hK K
 refine wpQuiet_step (fun K hK=> ?_)
 go_simp
 refine⟨_,fun wk hwk=>zsd hwk seen HI.out.2.2.1,hK _ ?_⟩
 clear hK K
 refine wpQuiet_step (fun K hK=> ?_)
 go_simp
 refine⟨.string (⟨#[32]⟩++zc4 by_++⟨#[32]⟩++zc4 no++⟨#[32]⟩++zc4 seen),fun wk _=> ?_,hK _ ?_⟩
 ·rw[if_neg (by omega)]
  exact⟨rfl,rfl⟩
 clear hK K
 refine wpQuiet_step (fun K hK=> ?_)
 go_simp
 refine⟨.string (⟨#[32]⟩++zc4 by_++⟨#[32]⟩++zc4 no++⟨#[32]⟩++zc4 seen++⟨#[32]⟩),fun wk _=> ?_,hK _ ?_⟩
 ·rw[if_neg (by omega)]
  exact⟨rfl,rfl⟩
 clear hK K
 refine wpQuiet_step (fun K hK=> ?_)
 go_simp
 refine⟨_,fun _ _=>rfl,hK _ ?_⟩
 clear hK K
 refine wpQuiet_step (fun K hK=> ?_)
 go_simp
 refine⟨.int .i64 at_,fun wk hwk=> ?_,hK _ ?_⟩
 ·obtain⟨_,c0,c1,c2,c3,c4,c5,c6⟩:=hwk.at_
  go_simp
 clear hK K
 refine wpQuiet_step (fun K hK=> ?_)
 go_simp
 refine⟨_,fun wk hwk=>zsd hwk at_ HI.out.2.2.2,hK _ ?_⟩
 clear hK K
 refine wpQuiet_step (fun K hK=> ?_)
 go_simp
 refine⟨.string (⟨#[32]⟩++zc4 by_++⟨#[32]⟩++zc4 no++⟨#[32]⟩++zc4 seen++⟨#[32]⟩++zc4 at_),fun wk _=> ?_,hK _ ?_⟩
 ·rw[if_neg (by omega)]
  exact⟨rfl,rfl⟩
 clear hK K
 refine wpQuiet_step (fun K hK=> ?_)
 go_simp
 refine⟨.string (⟨#[32]⟩++zc4 by_++⟨#[32]⟩++zc4 no++⟨#[32]⟩++zc4 seen++⟨#[32]⟩++zc4 at_++⟨#[32]⟩),fun wk _=> ?_,hK _ ?_⟩
 ·rw[if_neg (by omega)]
  exact⟨rfl,rfl⟩
 clear hK K
 refine wpQuiet_step (fun K hK=> ?_)
 go_simp
 refine⟨_,fun _ _=>rfl,hK _ ?_⟩
 clear hK K
 refine wpQuiet_nil ?_
 intro w2 hw2
 have HB2:Hid (Below w.heap.size w w2):=hw2.below
 obtain⟨_,c0,c1,c2,c3,c4,c5,c6⟩:=hw2.at_
 clear hw2
 go_wp2
 go_ret2
 exact⟨zjr HS.out.symm HC.out.symm,HB2.out⟩
theorem zx3(d:Dd)(w:World)(hw:zbz w)(h:za6 d=0)(hk:d.kind≠1):
 Calls Tryz.prog 61 #[ddV d] w fun e w'=>e= .returned (.tuple #[.string (zcw d),.int .i64 (za6 d)])∧Below w.heap.size w w':=by
 have HC:Hid (za6 d=0):=h
 have HW:Hid (zbz w):=hw
 have HI:Hid _:=zux h
 have g1:=zby HI.out.1
 have g2:=zby HI.out.2.1
 have g3:=zby HI.out.2.2.1
 have g4:=zby HI.out.2.2.2
 have HS:Hid (zcw d=⟨#[116,97,107,101]⟩++(⟨#[32]⟩++zc4 d.by_++⟨#[32]⟩++zc4 d.no++⟨#[32]⟩++zc4 d.seen++⟨#[32]⟩++zc4 d.at_++⟨#[32]⟩)++zc4 d.many):=by
  show zcw d=_
  rw[zcw,if_pos h]
  refine zri ?_
  rw[zk9 hk]
  simp only[zif,zl7,zyt,znh]
  simp
 obtain⟨hk2,_,hm1,hm2⟩:=zwa h hk
 have HM:Hid (inI d.many):=by show inI d.many;unfold inI;omega
 have g5:=zby HM.out
 obtain⟨kind,by_,no,seen,at_,many,text⟩:=d
 obtain rfl:kind=2:=hk2
 simp only at g1 g2 g3 g4 g5
 clear hk hm1 hm2
 clear hw h
 go_enter Tryz.func61,Tryz.ntmps61
 go_wp2_with fail
 refine(zjf ⟨_,by_,no,seen,at_,many,text⟩ _).mono ?_
 rintro e w1 ⟨rfl,hb⟩
 rw[HC.out]
 have HL:Hid (qcc w w.heap.size ⟨2,by_,no,seen,at_,many,text⟩ w1):=⟨bla ((Below.refl _ _).alloc (Nat.le_refl _) _) hb,HW.out.below (bla ((Below.refl _ _).alloc (Nat.le_refl _) _) hb),(zjm w ⟨2,by_,no,seen,at_,many,text⟩).below hb⟩
 clear hb
 go_wp2
 refine wp_region_quiet (C:=fun wk=>qcc w w.heap.size ⟨2,by_,no,seen,at_,many,text⟩ wk) (by kernel_rfl) (by kernel_rfl) (HL.out.drew) ?_
 refine wpQuiet_step (fun K hK=> ?_)
 go_simp
 refine⟨_,fun _ _=>rfl,hK _ ?_⟩
 clear hK K
 refine wpQuiet_step (fun K hK=> ?_)
 go_simp
 refine⟨.int .i64 by_,fun wk hwk=> ?_,hK _ ?_⟩
 ·obtain⟨_,c0,c1,c2,c3,c4,c5,c6⟩:=hwk.at_
  go_simp
 clear hK K
 refine wpQuiet_step (fun K hK=> ?_)
 go_simp
 refine⟨_,fun wk hwk=>zsd hwk by_ HI.out.1,hK _ ?_⟩
 clear hK K
 refine wpQuiet_step (fun K hK=> ?_)
 go_simp
 refine⟨.string (⟨#[32]⟩++zc4 by_),fun wk _=> ?_,hK _ ?_⟩
 ·rw[if_neg (by omega)]
  exact⟨rfl,rfl⟩
 clear hK K
 refine wpQuiet_step (fun K hK=> ?_)
 go_simp
 refine⟨.string (⟨#[32]⟩++zc4 by_++⟨#[32]⟩),fun wk _=> ?_,hK _ ?_⟩
 ·rw[if_neg (by omega)]
  exact⟨rfl,rfl⟩
 clear hK K
 refine wpQuiet_step (fun K hK=> ?_)
 go_simp
 refine⟨_,fun _ _=>rfl,hK _ ?_⟩
 clear hK K
 refine wpQuiet_step (fun K hK=> ?_)
 go_simp
 refine⟨.int .i64 no,fun wk hwk=> ?_,hK _ ?_⟩
 ·obtain⟨_,c0,c1,c2,c3,c4,c5,c6⟩:=hwk.at_
  go_simp
 clear hK K
 refine wpQuiet_step (fun K hK=> ?_)
 go_simp
 refine⟨_,fun wk hwk=>zsd hwk no HI.out.2.1,hK _ ?_⟩
 clear hK K
 refine wpQuiet_step (fun K hK=> ?_)
 go_simp
 refine⟨.string (⟨#[32]⟩++zc4 by_++⟨#[32]⟩++zc4 no),fun wk _=> ?_,hK _ ?_⟩
 ·rw[if_neg (by omega)]
  exact⟨rfl,rfl⟩
 clear hK K
 refine wpQuiet_step (fun K hK=> ?_)
 go_simp
 refine⟨.string (⟨#[32]⟩++zc4 by_++⟨#[32]⟩++zc4 no++⟨#[32]⟩),fun wk _=> ?_,hK _ ?_⟩
 ·rw[if_neg (by omega)]
  exact⟨rfl,rfl⟩
 clear hK K
 refine wpQuiet_step (fun K hK=> ?_)
 go_simp
 refine⟨_,fun _ _=>rfl,hK _ ?_⟩
 clear hK K
 refine wpQuiet_step (fun K hK=> ?_)
 go_simp
 refine⟨.int .i64 seen,fun wk hwk=> ?_,hK _ ?_⟩
 ·obtain⟨_,c0,c1,c2,c3,c4,c5,c6⟩:=hwk.at_
  go_simp
 clear hK K
 refine wpQuiet_step (fun K hK=> ?_)
 go_simp
 refine⟨_,fun wk hwk=>zsd hwk seen HI.out.2.2.1,hK _ ?_⟩
 clear hK K
 refine wpQuiet_step (fun K hK=> ?_)
 go_simp
 refine⟨.string (⟨#[32]⟩++zc4 by_++⟨#[32]⟩++zc4 no++⟨#[32]⟩++zc4 seen),fun wk _=> ?_,hK _ ?_⟩
 ·rw[if_neg (by omega)]
  exact⟨rfl,rfl⟩
 clear hK K
 refine wpQuiet_step (fun K hK=> ?_)
 go_simp
 refine⟨.string (⟨#[32]⟩++zc4 by_++⟨#[32]⟩++zc4 no++⟨#[32]⟩++zc4 seen++⟨#[32]⟩),fun wk _=> ?_,hK _ ?_⟩
 ·rw[if_neg (by omega)]
  exact⟨rfl,rfl⟩
 clear hK K
 refine wpQuiet_step (fun K hK=> ?_)
 go_simp
 refine⟨_,fun _ _=>rfl,hK _ ?_⟩
 clear hK K
 refine wpQuiet_step (fun K hK=> ?_)
 go_simp
 refine⟨.int .i64 at_,fun wk hwk=> ?_,hK _ ?_⟩
 ·obtain⟨_,c0,c1,c2,c3,c4,c5,c6⟩:=hwk.at_
  go_simp
 clear hK K
 refine wpQuiet_step (fun K hK=> ?_)
 go_simp
 refine⟨_,fun wk hwk=>zsd hwk at_ HI.out.2.2.2,hK _ ?_⟩
 clear hK K
 refine wpQuiet_step (fun K hK=> ?_)
 go_simp
 refine⟨.string (⟨#[32]⟩++zc4 by_++⟨#[32]⟩++zc4 no++⟨#[32]⟩++zc4 seen++⟨#[32]⟩++zc4 at_),fun wk _=> ?_,hK _ ?_⟩
 ·rw[if_neg (by omega)]
  exact⟨rfl,rfl⟩
 clear hK K
 refine wpQuiet_step (fun K hK=> ?_)
 go_simp
 refine⟨.string (⟨#[32]⟩++zc4 by_++⟨#[32]⟩++zc4 no++⟨#[32]⟩++zc4 seen++⟨#[32]⟩++zc4 at_++⟨#[32]⟩),fun wk _=> ?_,hK _ ?_⟩
 ·rw[if_neg (by omega)]
  exact⟨rfl,rfl⟩
 clear hK K
 refine wpQuiet_step (fun K hK=> ?_)
 go_simp
 refine⟨_,fun _ _=>rfl,hK _ ?_⟩
 clear hK K
 refine wpQuiet_nil ?_
 intro w2 hw2
 obtain⟨_,c0,c1,c2,c3,c4,c5,c6⟩:=hw2.at_
 have HW2:Hid _:=hw2
 clear hw2
 go_wp2_with fail
 clear c0 c1 c2 c3 c4 c5 c6
 refine(zsd HW2.out many HM.out).mono ?_
 rintro e w3 ⟨rfl,hw3⟩
 have HB3:Hid (Below w.heap.size w w3):=hw3.below
 clear hw3
 go_wp2
 go_ret2
 exact⟨zjr HS.out.symm HC.out.symm,HB3.out⟩
theorem qb8(d:Dd)(w:World)(hw:zbz w):
 Calls Tryz.prog 61 #[ddV d] w fun e w'=>e= .returned (.tuple #[.string (zcw d),.int .i64 (za6 d)])∧Below w.heap.size w w':=by
 by_cases h:za6 d=0
 ·by_cases hk:d.kind=1
  ·exact qb7 d w hw h hk
  ·exact zx3 d w hw h hk
 ·exact qf5 d w h
end Go.Proofs.YtcbnnfeelhlapadGreatDoor
namespace Go.Proofs.YtcbnnfeelhlapadGreatDoor
set_option maxHeartbeats 3200000
set_option maxRecDepth 20000
open Go.RowKit
theorem cut_at(s:ByteArray)(k:Nat)(hk:k<s.size)(h0:∀b∈s.data.toList.take k,b≠32)(h1:s[k]=32):zf2 s.data.toList=some (s.data.toList.take k,s.data.toList.drop (k+1)):=by
 have e:s.data.toList=s.data.toList.take k++32::s.data.toList.drop (k+1):=by
  have:=List.take_append_drop k s.data.toList
  rw[List.drop_eq_getElem_cons hk,qfr s k hk,h1]at this
  exact this.symm
 have:=qge (s.data.toList.take k) (s.data.toList.drop (k+1)) h0
 rw[←e]at this
 exact this
theorem zva(s:ByteArray)(k:Nat):s.extract 0 k=bl (s.data.toList.take k):=by
 refine zri ?_
 rw[Lib.extract_from_zero,zhf]
theorem zv9(s:ByteArray)(k:Nat):s.extract k s.size=bl (s.data.toList.drop k):=by
 refine zri ?_
 rw[Lib.extract_to_end,zhf]
def zne(s:ByteArray):Value:=match zf2 s.data.toList with|some p=> .tuple #[.string (bl p.1),.string (bl p.2),.bool true]|none=> .tuple #[.string s,.string ⟨#[]⟩,.bool false]
theorem znk(s:ByteArray)(w:World)(hs:s.size≤100000):
 Calls Tryz.prog 30 #[.string s] w fun e w'=>e= .returned (zne s)∧Below w.heap.size w w':=by
 go_enter Tryz.func30,Tryz.ntmps30
 go_wp2
 go_loop [5] (fun i=>∃k:Nat,k≤s.size∧i= .int .i64 k∧∀b∈s.data.toList.take k,b≠32) (fun i=>s.size-(intOf i).toNat)
 case atStart=>exact⟨0,Nat.zero_le _,rfl,by simp⟩
 case round=>
  obtain⟨k,hk,rfl,hfree⟩:=hrel
  have HF:Hid _:=hfree
  clear hfree
  by_cases hlt:k<s.size
  ·by_cases h32:s[k]=32
   ·have hc:((s[k].toNat:Int)==32)=true:=by rw[h32];rfl
    have HC:Hid _:=cut_at s k hlt HF.out h32
    clear h32
    have e1:=zva s k
    have e2:=zv9 s (k+1)
    have HV:Hid (zne s= .tuple #[.string (s.extract 0 k),.string (s.extract (k+1) s.size),.bool true]):=by
     show zne s=_
     rw[zne,HC.out,e1,e2]
    clear e1 e2
    go_wp2
    go_quiet (fail)
    go_wp2
    go_ret3
    exact⟨congrArg Ending.returned HV.out.symm,below_drewN (Below.refl _ _) _⟩
   ·have hc:((s[k].toNat:Int)==32)=false:=by
     refine beq_eq_false_iff_ne.2 (fun e=>h32 (UInt8.toNat_inj.1 ?_))
     show s[k].toNat=32
     omega
    have HN:Hid (∀b∈s.data.toList.take (k+1),b≠32):=by
     intro b hb
     rw[List.take_add_one,List.getElem?_eq_getElem hlt,qfr s k hlt]at hb
     rcases List.mem_append.1 hb with hb|hb
     ·exact HF.out b hb
     ·simp at hb
      rw[hb]
      exact h32
    clear h32
    go_wp2
    go_round
    case rel=>exact⟨k+1,by omega,by go_num,HN.out⟩
    case measure=>simp[intOf];omega
  ·have HV:Hid (zne s= .tuple #[.string s,.string ⟨#[]⟩,.bool false]):=by
    show zne s=_
    have hall:=HF.out
    rw[show k=s.size by omega,←zay,List.take_length]at hall
    rw[zne,zpj hall]
   go_wp2
   go_ret3
   exact⟨congrArg Ending.returned HV.out.symm,Below.refl _ _⟩
theorem qek(s:ByteArray)(w:World)(hw:zbz w)(hs:s.size≤100000)(h:zhr s=none):
 Calls Tryz.prog 31 #[.string s] w fun e w'=>(∃v,e= .returned (.tuple #[.int .i64 v,.bool (ze3 s).isSome])∧∀z,ze3 s=some z→v=z)∧Below w.heap.size w w':=by
 have HN:Hid (ze3 s=none):=by show ze3 s=none;rw[ze3,h]
 have HW:Hid _:=hw
 have HH:Hid _:=h
 clear hw h
 go_enter Tryz.func31,Tryz.ntmps31
 go_wp2_with fail
 refine(qgs s (by omega) HH.out _ HW.out).mono ?_
 rintro e w1 ⟨v,t,q,rfl,_,hb1⟩
 go_wp2
 go_ret2
 exact⟨⟨v,by rw[HN.out];rfl,fun z hz=>by rw[HN.out]at hz;cases hz⟩,hb1⟩
theorem zuk(s:ByteArray)(w:World)(hw:zbz w)(hs:s.size≤100000)(v:Int)(h:zhr s=some v):
 Calls Tryz.prog 31 #[.string s] w fun e w'=>(∃v,e= .returned (.tuple #[.int .i64 v,.bool (ze3 s).isSome])∧∀z,ze3 s=some z→v=z)∧Below w.heap.size w w':=by
 have HW:Hid _:=hw
 have HH:Hid _:=h
 have HI:Hid _:=zul h
 by_cases he:zc4 v=s
 ·have HN:Hid (ze3 s=some v):=by show ze3 s=some v;simp[ze3,h,he]
  clear hw h
  go_enter Tryz.func31,Tryz.ntmps31
  go_wp2_with fail
  refine(zt5 s v (by omega) HH.out _).mono ?_
  rintro e w1 ⟨rfl,hb1⟩
  go_wp2_with fail
  refine(zj7 v HI.out _ (HW.out.below hb1)).mono ?_
  rintro e w2 ⟨rfl,hb2⟩
  have HB:Hid _:=bla hb1 hb2
  clear hb1 hb2
  go_wp2
  go_ret2
  exact⟨⟨v,by rw[HN.out];rfl,fun z hz=>by rw[HN.out]at hz;exact Option.some.inj hz⟩,HB.out⟩
 ·have HN:Hid (ze3 s=none):=by show ze3 s=none;simp[ze3,h,he]
  have hne:((zc4 v).toList==s.toList)=false:=by rw[qgr];simp[he]
  clear hw h he
  go_enter Tryz.func31,Tryz.ntmps31
  go_wp2_with fail
  refine(zt5 s v (by omega) HH.out _).mono ?_
  rintro e w1 ⟨rfl,hb1⟩
  go_wp2_with fail
  refine(zj7 v HI.out _ (HW.out.below hb1)).mono ?_
  rintro e w2 ⟨rfl,hb2⟩
  have HB:Hid _:=bla hb1 hb2
  clear hb1 hb2
  go_wp2
  go_ret2
  exact⟨⟨v,by rw[HN.out];rfl,fun z hz=>by rw[HN.out]at hz;cases hz⟩,HB.out⟩
theorem zfa(s:ByteArray)(w:World)(hw:zbz w)(hs:s.size≤100000):
 Calls Tryz.prog 31 #[.string s] w fun e w'=>(∃v,e= .returned (.tuple #[.int .i64 v,.bool (ze3 s).isSome])∧∀z,ze3 s=some z→v=z)∧Below w.heap.size w w':=by
 cases h:zhr s with
 |none=>exact qek s w hw hs h
 |some v=>exact zuk s w hw hs v h
end Go.Proofs.YtcbnnfeelhlapadGreatDoor
namespace Go.Proofs.YtcbnnfeelhlapadGreatDoor
set_option maxHeartbeats 3200000
open Go Go.RowKit
def zba:List UInt8→List UInt8→List (List UInt8)
 |acc,[]=>if acc=[]then []else [acc]
 |acc,b::r=>if b=32 then(if acc=[]then zba [] r else acc::zba [] r)else zba (acc++[b]) r
def zb0(s:List UInt8):List (List UInt8):=zba [] s
def zeq(s:List UInt8):Option (Int×Int×List UInt8):=match zf2 s with
 |none=>none
 |some (a,rest)=>if a=[112,117,116]then(match zf2 rest with
  |none=>none
  |some (b,more)=>match zf2 more with
   |none=>none
   |some (c,text)=>match ze3 (bl b)with
    |none=>none
    |some w=>match ze3 (bl c)with
     |none=>none
     |some at_=>some (w,at_,text))else none
def okW:List UInt8:=[111,107,10]
def noW(c:Int):List UInt8:=[110,111,32]++(Lib.itoa c++[10])
def zfl:List UInt8:=[119,104,97,116,10]
def znw:List UInt8:=[101,110,100,10]
def zkb(l:List Int):List UInt8:=(strOfNums l).data.toList
def zfo(l:List Int):List UInt8:=[116,101,120,116,32]++(zkb l++[10])
def zhe(d:Dd):List UInt8:=(zcw d).data.toList++[10]
def zb3:List Dd→List UInt8
 |[]=>[]
 |d::ds=>zhe d++zb3 ds
def zdv:List Int→List UInt8
 |[]=>[]
 |z::zs=>32::(Lib.itoa z++zdv zs)
def byW(zs:List Int):List UInt8:=[98,121]++(zdv zs++[10])
def ze4(a b:Int):List UInt8:=[108,101,97,115,116,32]++(Lib.itoa a++([32]++(Lib.itoa b++[10])))
theorem zkn(d:Dd):∀ds:List Dd,zb3 (ds++[d])=zb3 ds++zhe d
 |[]=>by simp[zb3]
 |e::ds=>by rw[List.cons_append,zb3,zkn d ds,zb3,List.append_assoc]
theorem zqv(z:Int):∀zs:List Int,zdv (zs++[z])=zdv zs++32::Lib.itoa z
 |[]=>by simp[zdv]
 |y::zs=>by rw[List.cons_append,zdv,zqv z zs,zdv,List.cons_append,List.append_assoc]
def zca(t:Twn)(x:Tst):List UInt8×Twn:=(if(tDo t x).1=0 then okW else noW (tDo t x).1,(tDo t x).2)
def zi7(t:Twn)(n:Int):List UInt8:=match t.ws n with
 |some r=>zfo (vw r.list r.seen r.me)
 |none=>noW 5
def zhq(t:Twn)(n:Int):List UInt8:=match t.ws n with
 |some r=>zb3 r.opens++znw
 |none=>noW 5
def zhd(t:Twn)(n:Int):List UInt8:=if inS t.b n=true then zfo ((thS t.b n).map (·.c))++byW ((thS t.b n).map (·.by_))else noW 5
def zci(t:Twn)(k:List UInt8)(n:List Int):List UInt8×Twn:=
 if k=[116,97,107,101]∧n.length=3 then zca t ⟨3,n.getD 0 0,n.getD 1 0,n.getD 2 0,⟨#[]⟩⟩
 else if k=[106,111,105,110]∧n.length=1 then zca t ⟨1,n.getD 0 0,0,0,⟨#[]⟩⟩
 else if k=[115,101,110,100]∧n.length=1 then zca t ⟨4,n.getD 0 0,0,0,⟨#[]⟩⟩
 else if k=[104,101,97,114]∧n.length=1 then zca t ⟨5,n.getD 0 0,0,0,⟨#[]⟩⟩
 else if k=[99,108,101,97,114]∧n.length=1 then zca t ⟨6,n.getD 0 0,0,0,⟨#[]⟩⟩
 else if k=[108,101,97,118,101]∧n.length=1 then zca t ⟨7,n.getD 0 0,0,0,⟨#[]⟩⟩
 else if k=[116,101,120,116]∧n.length=1 then(zi7 t (n.getD 0 0),t)
 else if k=[116,101,120,116]∧n.length=0 then(zfo (zdi t.b.chars),t)
 else if k=[111,112,101,110]∧n.length=1 then(zhq t (n.getD 0 0),t)
 else if k=[108,111,103]∧n.length=0 then(zb3 t.b.ds++znw,t)
 else if k=[116,104,101,110]∧n.length=1 then(zhd t (n.getD 0 0),t)
 else if k=[115,101,116,116,108,101]∧n.length=0 then(okW,zdz t)
 else if k=[108,101,97,115,116]∧n.length=0 then(ze4 (zao t.b) t.b.len,t)
 else(zfl,t)
def zg2(t:Twn):List (List UInt8)→List UInt8×Twn
 |[]=>([],t)
 |k::r=>match zbp (r.map bl)with
  |none=>(zfl,t)
  |some n=>zci t k n
def zae(t:Twn)(s:List UInt8):List UInt8×Twn:=match zeq s with
 |some (w,at_,text)=>zca t ⟨2,w,at_,0,bl text⟩
 |none=>zg2 t (zb0 s)
def doK:Twn→List (List UInt8)→List UInt8×Twn
 |t,[]=>([],t)
 |t,s::r=>((zae t s).1++(doK (zae t s).2 r).1,(doK (zae t s).2 r).2)
theorem qg3:∀(a b:List (List UInt8)) (t:Twn),doK t (a++b)=((doK t a).1++(doK (doK t a).2 b).1,(doK (doK t a).2 b).2)
 |[],_,_=>rfl
 |s::a,b,t=>by
  show((zae t s).1++(doK (zae t s).2 (a++b)).1,(doK (zae t s).2 (a++b)).2)=_
  rw[qg3 a b]
  simp[doK,List.append_assoc]
theorem znx(a:List (List UInt8))(s:List UInt8)(t:Twn):doK t (a++[s])=((doK t a).1++(zae (doK t a).2 s).1,(zae (doK t a).2 s).2):=by
 rw[qg3]
 simp[doK]
def zgy(s:List UInt8):Bool:=s.any (· ==10)
def zbv:Nat→List (List UInt8)→Int×Int
 |_,[]=>(0,0)
 |i,s::r=>if zgy s=true then(11,(i:Int))else zbv (i+1) r
def zct(l:List (List UInt8)):Int×Int:=if 150<l.length then(10,-1)else zbv 0 l
def Sm(c:Int):Prop:=0≤c∧c≤20
theorem sm_check(d:Dd):Sm (za6 d):=by
 unfold za6 zwt zl4 Sm
 repeat' split
 all_goals omega
theorem sm_may(l:List Ch)(d:Dd):Sm (zgx l d):=by
 have h:=sm_check d
 unfold zgx
 unfold Sm at*
 repeat' split
 all_goals omega
theorem sm_do(l:List Ch)(d:Dd)(n:Int):Sm (doC l d n):=by
 have h:=sm_may l d
 unfold doC
 unfold Sm at*
 repeat' split
 all_goals omega
theorem sm_comes(b:Bk)(d:Dd):Sm (za4 b d):=by
 have h:=sm_do b.chars d (b.len+1)
 unfold za4
 unfold Sm at*
 repeat' split
 all_goals omega
theorem sm_says(b:Bk)(w seen:Int):Sm (zd4 b w seen):=by
 unfold zd4 Sm
 repeat' split
 all_goals omega
theorem sm_join(b:Bk)(w:Int):Sm (zc6 b w):=by
 unfold zc6 Sm
 repeat' split
 all_goals omega
theorem sm_hear(w:Wr)(d:Dd):Sm (zbd w d):=by
 have h:=sm_do w.list d ((w.seen:Int)+1)
 unfold zbd
 unfold Sm at*
 repeat' split
 all_goals omega
theorem zgi:Sm 5:=by unfold Sm;omega
theorem qdx:Sm 0:=by unfold Sm;omega
theorem zrw(t:Twn)(x:Tst):Sm (tDo t x).1:=by
 unfold tDo
 split
 ·show Sm 2
  unfold Sm;omega
 ·split
  ·exact sm_join _ _
  ·cases t.ws x.w with
   |none=>exact zgi
   |some r=>
    show Sm (if x.kind=2∨x.kind=3 then qay t x.w r x else if x.kind=4 then ze0 t x.w r else if x.kind=5 then zdk t x.w r
     else if x.kind=6 then(0,⟨t.b,zab t.ws x.w (some (zfw r (zau t.b r.seen)))⟩)else(0,zdl t x.w)).1
    split
    ·exact sm_do _ _ _
    ·split
     ·unfold ze0
      cases r.opens[r.sent]? with
      |none=>exact zgi
      |some d=>exact sm_comes _ _
     ·split
      ·unfold zdk
       cases t.b.ds[r.seen]? with
       |none=>exact zgi
       |some d=>
        show Sm (if zbd r d=0 then(zd4 t.b x.w (zav r d).least,(⟨zcz t.b x.w (zav r d).least,zab t.ws x.w (some (zav r d))⟩:Twn))else(zbd r d,zdl t x.w)).1
        split
        ·exact sm_says _ _ _
        ·exact sm_hear _ _
      ·split
       ·exact qdx
       ·exact qdx
end Go.Proofs.YtcbnnfeelhlapadGreatDoor
namespace Go.Proofs.YtcbnnfeelhlapadGreatDoor
set_option maxHeartbeats 3200000
set_option maxRecDepth 20000
open Go Go.RowKit
def zb9(w:World)(v:Value)(ws:List ByteArray):Prop:=
 ∃(a:Option Addr) (len cap:Nat),v= .slice a len cap∧ws.length=len∧len≤cap∧(len=0∨∃b off,a=some ⟨b,off,none⟩∧Strs w b off ws)
theorem zb9.below{w w':World}{v:Value}{ws:List ByteArray}(h:zb9 w v ws)(hb:Below w.heap.size w w'):zb9 w' v ws:=by
 obtain⟨a,len,cap,rfl,h1,h2,h3⟩:=h
 refine⟨a,len,cap,rfl,h1,h2,?_⟩
 rcases h3 with h3|⟨b,off,rfl,hr⟩
 ·exact .inl h3
 ·exact .inr ⟨b,off,rfl,hr.below hb⟩
theorem zb9.len{w:World}{v:Value}{ws:List ByteArray}(h:zb9 w v ws):∃a cap,v= .slice a ws.length cap∧ws.length≤cap:=by
 obtain⟨a,len,cap,rfl,rfl,h2,_⟩:=h
 exact⟨a,cap,rfl,h2⟩
theorem zb9.row{w:World}{a:Option Addr}{cap n:Nat}{ws:List ByteArray}(h:zb9 w (.slice a n cap) ws)(hp:0<n):∃b off,a=some ⟨b,off,none⟩∧Strs w b off ws:=by
 obtain⟨a',len,cap',he,h1,h2,h3⟩:=h
 simp only[Value.slice.injEq]at he
 obtain⟨rfl,rfl,rfl⟩:=he
 rcases h3 with h3|h3
 ·omega
 ·exact h3
def znb(ws:List ByteArray):List Value:=ws.map Value.string
def qcd(w:World)(base:Nat)(v:Value)(ws:List ByteArray):Prop:=w.ownsRow base 9 1 v ws.length (znb ws)
theorem zz9(w:World)(base:Nat):qcd w base (.slice none 0 0) []:=World.ownsRow_nil _ _ _ _
theorem qcd.lst{w:World}{base:Nat}{v:Value}{ws:List ByteArray}(h:qcd w base v ws):zb9 w v ws:=by
 have h':=h
 obtain⟨_,h2⟩:=h
 rcases h2 with⟨rfl,hn⟩|⟨g,cap,cur,rfl,hb,hg,hnc,_⟩
 ·exact⟨none,0,0,rfl,hn,Nat.le_refl _,.inl rfl⟩
 ·refine⟨_,_,_,rfl,rfl,hnc,.inr ⟨g,0,rfl,(Array.getElem?_eq_some_iff.1 hg).1,fun i hi=> ?_⟩⟩
  rw[Nat.zero_add,World.ownsRow.cellAt h' i (by omega)]
  unfold znb
  rw[List.getElem?_map,List.getElem?_eq_getElem hi]
  rfl
theorem qcd.below{w w':World}{base:Nat}{v:Value}{ws:List ByteArray}(h:qcd w base v ws)(hb:Below w.heap.size w w'):qcd w' base v ws:=zeh h hb
theorem zxd:(Tryz.prog.info? 9).map (fun i=>(i.zero,i.size,i.bytes))=some (some (.string ⟨#[]⟩),1,16):=by kernel_rfl
theorem znn(w:World)(s:ByteArray):∀j u,([Value.string s])[j]? =some u→(w.alloc (.cells #[.string s] 9)).cell? ((⟨w.heap.size,0,none⟩:Addr).add j)=some u:=by
 intro j u hj
 match j,hj with
 | 0,hj=>simp at hj;subst hj;simp[Addr.add,go_sem]
theorem zf5(a b:List UInt8):bl a++bl b=bl (a++b):=by
 have:=zjk (bl a++bl b)
 rw[zif,zhf,zhf]at this
 exact this.symm
theorem zd9(a:List UInt8):(bl a).size=a.length:=by
 show a.toArray.size=_
 simp
theorem zxs(s:ByteArray)(k:Nat)(h:k<s.size):s.extract k (k+1)=bl [s[k]]:=by
 have e:=zjk (s.extract k (k+1))
 rw[←e]
 congr 1
 rw[ByteArray.data_extract]
 apply List.ext_getElem?
 intro i
 rw[Array.getElem?_toList,Array.getElem?_extract]
 have hs:s.data.size=s.size:=rfl
 cases i with
 |zero=>
  rw[if_pos (by omega)]
  simp[hs,h]
  rfl
 |succ i=>
  rw[if_neg (by omega)]
  simp
structure zed(L:List UInt8)(k:Nat)(done:List (List UInt8))(acc:List UInt8):Prop where
 go:k≤L.length→done++zba acc (L.drop k)=zb0 L
 ended:L.length<k→done=zb0 L
 la:acc.length≤k
 ld:done.length≤k
theorem zrn(L:List UInt8):zed L 0 [] []:=⟨fun _=>rfl,fun h=>absurd h (Nat.not_lt_zero _),Nat.le_refl _,Nat.le_refl _⟩
theorem zed.letter{L:List UInt8}{k:Nat}{done:List (List UInt8)}{acc:List UInt8}(h:zed L k done acc)(hk:k<L.length)(hb:L[k]≠32):zed L (k+1) done (acc++[L[k]]):=by
 refine⟨fun _=> ?_,fun h'=>by omega,by rw[List.length_append];have:=h.la;simp;omega,by have:=h.ld;omega⟩
 have:=h.go (by omega)
 rw[List.drop_eq_getElem_cons hk,zba,if_neg hb]at this
 exact this
theorem zed.blank{L:List UInt8}{k:Nat}{done:List (List UInt8)}{acc:List UInt8}(h:zed L k done acc)(hk:k<L.length)(hb:L[k]=32):zed L (k+1) (if acc=[]then done else done++[acc]) []:=by
 refine⟨fun _=> ?_,fun h'=>by omega,Nat.zero_le _,?_⟩
 ·have:=h.go (by omega)
  rw[List.drop_eq_getElem_cons hk,zba,if_pos hb]at this
  by_cases c:acc=[]
  ·rw[if_pos c]at this⊢;exact this
  ·rw[if_neg c]at this⊢
   rw[List.append_assoc]
   exact this
 ·have:=h.ld
  split
  ·omega
  ·rw[List.length_append];simp;omega
theorem zed.last{L:List UInt8}{done:List (List UInt8)}{acc:List UInt8}(h:zed L L.length done acc):zed L (L.length+1) (if acc=[]then done else done++[acc]) []:=by
 refine⟨fun h'=>by omega,fun _=> ?_,Nat.zero_le _,?_⟩
 ·have:=h.go (Nat.le_refl _)
  rw[List.drop_length,zba]at this
  by_cases c:acc=[]
  ·rw[if_pos c]at this⊢;simpa using this
  ·rw[if_neg c]at this⊢;exact this
 ·have:=h.ld
  split
  ·omega
  ·rw[List.length_append];simp;omega
structure WoI(w:World)(v:Value)(ws:List ByteArray)(wk:World):Prop where
 below:Below w.heap.size w wk
 own:qcd wk w.heap.size v ws
theorem WoI.after{w wk w':World}{v:Value}{ws:List ByteArray}(h:WoI w v ws wk)(hb:Below wk.heap.size wk w'):WoI w v ws w':=⟨bla h.below hb,h.own.below hb⟩
theorem WoI.grown{w wr w2:World}{v v':Value}{ws:List ByteArray}{z:ByteArray}(h:WoI w v ws wr)(ho:w2.ownsRow w.heap.size 9 1 v' (ws.length+1) (znb ws++[.string z]))(hg:wr.grownBy w2 v.ownBlock):WoI w v' (ws++[z]) w2:=by
 refine⟨h.below.grown hg (by have:=h.below.size;omega) (fun j hj=>(World.ownsRow.lt h.own j hj).1),?_⟩
 unfold qcd znb
 rw[List.map_append,List.length_append]
 exact ho
theorem bl_ne{a:List UInt8}(h:a≠[]):bl a≠⟨#[]⟩:=fun e=>h (zpq (b:=[]) e)
theorem qcj(s:ByteArray)(w:World)(hs:s.size≤100000):
 Calls Tryz.prog 33 #[.string s] w fun e w'=>∃v,e= .returned v∧qcd w' w.heap.size v ((zb0 s.data.toList).map bl)∧Below w.heap.size w w':=by
 obtain⟨i0,hi,hz0,hz1,hz2⟩:=info_parts zxd
 go_enter Tryz.func33,Tryz.ntmps33
 go_wp2
 go_loopw [3,4,5] (fun v u i wr=>∃(k:Nat) (done:List (List UInt8)) (acc:List UInt8),k≤s.size+1∧u= .string (bl acc)∧i= .int .i64 k∧Hid (zed s.data.toList k done acc)∧Hid (WoI w v (done.map bl) wr)) (fun _ _ i _=>s.size+1-(intOf i).toNat)
 case atStart=>exact⟨0,[],[],by omega,rfl,rfl,zrn _,Below.refl _ _,zz9 _ _⟩
 case round=>
  obtain⟨k,done,acc,hk,rfl,rfl,HT,HW⟩:=hrel
  have hla:(bl acc).size≤100001:=by rw[zd9];have:=HT.out.la;omega
  have HLD:Hid (done.length≤100001):=by show _≤_;have:=HT.out.ld;omega
  have HDL:Hid ((done.map bl).length≤100001):=by show _≤_;rw[List.length_map];exact HLD.out
  by_cases hlt:k≤s.size
  ·have hki:(k:Int)≤(s.size:Int):=by omega
   by_cases hk2:k<s.size
   ·have hk2i:(k:Int)<(s.size:Int):=by omega
    have hkd:k<s.data.toList.length:=hk2
    by_cases h32:s[k]=32
    ·have HB:Hid (zed s.data.toList (k+1) (if acc=[]then done else done++[acc]) []):=HT.out.blank hkd (by rw[qfr s k hk2];exact h32)
     have hbb:((s[k].toNat:Int)==32)=true:=by rw[h32];rfl
     have hbn:(s[k].toNat:Int)=32:=by rw[h32];rfl
     by_cases hacc:acc=[]
     ·subst hacc
      rw[if_pos rfl]at HB
      go_wp2
      go_roundw
      case rel=>exact⟨k+1,done,[],by omega,rfl,by go_num,HB.out,HW.out⟩
      case measure=>simp[intOf];omega
     ·rw[if_neg hacc]at HB
      have hne:bl acc≠⟨#[]⟩:=bl_ne hacc
      have hneb:((bl acc).toList==([]:List UInt8))=false:=by rw[zbk];simpa using hne
      have HW2:Hid (WoI w u3 (done.map bl) (wr.alloc (.cells #[.string (bl acc)] 9))):=HW.out.after (za1 _ _)
      obtain⟨sw,hsw⟩:∃sw,bl acc=sw:=⟨_,rfl⟩
      rw[hsw]at hla hne hneb HW2⊢
      have HSW:Hid (bl acc=sw):=hsw
      clear hacc hsw
      go_wp2_with (at_builtin;refine wpList_append_own _ rfl (.tmp 31) (.tmp 33) 22 rfl w.heap.size 9 i0 (.string ⟨#[]⟩) 1 16 Tryz.underlying22 hi hz0 hz1 hz2 rfl (by decide) u3 (done.map bl).length (znb (done.map bl)) rfl HW2.out.own ⟨wr.heap.size,0,none⟩ 1 1 [.string sw] (by simp[go_sem]) rfl (znn _ _) ?c2 ?c3 ?c4 ?c5 ?_)
      case c2=>intro u hu;simp at hu;subst hu;rfl
      case c3=>have:=HDL.out;unfold maxLen;omega
      case c4=>have:=HDL.out;omega
      case c5=>exact HW2.out.below.size
      ·intro v' w2 hown' hgrow _
       have H2:Hid (WoI w v' ((done++[acc]).map bl) w2):=by
        show WoI _ _ _ _
        rw[List.map_append]
        have:=HW2.out.grown (by rw[List.length_map];exact hown') hgrow
        rw[←HSW.out]at this
        exact this
       clear hgrow hown' HW HW2 hla hne hneb
       go_wp2
       go_roundw
       case rel=>exact⟨k+1,done++[acc],[],by omega,rfl,by go_num,HB.out,H2.out⟩
       case measure=>simp[intOf];omega
    ·have HB:Hid (zed s.data.toList (k+1) done (acc++[s[k]])):=by have:=HT.out.letter hkd (by rw[qfr s k hk2];exact h32);rw[qfr s k hk2]at this;exact this
     have hbb:((s[k].toNat:Int)==32)=false:=by
      simp
      intro e
      exact h32 (UInt8.toNat_inj.1 (by simpa using(by omega:s[k].toNat=32)))
     have hex:s.extract k (k+1)=bl [s[k]]:=zxs s k hk2
     have HAP:Hid (bl acc++bl [s[k]]=bl (acc++[s[k]])):=zf5 _ _
     have hz1':(bl [s[k]]).size=1:=zd9 _
     go_wp2
     go_roundw
     case rel=>exact⟨k+1,done,acc++[s[k]],by omega,by rw[←HAP.out],by go_num,HB.out,HW.out⟩
     case measure=>simp[intOf];omega
   ·obtain rfl:k=s.size:=by omega
    have HB:Hid (zed s.data.toList (s.size+1) (if acc=[]then done else done++[acc]) []):=zed.last (L:=s.data.toList) HT.out
    by_cases hacc:acc=[]
    ·subst hacc
     rw[if_pos rfl]at HB
     go_wp2
     go_roundw
     case rel=>exact⟨s.size+1,done,[],by omega,rfl,by go_num,HB.out,HW.out⟩
     case measure=>simp[intOf]
    ·rw[if_neg hacc]at HB
     have hne:bl acc≠⟨#[]⟩:=bl_ne hacc
     have hneb:((bl acc).toList==([]:List UInt8))=false:=by rw[zbk];simpa using hne
     have HW2:Hid (WoI w u3 (done.map bl) (wr.alloc (.cells #[.string (bl acc)] 9))):=HW.out.after (za1 _ _)
     obtain⟨sw,hsw⟩:∃sw,bl acc=sw:=⟨_,rfl⟩
     rw[hsw]at hla hne hneb HW2⊢
     have HSW:Hid (bl acc=sw):=hsw
     clear hacc hsw
     go_wp2_with (at_builtin;refine wpList_append_own _ rfl (.tmp 31) (.tmp 33) 22 rfl w.heap.size 9 i0 (.string ⟨#[]⟩) 1 16 Tryz.underlying22 hi hz0 hz1 hz2 rfl (by decide) u3 (done.map bl).length (znb (done.map bl)) rfl HW2.out.own ⟨wr.heap.size,0,none⟩ 1 1 [.string sw] (by simp[go_sem]) rfl (znn _ _) ?c2 ?c3 ?c4 ?c5 ?_)
     case c2=>intro u hu;simp at hu;subst hu;rfl
     case c3=>have:=HDL.out;unfold maxLen;omega
     case c4=>have:=HDL.out;omega
     case c5=>exact HW2.out.below.size
     ·intro v' w2 hown' hgrow _
      have H2:Hid (WoI w v' ((done++[acc]).map bl) w2):=by
       show WoI _ _ _ _
       rw[List.map_append]
       have:=HW2.out.grown (by rw[List.length_map];exact hown') hgrow
       rw[←HSW.out]at this
       exact this
      clear hgrow hown' HW HW2 hla hne hneb
      go_wp2
      go_roundw
      case rel=>exact⟨s.size+1,done++[acc],[],by omega,rfl,by go_num,HB.out,H2.out⟩
      case measure=>simp[intOf]
  ·obtain rfl:k=s.size+1:=by omega
   have HE:Hid (done=zb0 s.data.toList):=HT.out.ended (Nat.lt_succ_self _)
   have hno:decide (((s.size+1:Nat):Int)≤(s.size:Int))=false:=decide_eq_false (by omega)
   go_wp2
   go_ret
   exact⟨u3,rfl,by rw[←HE.out];exact HW.out.own,HW.out.below⟩
end Go.Proofs.YtcbnnfeelhlapadGreatDoor
namespace Go.Proofs.YtcbnnfeelhlapadGreatDoor
set_option maxHeartbeats 3200000
open Go Go.RowKit
def Rdy(base:Nat)(w:World):Prop:=∃w0,w0.heap.size=base∧zbz w0∧Below w0.heap.size w0 w
theorem Rdy.ready{base:Nat}{w:World}(h:Rdy base w):zbz w:=by
 obtain⟨w0,_,h1,h2⟩:=h
 exact h1.below h2
theorem Rdy.kept{base:Nat}{w w':World}{S:Nat→Prop}(h:Rdy base w)(hk:zak S w w')(hS:∀k,S k→base≤k):Rdy base w':=by
 obtain⟨w0,rfl,h1,h2⟩:=h
 exact⟨w0,rfl,h1,h2.trans (hk.below hS h2.size)⟩
theorem Rdy.after{base:Nat}{w w':World}(h:Rdy base w)(hb:Below w.heap.size w w'):Rdy base w':=h.kept (S:=fun _=>False) (.of_below hb) (fun _ e=>e.elim)
abbrev nlS:ByteArray:=⟨#[10]⟩
end Go.Proofs.YtcbnnfeelhlapadGreatDoor
namespace Go.Proofs.YtcbnnfeelhlapadGreatDoor
set_option maxHeartbeats 3200000
open Go.RowKit
def Th.book(base B:Nat)(b:Bk):Th base:=
 ⟨fun w S=>∃dv,zas w base S B dv b,fun _ h hk hd=>by obtain⟨dv,h⟩:=h;exact⟨dv,h.kept hk hd⟩,fun h hT hl=>by obtain⟨dv,h⟩:=h;exact⟨dv,h.mono hT hl⟩⟩
def Th.sc(base Q:Nat)(r:Wr):Th base:=
 ⟨fun w S=>∃bv ov,zes w base S Q bv ov r.base r.opens r.me r.seen r.next r.sent,fun _ h hk hd=>by obtain⟨bv,ov,h⟩:=h;exact⟨bv,ov,h.kept hk hd⟩,fun h hT hl=>by obtain⟨bv,ov,h⟩:=h;exact⟨bv,ov,h.mono hT hl⟩⟩
end Go.Proofs.YtcbnnfeelhlapadGreatDoor