/-
  The contracts of the document's LineOf, word, number and DeedOf: they answer as Line and Parse do.
-/
import Derived.Test.YtnnfddemhhpfoaaDoorDFault
import Derived.Test.YtnnfddemhhpfoaaDoorDBack
import Derived.BigRegion
import Derived.RegionTactic
import Derived.ChangeAlike
namespace Go.Proofs.YtnnfddemhhpfoaaDoor
open Go.RowKit

/-- What holds of a world in the middle of LineOf. -/
structure RInv (w : World) (B : Nat) (d : Dd) (wk : World) : Prop where
  below : Below w.heap.size w wk
  ready : Ready wk
  at_ : At7 wk B d

theorem RInv.after {w wk w' : World} {B : Nat} {d : Dd} (h : RInv w B d wk) (hb : Below wk.heap.size wk w') : RInv w B d w' :=
  ⟨below_after h.below hb, h.ready.below hb, h.at_.below hb⟩
theorem RInv.drew {w wk : World} {B : Nat} {d : Dd} (h : RInv w B d wk) : RInv w B d wk.drew := h.after (Below.refl _ _).drew

theorem num_q {w wk : World} {B : Nat} {d : Dd} (h : RInv w B d wk) (n : Int) (hn : inI n) :
    Calls Tryd.prog 14 #[.int .i64 n] wk fun e w' => e = .returned (.string (strI n)) ∧ RInv w B d w' :=
  (num_any n hn wk h.ready).mono fun _ _ ⟨he, hb⟩ => ⟨he, h.after hb⟩

set_option maxHeartbeats 400000 in
theorem lineOf_no (d : Dd) (w : World) (h : checkC d ≠ 0) :
    Calls Tryd.prog 8 #[ddV d] w fun e w' => e = .returned (.tuple #[.string (lineS d), .int .i64 (checkC d)]) ∧ Below w.heap.size w w' := by
  have HS : Hid (lineS d = ⟨#[]⟩) := by show lineS d = _; rw [lineS, if_neg h]
  have hne : (checkC d != 0) = true := by simp [h]
  clear h
  obtain ⟨kind, by_, no, seen, at_, many, text⟩ := d
  go_enter Tryd.func8, Tryd.ntmps8
  go_wp2_with fail
  refine (fault_any ⟨kind, by_, no, seen, at_, many, text⟩ _).mono ?_
  rintro e w1 ⟨rfl, hb⟩
  go_wp2
  go_ret2
  exact ⟨ret_line HS.out.symm rfl, below_after ((Below.refl _ _).alloc (Nat.le_refl _) _) hb⟩

set_option maxHeartbeats 1000000 in
theorem lineOf_put (d : Dd) (w : World) (hw : Ready w) (h : checkC d = 0) (hk : d.kind = 1) :
    Calls Tryd.prog 8 #[ddV d] w fun e w' => e = .returned (.tuple #[.string (lineS d), .int .i64 (checkC d)]) ∧ Below w.heap.size w w' := by
  have HC : Hid (checkC d = 0) := h
  have HW : Hid (Ready w) := hw
  have HI : Hid _ := inI_of h
  have g1 := strI_size HI.out.1
  have g2 := strI_size HI.out.2.1
  have g3 := strI_size HI.out.2.2.1
  have g4 := strI_size HI.out.2.2.2
  have HS : Hid (lineS d = ⟨#[112, 117, 116]⟩ ++ (⟨#[32]⟩ ++ strI d.by_ ++ ⟨#[32]⟩ ++ strI d.no ++ ⟨#[32]⟩ ++ strI d.seen ++ ⟨#[32]⟩ ++ strI d.at_ ++ ⟨#[32]⟩) ++ d.text) := by
    show lineS d = _
    rw [lineS, if_pos h]
    refine ba_ext ?_
    rw [line_put_list hk]
    simp only [data_app, strI_list, putL, joinL]
    simp
  have hts := (printed_size (put_ok h hk).2).2
  obtain ⟨kind, by_, no, seen, at_, many, text⟩ := d
  obtain rfl : kind = 1 := hk
  simp only at g1 g2 g3 g4 hts
  clear hw h
  go_enter Tryd.func8, Tryd.ntmps8
  go_wp2_with fail
  refine (fault_any ⟨_, by_, no, seen, at_, many, text⟩ _).mono ?_
  rintro e w1 ⟨rfl, hb⟩
  rw [HC.out]
  have HL : Hid (RInv w w.heap.size ⟨1, by_, no, seen, at_, many, text⟩ w1) := ⟨below_after ((Below.refl _ _).alloc (Nat.le_refl _) _) hb, HW.out.below (below_after ((Below.refl _ _).alloc (Nat.le_refl _) _) hb), (at7_start w ⟨1, by_, no, seen, at_, many, text⟩).below hb⟩
  clear hb
  go_wp2
  refine wp_region_quiet (C := fun wk => RInv w w.heap.size ⟨1, by_, no, seen, at_, many, text⟩ wk) (by kernel_rfl) (by kernel_rfl) (HL.out.drew) ?_
  refine wpQuiet_step (fun K hK => ?_)
  go_simp
  refine ⟨_, fun _ _ => rfl, hK _ ?_⟩
  clear hK K
  refine wpQuiet_step (fun K hK => ?_)
  go_simp
  refine ⟨.int .i64 by_, fun wk hwk => ?_, hK _ ?_⟩
  · obtain ⟨_, c0, c1, c2, c3, c4, c5, c6⟩ := hwk.at_
    go_simp
  clear hK K
  refine wpQuiet_step (fun K hK => ?_)
  go_simp
  refine ⟨_, fun wk hwk => num_q hwk by_ HI.out.1, hK _ ?_⟩
  clear hK K
  refine wpQuiet_step (fun K hK => ?_)
  go_simp
  refine ⟨.string (⟨#[32]⟩ ++ strI by_), fun wk _ => ?_, hK _ ?_⟩
  · rw [if_neg (by omega)]
    exact ⟨rfl, rfl⟩
  clear hK K
  refine wpQuiet_step (fun K hK => ?_)
  go_simp
  refine ⟨.string (⟨#[32]⟩ ++ strI by_ ++ ⟨#[32]⟩), fun wk _ => ?_, hK _ ?_⟩
  · rw [if_neg (by omega)]
    exact ⟨rfl, rfl⟩
  clear hK K
  refine wpQuiet_step (fun K hK => ?_)
  go_simp
  refine ⟨_, fun _ _ => rfl, hK _ ?_⟩
  clear hK K
  refine wpQuiet_step (fun K hK => ?_)
  go_simp
  refine ⟨.int .i64 no, fun wk hwk => ?_, hK _ ?_⟩
  · obtain ⟨_, c0, c1, c2, c3, c4, c5, c6⟩ := hwk.at_
    go_simp
  clear hK K
  refine wpQuiet_step (fun K hK => ?_)
  go_simp
  refine ⟨_, fun wk hwk => num_q hwk no HI.out.2.1, hK _ ?_⟩
  clear hK K
  refine wpQuiet_step (fun K hK => ?_)
  go_simp
  refine ⟨.string (⟨#[32]⟩ ++ strI by_ ++ ⟨#[32]⟩ ++ strI no), fun wk _ => ?_, hK _ ?_⟩
  · rw [if_neg (by omega)]
    exact ⟨rfl, rfl⟩
  clear hK K
  refine wpQuiet_step (fun K hK => ?_)
  go_simp
  refine ⟨.string (⟨#[32]⟩ ++ strI by_ ++ ⟨#[32]⟩ ++ strI no ++ ⟨#[32]⟩), fun wk _ => ?_, hK _ ?_⟩
  · rw [if_neg (by omega)]
    exact ⟨rfl, rfl⟩
  clear hK K
  refine wpQuiet_step (fun K hK => ?_)
  go_simp
  refine ⟨_, fun _ _ => rfl, hK _ ?_⟩
  clear hK K
  refine wpQuiet_step (fun K hK => ?_)
  go_simp
  refine ⟨.int .i64 seen, fun wk hwk => ?_, hK _ ?_⟩
  · obtain ⟨_, c0, c1, c2, c3, c4, c5, c6⟩ := hwk.at_
    go_simp
  clear hK K
  refine wpQuiet_step (fun K hK => ?_)
  go_simp
  refine ⟨_, fun wk hwk => num_q hwk seen HI.out.2.2.1, hK _ ?_⟩
  clear hK K
  refine wpQuiet_step (fun K hK => ?_)
  go_simp
  refine ⟨.string (⟨#[32]⟩ ++ strI by_ ++ ⟨#[32]⟩ ++ strI no ++ ⟨#[32]⟩ ++ strI seen), fun wk _ => ?_, hK _ ?_⟩
  · rw [if_neg (by omega)]
    exact ⟨rfl, rfl⟩
  clear hK K
  refine wpQuiet_step (fun K hK => ?_)
  go_simp
  refine ⟨.string (⟨#[32]⟩ ++ strI by_ ++ ⟨#[32]⟩ ++ strI no ++ ⟨#[32]⟩ ++ strI seen ++ ⟨#[32]⟩), fun wk _ => ?_, hK _ ?_⟩
  · rw [if_neg (by omega)]
    exact ⟨rfl, rfl⟩
  clear hK K
  refine wpQuiet_step (fun K hK => ?_)
  go_simp
  refine ⟨_, fun _ _ => rfl, hK _ ?_⟩
  clear hK K
  refine wpQuiet_step (fun K hK => ?_)
  go_simp
  refine ⟨.int .i64 at_, fun wk hwk => ?_, hK _ ?_⟩
  · obtain ⟨_, c0, c1, c2, c3, c4, c5, c6⟩ := hwk.at_
    go_simp
  clear hK K
  refine wpQuiet_step (fun K hK => ?_)
  go_simp
  refine ⟨_, fun wk hwk => num_q hwk at_ HI.out.2.2.2, hK _ ?_⟩
  clear hK K
  refine wpQuiet_step (fun K hK => ?_)
  go_simp
  refine ⟨.string (⟨#[32]⟩ ++ strI by_ ++ ⟨#[32]⟩ ++ strI no ++ ⟨#[32]⟩ ++ strI seen ++ ⟨#[32]⟩ ++ strI at_), fun wk _ => ?_, hK _ ?_⟩
  · rw [if_neg (by omega)]
    exact ⟨rfl, rfl⟩
  clear hK K
  refine wpQuiet_step (fun K hK => ?_)
  go_simp
  refine ⟨.string (⟨#[32]⟩ ++ strI by_ ++ ⟨#[32]⟩ ++ strI no ++ ⟨#[32]⟩ ++ strI seen ++ ⟨#[32]⟩ ++ strI at_ ++ ⟨#[32]⟩), fun wk _ => ?_, hK _ ?_⟩
  · rw [if_neg (by omega)]
    exact ⟨rfl, rfl⟩
  clear hK K
  refine wpQuiet_step (fun K hK => ?_)
  go_simp
  refine ⟨_, fun _ _ => rfl, hK _ ?_⟩
  clear hK K
  refine wpQuiet_nil ?_
  intro w2 hw2
  have HB2 : Hid (Below w.heap.size w w2) := hw2.below
  obtain ⟨_, c0, c1, c2, c3, c4, c5, c6⟩ := hw2.at_
  clear hw2
  go_wp2
  go_ret2
  exact ⟨ret_line HS.out.symm HC.out.symm, HB2.out⟩

set_option maxHeartbeats 1000000 in
theorem lineOf_take (d : Dd) (w : World) (hw : Ready w) (h : checkC d = 0) (hk : d.kind ≠ 1) :
    Calls Tryd.prog 8 #[ddV d] w fun e w' => e = .returned (.tuple #[.string (lineS d), .int .i64 (checkC d)]) ∧ Below w.heap.size w w' := by
  have HC : Hid (checkC d = 0) := h
  have HW : Hid (Ready w) := hw
  have HI : Hid _ := inI_of h
  have g1 := strI_size HI.out.1
  have g2 := strI_size HI.out.2.1
  have g3 := strI_size HI.out.2.2.1
  have g4 := strI_size HI.out.2.2.2
  have HS : Hid (lineS d = ⟨#[116, 97, 107, 101]⟩ ++ (⟨#[32]⟩ ++ strI d.by_ ++ ⟨#[32]⟩ ++ strI d.no ++ ⟨#[32]⟩ ++ strI d.seen ++ ⟨#[32]⟩ ++ strI d.at_ ++ ⟨#[32]⟩) ++ strI d.many) := by
    show lineS d = _
    rw [lineS, if_pos h]
    refine ba_ext ?_
    rw [line_take_list hk]
    simp only [data_app, strI_list, takeL, joinL]
    simp
  obtain ⟨hk2, _, hm1, hm2⟩ := take_ok h hk
  have HM : Hid (inI d.many) := by show inI d.many; unfold inI; omega
  have g5 := strI_size HM.out
  obtain ⟨kind, by_, no, seen, at_, many, text⟩ := d
  obtain rfl : kind = 2 := hk2
  simp only at g1 g2 g3 g4 g5
  clear hk hm1 hm2
  clear hw h
  go_enter Tryd.func8, Tryd.ntmps8
  go_wp2_with fail
  refine (fault_any ⟨_, by_, no, seen, at_, many, text⟩ _).mono ?_
  rintro e w1 ⟨rfl, hb⟩
  rw [HC.out]
  have HL : Hid (RInv w w.heap.size ⟨2, by_, no, seen, at_, many, text⟩ w1) := ⟨below_after ((Below.refl _ _).alloc (Nat.le_refl _) _) hb, HW.out.below (below_after ((Below.refl _ _).alloc (Nat.le_refl _) _) hb), (at7_start w ⟨2, by_, no, seen, at_, many, text⟩).below hb⟩
  clear hb
  go_wp2
  refine wp_region_quiet (C := fun wk => RInv w w.heap.size ⟨2, by_, no, seen, at_, many, text⟩ wk) (by kernel_rfl) (by kernel_rfl) (HL.out.drew) ?_
  refine wpQuiet_step (fun K hK => ?_)
  go_simp
  refine ⟨_, fun _ _ => rfl, hK _ ?_⟩
  clear hK K
  refine wpQuiet_step (fun K hK => ?_)
  go_simp
  refine ⟨.int .i64 by_, fun wk hwk => ?_, hK _ ?_⟩
  · obtain ⟨_, c0, c1, c2, c3, c4, c5, c6⟩ := hwk.at_
    go_simp
  clear hK K
  refine wpQuiet_step (fun K hK => ?_)
  go_simp
  refine ⟨_, fun wk hwk => num_q hwk by_ HI.out.1, hK _ ?_⟩
  clear hK K
  refine wpQuiet_step (fun K hK => ?_)
  go_simp
  refine ⟨.string (⟨#[32]⟩ ++ strI by_), fun wk _ => ?_, hK _ ?_⟩
  · rw [if_neg (by omega)]
    exact ⟨rfl, rfl⟩
  clear hK K
  refine wpQuiet_step (fun K hK => ?_)
  go_simp
  refine ⟨.string (⟨#[32]⟩ ++ strI by_ ++ ⟨#[32]⟩), fun wk _ => ?_, hK _ ?_⟩
  · rw [if_neg (by omega)]
    exact ⟨rfl, rfl⟩
  clear hK K
  refine wpQuiet_step (fun K hK => ?_)
  go_simp
  refine ⟨_, fun _ _ => rfl, hK _ ?_⟩
  clear hK K
  refine wpQuiet_step (fun K hK => ?_)
  go_simp
  refine ⟨.int .i64 no, fun wk hwk => ?_, hK _ ?_⟩
  · obtain ⟨_, c0, c1, c2, c3, c4, c5, c6⟩ := hwk.at_
    go_simp
  clear hK K
  refine wpQuiet_step (fun K hK => ?_)
  go_simp
  refine ⟨_, fun wk hwk => num_q hwk no HI.out.2.1, hK _ ?_⟩
  clear hK K
  refine wpQuiet_step (fun K hK => ?_)
  go_simp
  refine ⟨.string (⟨#[32]⟩ ++ strI by_ ++ ⟨#[32]⟩ ++ strI no), fun wk _ => ?_, hK _ ?_⟩
  · rw [if_neg (by omega)]
    exact ⟨rfl, rfl⟩
  clear hK K
  refine wpQuiet_step (fun K hK => ?_)
  go_simp
  refine ⟨.string (⟨#[32]⟩ ++ strI by_ ++ ⟨#[32]⟩ ++ strI no ++ ⟨#[32]⟩), fun wk _ => ?_, hK _ ?_⟩
  · rw [if_neg (by omega)]
    exact ⟨rfl, rfl⟩
  clear hK K
  refine wpQuiet_step (fun K hK => ?_)
  go_simp
  refine ⟨_, fun _ _ => rfl, hK _ ?_⟩
  clear hK K
  refine wpQuiet_step (fun K hK => ?_)
  go_simp
  refine ⟨.int .i64 seen, fun wk hwk => ?_, hK _ ?_⟩
  · obtain ⟨_, c0, c1, c2, c3, c4, c5, c6⟩ := hwk.at_
    go_simp
  clear hK K
  refine wpQuiet_step (fun K hK => ?_)
  go_simp
  refine ⟨_, fun wk hwk => num_q hwk seen HI.out.2.2.1, hK _ ?_⟩
  clear hK K
  refine wpQuiet_step (fun K hK => ?_)
  go_simp
  refine ⟨.string (⟨#[32]⟩ ++ strI by_ ++ ⟨#[32]⟩ ++ strI no ++ ⟨#[32]⟩ ++ strI seen), fun wk _ => ?_, hK _ ?_⟩
  · rw [if_neg (by omega)]
    exact ⟨rfl, rfl⟩
  clear hK K
  refine wpQuiet_step (fun K hK => ?_)
  go_simp
  refine ⟨.string (⟨#[32]⟩ ++ strI by_ ++ ⟨#[32]⟩ ++ strI no ++ ⟨#[32]⟩ ++ strI seen ++ ⟨#[32]⟩), fun wk _ => ?_, hK _ ?_⟩
  · rw [if_neg (by omega)]
    exact ⟨rfl, rfl⟩
  clear hK K
  refine wpQuiet_step (fun K hK => ?_)
  go_simp
  refine ⟨_, fun _ _ => rfl, hK _ ?_⟩
  clear hK K
  refine wpQuiet_step (fun K hK => ?_)
  go_simp
  refine ⟨.int .i64 at_, fun wk hwk => ?_, hK _ ?_⟩
  · obtain ⟨_, c0, c1, c2, c3, c4, c5, c6⟩ := hwk.at_
    go_simp
  clear hK K
  refine wpQuiet_step (fun K hK => ?_)
  go_simp
  refine ⟨_, fun wk hwk => num_q hwk at_ HI.out.2.2.2, hK _ ?_⟩
  clear hK K
  refine wpQuiet_step (fun K hK => ?_)
  go_simp
  refine ⟨.string (⟨#[32]⟩ ++ strI by_ ++ ⟨#[32]⟩ ++ strI no ++ ⟨#[32]⟩ ++ strI seen ++ ⟨#[32]⟩ ++ strI at_), fun wk _ => ?_, hK _ ?_⟩
  · rw [if_neg (by omega)]
    exact ⟨rfl, rfl⟩
  clear hK K
  refine wpQuiet_step (fun K hK => ?_)
  go_simp
  refine ⟨.string (⟨#[32]⟩ ++ strI by_ ++ ⟨#[32]⟩ ++ strI no ++ ⟨#[32]⟩ ++ strI seen ++ ⟨#[32]⟩ ++ strI at_ ++ ⟨#[32]⟩), fun wk _ => ?_, hK _ ?_⟩
  · rw [if_neg (by omega)]
    exact ⟨rfl, rfl⟩
  clear hK K
  refine wpQuiet_step (fun K hK => ?_)
  go_simp
  refine ⟨_, fun _ _ => rfl, hK _ ?_⟩
  clear hK K
  refine wpQuiet_nil ?_
  intro w2 hw2
  obtain ⟨_, c0, c1, c2, c3, c4, c5, c6⟩ := hw2.at_
  have HW2 : Hid _ := hw2
  clear hw2
  go_wp2_with fail
  clear c0 c1 c2 c3 c4 c5 c6
  refine (num_q HW2.out many HM.out).mono ?_
  rintro e w3 ⟨rfl, hw3⟩
  have HB3 : Hid (Below w.heap.size w w3) := hw3.below
  clear hw3
  go_wp2
  go_ret2
  exact ⟨ret_line HS.out.symm HC.out.symm, HB3.out⟩

theorem lineOf_any (d : Dd) (w : World) (hw : Ready w) :
    Calls Tryd.prog 8 #[ddV d] w fun e w' => e = .returned (.tuple #[.string (lineS d), .int .i64 (checkC d)]) ∧ Below w.heap.size w w' := by
  by_cases h : checkC d = 0
  · by_cases hk : d.kind = 1
    · exact lineOf_put d w hw h hk
    · exact lineOf_take d w hw h hk
  · exact lineOf_no d w h

end Go.Proofs.YtnnfddemhhpfoaaDoor
