/-
  The walk of the law DeedOne.
-/
import Derived.Test.YtnnfddemhhpfoaaDoorDBegun
namespace Go.Proofs.YtnnfddemhhpfoaaDoor
open Go.RowKit

theorem line_at {d : Dd} (h : checkC d = 0) (k : Nat) (hk : k < (lineS d).size) : ¬ ((lineS d)[k].toNat : Int) < 32 ∧ ¬ 126 < ((lineS d)[k].toNat : Int) := by
  have := line_bytes h (lineS d)[k] (by rw [← getB _ k hk]; exact List.getElem_mem _)
  omega

set_option maxHeartbeats 400000 in
theorem one_great (d : Dd) (w : World) (hw : Ready w) (h : 1000 < d.text.size) :
    Calls Tryd.prog 5 #[ddV d] w fun e w' => e = .returned (.bool true) ∧ Below w.heap.size w w' := by
  have HW : Hid _ := hw
  have HB0 : Hid (Below w.heap.size w (w.alloc (ddObj d))) := (Below.refl _ _).alloc (Nat.le_refl _) _
  have HA0 : Hid _ := at7_start w d
  unfold ddObj at HB0 HA0
  obtain ⟨kind, by_, no, seen, at_, many, text⟩ := d
  clear hw
  simp only at h
  go_enter Tryd.func5, Tryd.ntmps5
  go_wp2_with fail
  refine (begun_any _ (HW.out.below HB0.out)).mono ?_
  rintro e w1 ⟨rfl, hb1⟩
  have HB1 : Hid _ := below_after HB0.out hb1
  obtain ⟨_, c0, c1, c2, c3, c4, c5, c6⟩ := HA0.out.below hb1
  clear hb1
  go_wp2
  go_ret
  exact ⟨rfl, HB1.out⟩

set_option maxHeartbeats 400000 in
theorem one_no (d : Dd) (w : World) (hw : Ready w) (h : d.text.size ≤ 1000) (hc : checkC d ≠ 0) :
    Calls Tryd.prog 5 #[ddV d] w fun e w' => e = .returned (.bool true) ∧ Below w.heap.size w w' := by
  have HW : Hid _ := hw
  have HB0 : Hid (Below w.heap.size w (w.alloc (ddObj d))) := (Below.refl _ _).alloc (Nat.le_refl _) _
  have HA0 : Hid _ := at7_start w d
  have HS : Hid (lineS d = ⟨#[]⟩) := by show lineS d = _; rw [lineS, if_neg hc]
  have hne : (checkC d != 0) = true := by simp [hc]
  unfold ddObj at HB0 HA0
  obtain ⟨kind, by_, no, seen, at_, many, text⟩ := d
  clear hw hc
  simp only at h
  go_enter Tryd.func5, Tryd.ntmps5
  go_wp2_with fail
  refine (begun_any _ (HW.out.below HB0.out)).mono ?_
  rintro e w1 ⟨rfl, hb1⟩
  have HB1 : Hid _ := below_after HB0.out hb1
  have HA1 : Hid _ := HA0.out.below hb1
  obtain ⟨_, c0, c1, c2, c3, c4, c5, c6⟩ := HA1.out
  clear hb1 HA0 HB0
  go_wp2_with fail
  clear c0 c1 c2 c3 c4 c5 c6
  refine (line_any ⟨kind, by_, no, seen, at_, many, text⟩ _ (HW.out.below HB1.out)).mono ?_
  rintro e w2 ⟨rfl, hb2⟩
  have HB2 : Hid _ := below_after HB1.out hb2
  have HA2 : Hid _ := HA1.out.below hb2
  obtain ⟨_, c0, c1, c2, c3, c4, c5, c6⟩ := HA2.out
  clear hb2 HA1 HB1
  rw [HS.out]
  go_wp2_with fail
  clear c0 c1 c2 c3 c4 c5 c6
  refine (check_any ⟨kind, by_, no, seen, at_, many, text⟩ _).mono ?_
  rintro e w3 ⟨rfl, hb3⟩
  have HB3 : Hid _ := below_after HB2.out hb3
  clear hb3
  go_wp2
  go_ret
  exact ⟨rfl, HB3.out⟩

set_option maxHeartbeats 1000000 in
theorem one_put (d : Dd) (w : World) (hw : Ready w) (h : d.text.size ≤ 1000) (hc : checkC d = 0) (hk : d.kind = 1) :
    Calls Tryd.prog 5 #[ddV d] w fun e w' => e = .returned (.bool true) ∧ Below w.heap.size w w' := by
  have HW : Hid _ := hw
  have HB0 : Hid (Below w.heap.size w (w.alloc (ddObj d))) := (Below.refl _ _).alloc (Nat.le_refl _) _
  have HA0 : Hid _ := at7_start w d
  have HC : Hid (checkC d = 0) := hc
  have HT : Hid _ := line_at hc
  have hs8 := line_size hc
  have hs9 := line_size_le hc
  obtain ⟨e4, e5⟩ := line_head_put hc hk
  have hm := (put_ok hc hk).1
  have hp := printed_size (put_ok hc hk).2
  have ht : d.text.toList.isEmpty = false := by rw [ba_isEmpty]; exact decide_eq_false (by omega)
  clear hp
  unfold ddObj at HB0 HA0
  obtain ⟨kind, by_, no, seen, at_, many, text⟩ := d
  obtain rfl : kind = 1 := hk
  clear hw hc
  simp only at hm
  subst hm
  simp only at h ht
  go_enter Tryd.func5, Tryd.ntmps5
  go_wp2_with fail
  refine (begun_any _ (HW.out.below HB0.out)).mono ?_
  rintro e w1 ⟨rfl, hb1⟩
  have HB1 : Hid _ := below_after HB0.out hb1
  have HA1 : Hid _ := HA0.out.below hb1
  obtain ⟨_, c0, c1, c2, c3, c4, c5, c6⟩ := HA1.out
  clear hb1 HA0 HB0
  go_wp2_with fail
  clear c0 c1 c2 c3 c4 c5 c6
  refine (line_any ⟨_, by_, no, seen, at_, 0, text⟩ _ (HW.out.below HB1.out)).mono ?_
  rintro e w2 ⟨rfl, hb2⟩
  have HB2 : Hid _ := below_after HB1.out hb2
  have HA2 : Hid _ := HA1.out.below hb2
  obtain ⟨_, c0, c1, c2, c3, c4, c5, c6⟩ := HA2.out
  clear hb2 HA1 HB1
  rw [HC.out]
  generalize lineS ⟨_, by_, no, seen, at_, 0, text⟩ = s at *
  go_wp2
  go_loop [5] (fun i => ∃ k : Nat, k ≤ s.size ∧ i = .int .i64 k) (fun i => s.size - (intOf i).toNat)
  case atStart => exact ⟨0, Nat.zero_le _, rfl⟩
  case round =>
    obtain ⟨k, hk, rfl⟩ := hrel
    by_cases hlt : k < s.size
    · obtain ⟨t1, t2⟩ := HT.out k hlt
      go_wp2
      go_round
      case rel => exact ⟨k + 1, by omega, by go_num⟩
      case measure => simp [intOf]; omega
    · go_wp2
      go_ret
      exact ⟨rfl, HB2.out⟩

set_option maxHeartbeats 1000000 in
theorem one_take (d : Dd) (w : World) (hw : Ready w) (h : d.text.size ≤ 1000) (hc : checkC d = 0) (hk : d.kind ≠ 1) :
    Calls Tryd.prog 5 #[ddV d] w fun e w' => e = .returned (.bool true) ∧ Below w.heap.size w w' := by
  have HW : Hid _ := hw
  have HB0 : Hid (Below w.heap.size w (w.alloc (ddObj d))) := (Below.refl _ _).alloc (Nat.le_refl _) _
  have HA0 : Hid _ := at7_start w d
  have HC : Hid (checkC d = 0) := hc
  have HT : Hid _ := line_at hc
  have hs8 := line_size hc
  have hs9 := line_size_le hc
  obtain ⟨e4, e5⟩ := line_head_take hc hk
  have hm := (take_ok hc hk).2.2.1
  have ht : d.text.toList.isEmpty = true := by rw [ba_isEmpty]; simp [(take_ok hc hk).2.1]
  unfold ddObj at HB0 HA0
  obtain ⟨kind, by_, no, seen, at_, many, text⟩ := d
  obtain rfl : kind = 2 := (take_ok hc hk).1
  clear hw hc hk
  simp only at h hm ht
  go_enter Tryd.func5, Tryd.ntmps5
  go_wp2_with fail
  refine (begun_any _ (HW.out.below HB0.out)).mono ?_
  rintro e w1 ⟨rfl, hb1⟩
  have HB1 : Hid _ := below_after HB0.out hb1
  have HA1 : Hid _ := HA0.out.below hb1
  obtain ⟨_, c0, c1, c2, c3, c4, c5, c6⟩ := HA1.out
  clear hb1 HA0 HB0
  go_wp2_with fail
  clear c0 c1 c2 c3 c4 c5 c6
  refine (line_any ⟨_, by_, no, seen, at_, many, text⟩ _ (HW.out.below HB1.out)).mono ?_
  rintro e w2 ⟨rfl, hb2⟩
  have HB2 : Hid _ := below_after HB1.out hb2
  have HA2 : Hid _ := HA1.out.below hb2
  obtain ⟨_, c0, c1, c2, c3, c4, c5, c6⟩ := HA2.out
  clear hb2 HA1 HB1
  rw [HC.out]
  generalize lineS ⟨_, by_, no, seen, at_, many, text⟩ = s at *
  go_wp2
  go_loop [5] (fun i => ∃ k : Nat, k ≤ s.size ∧ i = .int .i64 k) (fun i => s.size - (intOf i).toNat)
  case atStart => exact ⟨0, Nat.zero_le _, rfl⟩
  case round =>
    obtain ⟨k, hk, rfl⟩ := hrel
    by_cases hlt : k < s.size
    · obtain ⟨t1, t2⟩ := HT.out k hlt
      go_wp2
      go_round
      case rel => exact ⟨k + 1, by omega, by go_num⟩
      case measure => simp [intOf]; omega
    · go_wp2
      go_ret
      exact ⟨rfl, HB2.out⟩

theorem law_one (d : Dd) (w : World) (hw : Ready w) :
    Calls Tryd.prog 5 #[ddV d] w fun e w' => e = .returned (.bool true) ∧ Below w.heap.size w w' := by
  by_cases h : d.text.size ≤ 1000
  · by_cases hc : checkC d = 0
    · by_cases hk : d.kind = 1
      · exact one_put d w hw h hc hk
      · exact one_take d w hw h hc hk
    · exact one_no d w hw h hc
  · exact one_great d w hw (by omega)

end Go.Proofs.YtnnfddemhhpfoaaDoor
