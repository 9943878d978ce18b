/-
  The contract of Parse (package deed).
-/
import Derived.Test.YtnnfddemhhpfoaaDoorDWord
namespace Go.Proofs.YtnnfddemhhpfoaaDoor
open Go.RowKit

abbrev spS : ByteArray := ⟨#[32]⟩

/-- The words of a line: cut at the first five blanks. -/
def sixOf (s : ByteArray) : List ByteArray := Lib.splitB spS 0 (min 6 (s.size + 1) - 1) s

def ofSix : List ByteArray → Option Dd
  | [a0, a1, a2, a3, a4, a5] => wordD a0 a1 a2 a3 a4 a5
  | _ => none

def parseD (s : ByteArray) : Option Dd := ofSix (sixOf s)
def codeD : Option Dd → Int
  | none => 3
  | some d => checkC d
def valD : Option Dd → Dd
  | none => zeroD
  | some d => if checkC d = 0 then d else zeroD

theorem split_small : ∀ (k : Nat) (s : ByteArray), ∀ x ∈ Lib.splitB spS 0 k s, x.size ≤ s.size
  | 0, s, x, h => by
    rw [Lib.splitB_zero] at h
    simp at h
    rw [h]
    exact Nat.le_refl _
  | k + 1, s, x, h => by
    rw [Lib.splitB] at h
    split at h
    · simp at h
      rw [h]
      exact Nat.le_refl _
    · rw [List.mem_cons] at h
      rcases h with rfl | h
      · simp [ByteArray.size_extract]
        omega
      · have := split_small k _ x h
        simp [ByteArray.size_extract] at this
        omega

theorem six_small {s : ByteArray} {a0 a1 a2 a3 a4 a5 : ByteArray} (h : sixOf s = [a0, a1, a2, a3, a4, a5]) (hs : s.size ≤ 1000) : ∀ x ∈ [a1, a2, a3, a4, a5], x.size ≤ 281474976710656 := by
  intro x hx
  have : x ∈ Lib.splitB spS 0 (min 6 (s.size + 1) - 1) s := by
    show x ∈ sixOf s
    rw [h]
    exact List.mem_cons_of_mem _ hx
  have := split_small _ s x this
  omega

theorem six_min {s : ByteArray} (h : (sixOf s).length = 6) : min 6 (s.size + 1) = 6 := by
  have := Lib.splitB_length_le spS 0 (min 6 (s.size + 1) - 1) s
  unfold sixOf at h
  omega

theorem list_six {α : Type} : ∀ {l : List α}, l.length = 6 → ∃ a0 a1 a2 a3 a4 a5, l = [a0, a1, a2, a3, a4, a5]
  | [a0, a1, a2, a3, a4, a5], _ => ⟨a0, a1, a2, a3, a4, a5, rfl⟩
  | [], h => by simp at h
  | [_], h => by simp at h
  | [_, _], h => by simp at h
  | [_, _, _], h => by simp at h
  | [_, _, _, _], h => by simp at h
  | [_, _, _, _, _], h => by simp at h
  | _ :: _ :: _ :: _ :: _ :: _ :: _ :: _, h => by simp at h

theorem ofSix_no {l : List ByteArray} (h : l.length ≠ 6) : ofSix l = none := by
  unfold ofSix
  split
  · simp at h
  · rfl

theorem strs_six (w : World) (a0 a1 a2 a3 a4 a5 : ByteArray) : Strs (w.alloc (.cells (Lib.cellsOf [a0, a1, a2, a3, a4, a5] 6) 9)) w.heap.size 0 [a0, a1, a2, a3, a4, a5] := by
  refine ⟨by simp, fun i hi => ?_⟩
  have h6 : i < 6 := hi
  rcases (show i = 0 ∨ i = 1 ∨ i = 2 ∨ i = 3 ∨ i = 4 ∨ i = 5 by omega) with rfl | rfl | rfl | rfl | rfl | rfl <;> simp [go_sem, Lib.cellsOf]

theorem split_any (s : ByteArray) (w : World) (hw : Ready w) (hs : s.size ≤ 1000) :
    Calls Tryd.prog 15 #[.string s, .string ⟨#[32]⟩, .int .i64 6] w fun e w' =>
      e = .returned (.slice (some ⟨w.heap.size, 0, none⟩) (sixOf s).length (min 6 (s.size + 1))) ∧ w' = w.alloc (.cells (Lib.cellsOf (sixOf s) (min 6 (s.size + 1))) 9) := by
  obtain ⟨m, hm⟩ := hw.mx
  exact Tryd.strings_SplitN s ⟨#[32]⟩ 6 m w (by omega) hm (by decide) (by decide) (by decide)

theorem ret_deed {d : Dd} {a : Dd} {c c' : Int} (h1 : a = d) (h2 : c = c') : Ending.returned (.tuple #[ddV a, .int .i64 c]) = .returned (.tuple #[ddV d, .int .i64 c']) := by rw [h1, h2]

set_option maxHeartbeats 400000 in
theorem parse_few (s : ByteArray) (w : World) (hw : Ready w) (hs : s.size ≤ 1000) (h : (sixOf s).length ≠ 6) :
    Calls Tryd.prog 9 #[.string s] w fun e w' => e = .returned (.tuple #[ddV (valD (parseD s)), .int .i64 (codeD (parseD s))]) ∧ Below w.heap.size w w' := by
  have HP : Hid (parseD s = none) := ofSix_no h
  have HW : Hid _ := hw
  have hne : (((sixOf s).length : Int) != 6) = true := by simp; omega
  have HB0 : Hid (Below w.heap.size w (w.alloc (ddObj zeroD))) := (Below.refl _ _).alloc (Nat.le_refl _) _
  have HA0 : Hid _ := at7_start w zeroD
  unfold ddObj zeroD at HB0 HA0
  clear h hw
  go_enter Tryd.func9, Tryd.ntmps9
  go_wp2_with fail
  refine (split_any s _ (HW.out.below HB0.out) hs).mono ?_
  rintro e w1 ⟨rfl, rfl⟩
  go_wp2
  refine deed_end (v := .int .i64 3) rfl (HA0.out.alloc _) rfl rfl rfl ?_
  rw [HP.out]
  exact ⟨rfl, HB0.out.alloc HB0.out.size _⟩

theorem six_world (w : World) (a0 a1 a2 a3 a4 a5 : ByteArray) (hw : Ready w) :
    Hid (Ready ((w.alloc (ddObj zeroD)).alloc (.cells (Lib.cellsOf [a0, a1, a2, a3, a4, a5] 6) 9)) ∧ Strs ((w.alloc (ddObj zeroD)).alloc (.cells (Lib.cellsOf [a0, a1, a2, a3, a4, a5] 6) 9)) (w.heap.size + 1) 0 [a0, a1, a2, a3, a4, a5]
      ∧ At7 ((w.alloc (ddObj zeroD)).alloc (.cells (Lib.cellsOf [a0, a1, a2, a3, a4, a5] 6) 9)) w.heap.size zeroD ∧ Fr7 ((w.alloc (ddObj zeroD)).alloc (.cells (Lib.cellsOf [a0, a1, a2, a3, a4, a5] 6) 9)) w.heap.size
      ∧ Below w.heap.size w ((w.alloc (ddObj zeroD)).alloc (.cells (Lib.cellsOf [a0, a1, a2, a3, a4, a5] 6) 9))) := by
  have h1 : Below w.heap.size w (w.alloc (ddObj zeroD)) := (Below.refl _ _).alloc (Nat.le_refl _) _
  refine ⟨(hw.alloc _).alloc _, ?_, (at7_start w zeroD).alloc _, (fr7_start w zeroD).below (at7_start w zeroD).lt ((Below.refl _ _).alloc (Nat.le_refl _) _), h1.alloc h1.size _⟩
  have := strs_six (w.alloc (ddObj zeroD)) a0 a1 a2 a3 a4 a5
  simpa using this

set_option maxHeartbeats 400000 in
theorem parse_no (s : ByteArray) (w : World) (hw : Ready w) (hs : s.size ≤ 1000) {a0 a1 a2 a3 a4 a5 : ByteArray} (h : sixOf s = [a0, a1, a2, a3, a4, a5]) (hd : wordD a0 a1 a2 a3 a4 a5 = none) :
    Calls Tryd.prog 9 #[.string s] w fun e w' => e = .returned (.tuple #[ddV (valD (parseD s)), .int .i64 (codeD (parseD s))]) ∧ Below w.heap.size w w' := by
  have HP : Hid (parseD s = none) := by show parseD s = none; rw [parseD, h]; exact hd
  have HW : Hid _ := hw
  have hm := six_min (s := s) (by rw [h]; rfl)
  have HZ : Hid _ := six_small h hs
  have H6 := six_world w a0 a1 a2 a3 a4 a5 hw
  have HB0 : Hid (Below w.heap.size w (w.alloc (ddObj zeroD))) := (Below.refl _ _).alloc (Nat.le_refl _) _
  unfold ddObj zeroD at HB0 H6
  clear hw
  go_enter Tryd.func9, Tryd.ntmps9
  go_wp2_with fail
  refine (split_any s _ (HW.out.below HB0.out) hs).mono ?_
  rintro e w1 ⟨rfl, rfl⟩
  rw [h, hm]
  clear hm HB0
  go_wp2_with fail
  obtain ⟨hR, hS, hA, hF, hB⟩ := H6.out
  clear H6
  refine (worded_any _ a0 a1 a2 a3 a4 a5 _ hR HZ.out hS).mono ?_
  rintro e w2 ⟨⟨x, rfl, -⟩, hb2⟩
  rw [hd]
  have HA2 : Hid _ := hA.below hb2
  have HF2 : Hid _ := hF.below hA.lt hb2
  have HB2 : Hid _ := below_after hB hb2
  clear hR hS hA hF hB hb2 h hd
  obtain ⟨hlt, c0, c1, c2, c3, c4, c5, c6⟩ := HA2.out
  obtain ⟨f0, f1, f2, f3, f4, f5, f6⟩ := HF2.out
  have hne : ¬ w.heap.size = w2.heap.size := by omega
  obtain ⟨xk, xb, xn, xs, xa, xm, xt⟩ := x
  simp only [Option.isSome_none]
  go_wp2
  refine deed_end (v := .int .i64 3) rfl ((at7_put HA2.out zeroD).alloc _) rfl rfl rfl ?_
  have HQ : Hid _ := below_put7 HB2.out (Nat.le_refl _) zeroD
  rw [HP.out]
  exact ⟨rfl, HQ.out.alloc HQ.out.size _⟩

set_option maxHeartbeats 400000 in
theorem parse_yes (s : ByteArray) (w : World) (hw : Ready w) (hs : s.size ≤ 1000) {a0 a1 a2 a3 a4 a5 : ByteArray} (d : Dd) (h : sixOf s = [a0, a1, a2, a3, a4, a5]) (hd : wordD a0 a1 a2 a3 a4 a5 = some d) :
    Calls Tryd.prog 9 #[.string s] w fun e w' => e = .returned (.tuple #[ddV (valD (parseD s)), .int .i64 (codeD (parseD s))]) ∧ Below w.heap.size w w' := by
  have HP : Hid (parseD s = some d) := by show parseD s = _; rw [parseD, h]; exact hd
  have HW : Hid _ := hw
  have hm := six_min (s := s) (by rw [h]; rfl)
  have HZ : Hid _ := six_small h hs
  have H6 := six_world w a0 a1 a2 a3 a4 a5 hw
  have HB0 : Hid (Below w.heap.size w (w.alloc (ddObj zeroD))) := (Below.refl _ _).alloc (Nat.le_refl _) _
  unfold ddObj zeroD at HB0 H6
  clear hw
  go_enter Tryd.func9, Tryd.ntmps9
  go_wp2_with fail
  refine (split_any s _ (HW.out.below HB0.out) hs).mono ?_
  rintro e w1 ⟨rfl, rfl⟩
  rw [h, hm]
  clear hm HB0
  go_wp2_with fail
  obtain ⟨hR, hS, hA, hF, hB⟩ := H6.out
  clear H6
  refine (worded_any _ a0 a1 a2 a3 a4 a5 _ hR HZ.out hS).mono ?_
  rintro e w2 ⟨⟨x, rfl, hx⟩, hb2⟩
  obtain rfl := hx d hd
  rw [hd]
  have HA2 : Hid _ := hA.below hb2
  have HF2 : Hid _ := hF.below hA.lt hb2
  have HB2 : Hid _ := below_after hB hb2
  clear hR hS hA hF hB hb2 h hd hx
  have HX : Hid _ := at7_start w2 x
  have HB3 : Hid (Below w2.heap.size w2 (w2.alloc (ddObj x))) := (Below.refl _ _).alloc (Nat.le_refl _) _
  obtain ⟨xk, xb, xn, xs, xa, xm, xt⟩ := x
  unfold ddObj at HX HB3
  simp only [Option.isSome_some]
  go_wp2_with fail
  refine (check_any ⟨xk, xb, xn, xs, xa, xm, xt⟩ _).mono ?_
  rintro e w3 ⟨rfl, hb3⟩
  have HX3 : Hid _ := HX.out.below hb3
  have hb4 := below_after HB3.out hb3
  have HA3 : Hid _ := HA2.out.below hb4
  have HF3 : Hid _ := HF2.out.below HA2.out.lt hb4
  have HB4 : Hid _ := below_after HB2.out hb4
  clear hb3 hb4 HX HA2 HF2 HB3 HB2
  obtain ⟨_, c0, c1, c2, c3, c4, c5, c6⟩ := HA3.out
  obtain ⟨_, d0, d1, d2, d3, d4, d5, d6⟩ := HX3.out
  obtain ⟨f0, f1, f2, f3, f4, f5, f6⟩ := HF3.out
  by_cases hc : checkC ⟨xk, xb, xn, xs, xa, xm, xt⟩ = 0
  · rw [hc]
    have HV : Hid (valD (some ⟨xk, xb, xn, xs, xa, xm, xt⟩) = ⟨xk, xb, xn, xs, xa, xm, xt⟩) := by show valD _ = _; rw [valD, if_pos hc]
    have HC : Hid (codeD (some ⟨xk, xb, xn, xs, xa, xm, xt⟩) = 0) := hc
    clear hc
    go_wp2
    refine deed_end (v := .int .i64 0) rfl (at7_put HA3.out ⟨xk, xb, xn, xs, xa, xm, xt⟩) rfl rfl rfl ?_
    rw [HP.out]
    exact ⟨ret_deed HV.out.symm HC.out.symm, below_put7 HB4.out (Nat.le_refl _) ⟨xk, xb, xn, xs, xa, xm, xt⟩⟩
  · have HV : Hid (valD (some ⟨xk, xb, xn, xs, xa, xm, xt⟩) = zeroD) := by show valD _ = _; rw [valD, if_neg hc]
    have hne : (checkC ⟨xk, xb, xn, xs, xa, xm, xt⟩ != 0) = true := by simp [hc]
    clear hc
    have HC : Hid (codeD (some ⟨xk, xb, xn, xs, xa, xm, xt⟩) = checkC ⟨xk, xb, xn, xs, xa, xm, xt⟩) := rfl
    generalize checkC ⟨xk, xb, xn, xs, xa, xm, xt⟩ = c at *
    go_wp2
    refine deed_end (v := .int .i64 c) rfl (at7_put HA3.out zeroD) rfl rfl rfl ?_
    rw [HP.out]
    exact ⟨ret_deed HV.out.symm HC.out.symm, below_put7 HB4.out (Nat.le_refl _) zeroD⟩

theorem parse_any (s : ByteArray) (w : World) (hw : Ready w) (hs : s.size ≤ 1000) :
    Calls Tryd.prog 9 #[.string s] w fun e w' => e = .returned (.tuple #[ddV (valD (parseD s)), .int .i64 (codeD (parseD s))]) ∧ Below w.heap.size w w' := by
  by_cases h : (sixOf s).length = 6
  · obtain ⟨a0, a1, a2, a3, a4, a5, h6⟩ := list_six h
    cases hd : wordD a0 a1 a2 a3 a4 a5 with
    | none => exact parse_no s w hw hs h6 hd
    | some d => exact parse_yes s w hw hs d h6 hd
  · exact parse_few s w hw hs h

end Go.Proofs.YtnnfddemhhpfoaaDoor
