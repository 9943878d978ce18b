/-
  The contract of worded (package deed): the deed of six words.
-/
import Derived.Test.YtnnfddemhhpfoaaDoorDRead
import Derived.BigRegion
import Derived.RegionTactic
import Derived.ChangeAlike
namespace Go.Proofs.YtnnfddemhhpfoaaDoor
open Go.RowKit

abbrev putS : ByteArray := ⟨#[112, 117, 116]⟩
abbrev takeS : ByteArray := ⟨#[116, 97, 107, 101]⟩
def zeroD : Dd := ⟨0, 0, 0, 0, 0, 0, ⟨#[]⟩⟩

def putD (zs : List Int) (t : ByteArray) : Dd := ⟨1, zs.getD 0 0, zs.getD 1 0, zs.getD 2 0, zs.getD 3 0, 0, t⟩
def takeD (zs : List Int) : Dd := ⟨2, zs.getD 0 0, zs.getD 1 0, zs.getD 2 0, zs.getD 3 0, zs.getD 4 0, ⟨#[]⟩⟩

/-- The deed that six words are, unchecked. -/
def wordD (a0 a1 a2 a3 a4 a5 : ByteArray) : Option Dd :=
  if a0 = putS then (readL [a1, a2, a3, a4]).map (putD · a5) else if a0 = takeS then (readL [a1, a2, a3, a4, a5]).map takeD else none

theorem strs_from {w : World} {b : Nat} {a0 a1 a2 a3 a4 a5 : ByteArray} (h : Strs w b 0 [a0, a1, a2, a3, a4, a5]) : Strs w b 1 [a1, a2, a3, a4] ∧ Strs w b 1 [a1, a2, a3, a4, a5] := by
  have h1 := h.cell 1 (by simp)
  have h2 := h.cell 2 (by simp)
  have h3 := h.cell 3 (by simp)
  have h4 := h.cell 4 (by simp)
  have h5 := h.cell 5 (by simp)
  refine ⟨⟨h.lt, fun i hi => ?_⟩, ⟨h.lt, fun i hi => ?_⟩⟩
  · have h' : i < 4 := hi
    rcases (show i = 0 ∨ i = 1 ∨ i = 2 ∨ i = 3 by omega) with rfl | rfl | rfl | rfl
    · exact h1
    · exact h2
    · exact h3
    · exact h4
  · have h' : i < 5 := hi
    rcases (show i = 0 ∨ i = 1 ∨ i = 2 ∨ i = 3 ∨ i = 4 by omega) with rfl | rfl | rfl | rfl | rfl
    · exact h1
    · exact h2
    · exact h3
    · exact h4
    · exact h5

abbrev ddObjZ : Obj := .cells #[.int .i64 0, .int .i64 0, .int .i64 0, .int .i64 0, .int .i64 0, .int .i64 0, .string ⟨#[]⟩] 23

/-- No place of the block is shared with a string. -/
structure Fr7 (w : World) (B : Nat) : Prop where
  f0 : w.frozen? ⟨B, 0, none⟩ = false
  f1 : w.frozen? ⟨B, 1, none⟩ = false
  f2 : w.frozen? ⟨B, 2, none⟩ = false
  f3 : w.frozen? ⟨B, 3, none⟩ = false
  f4 : w.frozen? ⟨B, 4, none⟩ = false
  f5 : w.frozen? ⟨B, 5, none⟩ = false
  f6 : w.frozen? ⟨B, 6, none⟩ = false

theorem fr7_start (w : World) (d : Dd) : Fr7 (w.alloc (ddObj d)) w.heap.size := by
  refine ⟨?_, ?_, ?_, ?_, ?_, ?_, ?_⟩ <;> simp [go_sem]

theorem Fr7.below {w w' : World} {B : Nat} (h : Fr7 w B) (hB : B < w.heap.size) (hb : Below w.heap.size w w') : Fr7 w' B :=
  ⟨(frozen_on hB hb).trans h.f0, (frozen_on hB hb).trans h.f1, (frozen_on hB hb).trans h.f2, (frozen_on hB hb).trans h.f3, (frozen_on hB hb).trans h.f4, (frozen_on hB hb).trans h.f5, (frozen_on hB hb).trans h.f6⟩

theorem load_seven {w : World} {B : Nat} {d : Dd} (h : At7 w B d) : (loadVar 23 ⟨B, 0, none⟩).run Tryd.prog w = .ok (ddV d) w := by
  obtain ⟨_, c0, c1, c2, c3, c4, c5, c6⟩ := h
  simp [go_sem, loadVar, loadCells, loadCellsFrom, Sem.run_bind, Tryd.isAgg23, Tryd.sizeOf23, c0, c1, c2, c3, c4, c5, c6]

abbrev put7 (w : World) (B : Nat) (d : Dd) : World :=
  (((((((w.setCell ⟨B, 0, none⟩ (.int .i64 d.kind)).setCell ⟨B, 1, none⟩ (.int .i64 d.by_)).setCell ⟨B, 2, none⟩ (.int .i64 d.no)).setCell ⟨B, 3, none⟩ (.int .i64 d.seen)).setCell ⟨B, 4, none⟩ (.int .i64 d.at_)).setCell ⟨B, 5, none⟩ (.int .i64 d.many)).setCell ⟨B, 6, none⟩ (.string d.text))

theorem at7_put {w : World} {B : Nat} {d0 : Dd} (h : At7 w B d0) (d : Dd) : At7 (put7 w B d) B d := by
  obtain ⟨hl, c0, c1, c2, c3, c4, c5, c6⟩ := h
  refine ⟨by simpa using hl, ?_, ?_, ?_, ?_, ?_, ?_, ?_⟩
  · simp [go_sem, c0]
  · simp [go_sem, c1]
  · simp [go_sem, c2]
  · simp [go_sem, c3]
  · simp [go_sem, c4]
  · simp [go_sem, c5]
  · simp [go_sem, c6]

theorem below_put7 {w w' : World} {B N : Nat} (h : Below N w w') (hN : N ≤ B) (d : Dd) : Below N w (put7 w' B d) :=
  ((((((h.setCell (p := ⟨B, 0, none⟩) hN _).setCell (p := ⟨B, 1, none⟩) hN _).setCell (p := ⟨B, 2, none⟩) hN _).setCell (p := ⟨B, 3, none⟩) hN _).setCell (p := ⟨B, 4, none⟩) hN _).setCell (p := ⟨B, 5, none⟩) hN _).setCell (p := ⟨B, 6, none⟩) hN _

/-- The end of a function whose results are a deed and a value: what the deed's block holds. -/
theorem deed_end {fn : Func} {p u : Tmp} {R : Ending → World → Prop} {a : Act} {w : World} {B : Nat} {d : Dd} {v : Value} (hf : fn.results = #[.cell p 23, .tmp u]) (h : At7 w B d) (h2 : a.tmps.getD p undef = .pointer (some ⟨B, 0, none⟩)) (h3 : a.tmps.getD u undef = v) (hd : a.defers = [])
    (hR : R (.returned (.tuple #[ddV d, v])) w) : bodyPost Tryd.prog fn R Exit.ret a w := by
  refine bodyPost_ret ?_ hd hR
  rw [results_cell_tmp hf, h2, h3]
  simp [asAddr, load_seven h]

set_option maxHeartbeats 400000 in
theorem worded_put (b : Nat) (a0 a1 a2 a3 a4 a5 : ByteArray) (w : World) (hw : Ready w) (hz : ∀ s ∈ [a1, a2, a3, a4, a5], s.size ≤ 281474976710656) (hr : Strs w b 0 [a0, a1, a2, a3, a4, a5]) (hp : a0 = putS) :
    Calls Tryd.prog 16 #[.slice (some ⟨b, 0, none⟩) 6 6] w fun e w' =>
      (∃ x, e = .returned (.tuple #[ddV x, .bool (wordD a0 a1 a2 a3 a4 a5).isSome]) ∧ ∀ d, wordD a0 a1 a2 a3 a4 a5 = some d → x = d) ∧ Below w.heap.size w w' := by
  have HR : Hid (Strs w b 0 [a0, a1, a2, a3, a4, a5]) := hr
  have HZ : Hid _ := hz
  have HW : Hid _ := hw
  have hb := hr.lt
  have h0 : w.cell? ⟨b, 0, none⟩ = some (.string a0) := hr.cell 0 (by simp)
  have HD : Hid (wordD a0 a1 a2 a3 a4 a5 = (readL [a1, a2, a3, a4]).map (putD · a5)) := by show wordD a0 a1 a2 a3 a4 a5 = _; rw [wordD, if_pos hp]
  clear hr hz hw
  have h0' : ∀ o, (w.alloc o).cell? ⟨b, 0, none⟩ = some (.string a0) := fun o => cell_on h0 ((Below.refl _ _).alloc (Nat.le_refl _) _)
  have hc : (a0.toList == [112, 117, 116]) = true := by rw [ba_beq_list]; simp [hp]
  clear hp
  have HB0 : Hid (Below w.heap.size w (w.alloc (ddObj zeroD))) := (Below.refl _ _).alloc (Nat.le_refl _) _
  have HA0 : Hid _ := at7_start w zeroD
  have HF0 : Hid _ := fr7_start w zeroD
  unfold ddObj zeroD at HB0 HA0 HF0
  go_enter Tryd.func16, Tryd.ntmps16
  go_wp2_with fail
  refine (read_any b 1 4 5 [a1, a2, a3, a4] _ (HW.out.below HB0.out) rfl (by decide) (fun s hs => HZ.out s (List.mem_append_left [a5] hs)) ((strs_from HR.out).1.below HB0.out)).mono ?_
  rintro e w1 ⟨rfl, hb1⟩
  generalize hzs : (readL [a1, a2, a3, a4]).getD [] = zs
  generalize hok : (readL [a1, a2, a3, a4]).isSome = ok
  have HB1 : Hid (Below w.heap.size w w1) := below_after HB0.out hb1
  have HA1 : Hid _ := HA0.out.below hb1
  have HF1 : Hid _ := HF0.out.below HA0.out.lt hb1
  clear h0 h0' hb1 HA0 HF0 HB0
  unfold agg5
  have HX : Hid (∀ z, putD zs z = ⟨1, zs.getD 0 0, zs.getD 1 0, zs.getD 2 0, zs.getD 3 0, 0, z⟩) := fun _ => rfl
  generalize zs.getD 0 0 = z0 at *
  generalize zs.getD 1 0 = z1 at *
  generalize zs.getD 2 0 = z2 at *
  generalize zs.getD 3 0 = z3 at *
  generalize zs.getD 4 0 = z4 at *
  have HW5 : Hid (w1.cell? ⟨b, 5, none⟩ = some (.string a5)) := cell_on (HR.out.cell 5 (by simp)) HB1.out
  go_wp2
  have hb2 : Below w1.heap.size w1 (w1.alloc (.cells #[.int .i64 z0, .int .i64 z1, .int .i64 z2, .int .i64 z3, .int .i64 z4] 34)) := (Below.refl _ _).alloc (Nat.le_refl _) _
  have hf5 := (ints_five w1 z0 z1 z2 z3 z4)
  have n0 := hf5.cell 0 (by simp)
  have n1 := hf5.cell 1 (by simp)
  have n2 := hf5.cell 2 (by simp)
  have n3 := hf5.cell 3 (by simp)
  simp only [Nat.zero_add, List.getElem_cons_zero, List.getElem_cons_succ] at n0 n1 n2 n3
  have hw5 := cell_on HW5.out hb2
  have HA2 : Hid _ := HA1.out.below hb2
  have HF2 : Hid _ := HF1.out.below HA1.out.lt hb2
  have HB2 : Hid _ := below_after HB1.out hb2
  obtain ⟨_, c0, c1, c2, c3, c4, c5, c6⟩ := HA2.out
  obtain ⟨f0, f1, f2, f3, f4, f5, f6⟩ := HF2.out
  clear hb2 hf5 HW5 HB1 HA1 HF1
  generalize w1.alloc (.cells #[.int .i64 z0, .int .i64 z1, .int .i64 z2, .int .i64 z3, .int .i64 z4] 34) = W at *
  generalize w1.heap.size = B5 at *
  go_region
  go_wp2
  refine deed_end (v := .bool ok) rfl ((at7_put HA2.out ⟨1, z0, z1, z2, z3, 0, a5⟩).below (Below.refl _ _).drew) rfl rfl rfl ?_
  refine ⟨⟨⟨1, z0, z1, z2, z3, 0, a5⟩, by rw [HD.out, Option.isSome_map, hok], fun d hd => ?_⟩, (below_put7 HB2.out (Nat.le_refl _) ⟨1, z0, z1, z2, z3, 0, a5⟩).drew⟩
  rw [HD.out] at hd
  cases hr : readL [a1, a2, a3, a4] with
  | none => rw [hr] at hd; cases hd
  | some us =>
    rw [hr] at hd hzs
    obtain rfl : us = zs := hzs
    obtain rfl := Option.some.inj hd
    exact (HX.out a5).symm

set_option maxHeartbeats 400000 in
theorem worded_take (b : Nat) (a0 a1 a2 a3 a4 a5 : ByteArray) (w : World) (hw : Ready w) (hz : ∀ s ∈ [a1, a2, a3, a4, a5], s.size ≤ 281474976710656) (hr : Strs w b 0 [a0, a1, a2, a3, a4, a5]) (hq : a0 ≠ putS) (hp : a0 = takeS) :
    Calls Tryd.prog 16 #[.slice (some ⟨b, 0, none⟩) 6 6] w fun e w' =>
      (∃ x, e = .returned (.tuple #[ddV x, .bool (wordD a0 a1 a2 a3 a4 a5).isSome]) ∧ ∀ d, wordD a0 a1 a2 a3 a4 a5 = some d → x = d) ∧ Below w.heap.size w w' := by
  have HR : Hid (Strs w b 0 [a0, a1, a2, a3, a4, a5]) := hr
  have HZ : Hid _ := hz
  have HW : Hid _ := hw
  have hb := hr.lt
  have h0 : w.cell? ⟨b, 0, none⟩ = some (.string a0) := hr.cell 0 (by simp)
  have HD : Hid (wordD a0 a1 a2 a3 a4 a5 = (readL [a1, a2, a3, a4, a5]).map takeD) := by show wordD a0 a1 a2 a3 a4 a5 = _; rw [wordD, if_neg hq, if_pos hp]
  clear hr hz hw
  have h0' : ∀ o, (w.alloc o).cell? ⟨b, 0, none⟩ = some (.string a0) := fun o => cell_on h0 ((Below.refl _ _).alloc (Nat.le_refl _) _)
  have hc : (a0.toList == [112, 117, 116]) = false := by rw [ba_beq_list]; simp [hq]
  have hc' : (a0.toList == [116, 97, 107, 101]) = true := by rw [ba_beq_list]; simp [hp]
  clear hp hq
  have HB0 : Hid (Below w.heap.size w (w.alloc (ddObj zeroD))) := (Below.refl _ _).alloc (Nat.le_refl _) _
  have HA0 : Hid _ := at7_start w zeroD
  have HF0 : Hid _ := fr7_start w zeroD
  unfold ddObj zeroD at HB0 HA0 HF0
  go_enter Tryd.func16, Tryd.ntmps16
  go_wp2_with fail
  refine (read_any b 1 5 5 [a1, a2, a3, a4, a5] _ (HW.out.below HB0.out) rfl (by decide) HZ.out ((strs_from HR.out).2.below HB0.out)).mono ?_
  rintro e w1 ⟨rfl, hb1⟩
  generalize hzs : (readL [a1, a2, a3, a4, a5]).getD [] = zs
  generalize hok : (readL [a1, a2, a3, a4, a5]).isSome = ok
  have HB1 : Hid (Below w.heap.size w w1) := below_after HB0.out hb1
  have HA1 : Hid _ := HA0.out.below hb1
  have HF1 : Hid _ := HF0.out.below HA0.out.lt hb1
  clear h0 h0' hb1 HA0 HF0 HB0
  unfold agg5
  have HX : Hid (takeD zs = ⟨2, zs.getD 0 0, zs.getD 1 0, zs.getD 2 0, zs.getD 3 0, zs.getD 4 0, ⟨#[]⟩⟩) := rfl
  generalize zs.getD 0 0 = z0 at *
  generalize zs.getD 1 0 = z1 at *
  generalize zs.getD 2 0 = z2 at *
  generalize zs.getD 3 0 = z3 at *
  generalize zs.getD 4 0 = z4 at *
  have hlt : w.heap.size < w1.heap.size := HA1.out.lt
  have hne : ¬ w.heap.size = w1.heap.size := by omega
  obtain ⟨_, c0, c1, c2, c3, c4, c5, c6⟩ := HA1.out
  obtain ⟨f0, f1, f2, f3, f4, f5, f6⟩ := HF1.out
  go_wp2
  refine deed_end (v := .bool ok) rfl ((at7_put HA1.out ⟨2, z0, z1, z2, z3, z4, ⟨#[]⟩⟩).alloc _) rfl rfl rfl ?_
  have HP : Hid _ := below_put7 HB1.out (Nat.le_refl _) ⟨2, z0, z1, z2, z3, z4, ⟨#[]⟩⟩
  refine ⟨⟨⟨2, z0, z1, z2, z3, z4, ⟨#[]⟩⟩, by rw [HD.out, Option.isSome_map, hok], fun d hd => ?_⟩, HP.out.alloc HP.out.size _⟩
  rw [HD.out] at hd
  cases hr : readL [a1, a2, a3, a4, a5] with
  | none => rw [hr] at hd; cases hd
  | some us =>
    rw [hr] at hd hzs
    obtain rfl : us = zs := hzs
    obtain rfl := Option.some.inj hd
    exact HX.out.symm

set_option maxHeartbeats 400000 in
theorem worded_no (b : Nat) (a0 a1 a2 a3 a4 a5 : ByteArray) (w : World) (hr : Strs w b 0 [a0, a1, a2, a3, a4, a5]) (hq : a0 ≠ putS) (hp : a0 ≠ takeS) :
    Calls Tryd.prog 16 #[.slice (some ⟨b, 0, none⟩) 6 6] w fun e w' =>
      (∃ x, e = .returned (.tuple #[ddV x, .bool (wordD a0 a1 a2 a3 a4 a5).isSome]) ∧ ∀ d, wordD a0 a1 a2 a3 a4 a5 = some d → x = d) ∧ Below w.heap.size w w' := by
  have hb := hr.lt
  have h0 : w.cell? ⟨b, 0, none⟩ = some (.string a0) := hr.cell 0 (by simp)
  have HD : Hid (wordD a0 a1 a2 a3 a4 a5 = none) := by show wordD a0 a1 a2 a3 a4 a5 = _; rw [wordD, if_neg hq, if_neg hp]
  clear hr
  have h0' : ∀ o, (w.alloc o).cell? ⟨b, 0, none⟩ = some (.string a0) := fun o => cell_on h0 ((Below.refl _ _).alloc (Nat.le_refl _) _)
  have hc : (a0.toList == [112, 117, 116]) = false := by rw [ba_beq_list]; simp [hq]
  have hc' : (a0.toList == [116, 97, 107, 101]) = false := by rw [ba_beq_list]; simp [hp]
  clear hp hq
  go_enter Tryd.func16, Tryd.ntmps16
  go_wp2
  refine deed_end rfl (at7_start w zeroD) rfl rfl rfl ?_
  refine ⟨⟨zeroD, by rw [HD.out]; rfl, fun d hd => ?_⟩, (Below.refl _ _).alloc (Nat.le_refl _) _⟩
  rw [HD.out] at hd
  cases hd

theorem worded_any (b : Nat) (a0 a1 a2 a3 a4 a5 : ByteArray) (w : World) (hw : Ready w) (hz : ∀ s ∈ [a1, a2, a3, a4, a5], s.size ≤ 281474976710656) (hr : Strs w b 0 [a0, a1, a2, a3, a4, a5]) :
    Calls Tryd.prog 16 #[.slice (some ⟨b, 0, none⟩) 6 6] w fun e w' =>
      (∃ x, e = .returned (.tuple #[ddV x, .bool (wordD a0 a1 a2 a3 a4 a5).isSome]) ∧ ∀ d, wordD a0 a1 a2 a3 a4 a5 = some d → x = d) ∧ Below w.heap.size w w' := by
  by_cases h : a0 = putS
  · exact worded_put b a0 a1 a2 a3 a4 a5 w hw hz hr h
  · by_cases h' : a0 = takeS
    · exact worded_take b a0 a1 a2 a3 a4 a5 w hw hz hr h h'
    · exact worded_no b a0 a1 a2 a3 a4 a5 w hr h h'

end Go.Proofs.YtnnfddemhhpfoaaDoor
