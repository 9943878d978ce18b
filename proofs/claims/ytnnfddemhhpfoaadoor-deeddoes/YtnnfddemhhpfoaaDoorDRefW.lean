/-
  The contracts of the document's word and number.
-/
import Derived.Test.YtnnfddemhhpfoaaDoorDRef
namespace Go.Proofs.YtnnfddemhhpfoaaDoor
open Go.RowKit

theorem cut_at (s : ByteArray) (k : Nat) (hk : k < s.size) (h0 : ∀ b ∈ s.data.toList.take k, b ≠ 32) (h1 : s[k] = 32) : cut1 s.data.toList = some (s.data.toList.take k, s.data.toList.drop (k + 1)) := by
  have e : s.data.toList = s.data.toList.take k ++ 32 :: s.data.toList.drop (k + 1) := by
    have := List.take_append_drop k s.data.toList
    rw [List.drop_eq_getElem_cons hk, getB s k hk, h1] at this
    exact this.symm
  have := cut1_of (s.data.toList.take k) (s.data.toList.drop (k + 1)) h0
  rw [← e] at this
  exact this

theorem extract_head (s : ByteArray) (k : Nat) : s.extract 0 k = bl (s.data.toList.take k) := by
  refine ba_ext ?_
  rw [Lib.extract_from_zero, data_bl]

theorem extract_rest (s : ByteArray) (k : Nat) : s.extract k s.size = bl (s.data.toList.drop k) := by
  refine ba_ext ?_
  rw [Lib.extract_to_end, data_bl]

def wordV (s : ByteArray) : Value := match cut1 s.data.toList with | some p => .tuple #[.string (bl p.1), .string (bl p.2), .bool true] | none => .tuple #[.string s, .string ⟨#[]⟩, .bool false]

set_option maxHeartbeats 400000 in
theorem word_any (s : ByteArray) (w : World) (hs : s.size ≤ 1000) :
    Calls Tryd.prog 17 #[.string s] w fun e w' => e = .returned (wordV s) ∧ Below w.heap.size w w' := by
  go_enter Tryd.func17, Tryd.ntmps17
  go_wp2
  go_loop [5] (fun i => ∃ k : Nat, k ≤ s.size ∧ i = .int .i64 k ∧ ∀ b ∈ s.data.toList.take k, b ≠ 32) (fun i => s.size - (intOf i).toNat)
  case atStart => exact ⟨0, Nat.zero_le _, rfl, by simp⟩
  case round =>
    obtain ⟨k, hk, rfl, hfree⟩ := hrel
    have HF : Hid _ := hfree
    clear hfree
    by_cases hlt : k < s.size
    · by_cases h32 : s[k] = 32
      · have hc : ((s[k].toNat : Int) == 32) = true := by rw [h32]; rfl
        have HC : Hid _ := cut_at s k hlt HF.out h32
        clear h32
        have e1 := extract_head s k
        have e2 := extract_rest s (k + 1)
        have HV : Hid (wordV s = .tuple #[.string (s.extract 0 k), .string (s.extract (k + 1) s.size), .bool true]) := by
          show wordV s = _
          rw [wordV, HC.out, e1, e2]
        clear e1 e2
        go_wp2
        go_quiet (fail)
        go_wp2
        go_ret3
        exact ⟨congrArg Ending.returned HV.out.symm, below_drewN (Below.refl _ _) _⟩
      · have hc : ((s[k].toNat : Int) == 32) = false := by
          refine beq_eq_false_iff_ne.2 (fun e => h32 (UInt8.toNat_inj.1 ?_))
          show s[k].toNat = 32
          omega
        have HN : Hid (∀ b ∈ s.data.toList.take (k + 1), b ≠ 32) := by
          intro b hb
          rw [List.take_add_one, List.getElem?_eq_getElem hlt, getB s k hlt] at hb
          rcases List.mem_append.1 hb with hb | hb
          · exact HF.out b hb
          · simp at hb
            rw [hb]
            exact h32
        clear h32
        go_wp2
        go_round
        case rel => exact ⟨k + 1, by omega, by go_num, HN.out⟩
        case measure => simp [intOf]; omega
    · have HV : Hid (wordV s = .tuple #[.string s, .string ⟨#[]⟩, .bool false]) := by
        show wordV s = _
        have hall := HF.out
        rw [show k = s.size by omega, ← size_list, List.take_length] at hall
        rw [wordV, cut1_miss hall]
      go_wp2
      go_ret3
      exact ⟨congrArg Ending.returned HV.out.symm, Below.refl _ _⟩

set_option maxHeartbeats 400000 in
theorem number_no (s : ByteArray) (w : World) (hw : Ready w) (hs : s.size ≤ 1000) (h : numAll s = none) :
    Calls Tryd.prog 18 #[.string s] w fun e w' => (∃ v, e = .returned (.tuple #[.int .i64 v, .bool (num1 s).isSome]) ∧ ∀ z, num1 s = some z → v = z) ∧ Below w.heap.size w w' := by
  have HN : Hid (num1 s = none) := by show num1 s = none; rw [num1, h]
  have HW : Hid _ := hw
  have HH : Hid _ := h
  clear hw h
  go_enter Tryd.func18, Tryd.ntmps18
  go_wp2_with fail
  refine (atoi_no s (by omega) HH.out _ HW.out).mono ?_
  rintro e w1 ⟨v, t, q, rfl, _, hb1⟩
  go_wp2
  go_ret2
  exact ⟨⟨v, by rw [HN.out]; rfl, fun z hz => by rw [HN.out] at hz; cases hz⟩, hb1⟩

set_option maxHeartbeats 400000 in
theorem number_some (s : ByteArray) (w : World) (hw : Ready w) (hs : s.size ≤ 1000) (v : Int) (h : numAll s = some v) :
    Calls Tryd.prog 18 #[.string s] w fun e w' => (∃ v, e = .returned (.tuple #[.int .i64 v, .bool (num1 s).isSome]) ∧ ∀ z, num1 s = some z → v = z) ∧ Below w.heap.size w w' := by
  have HW : Hid _ := hw
  have HH : Hid _ := h
  have HI : Hid _ := numAll_in h
  by_cases he : strI v = s
  · have HN : Hid (num1 s = some v) := by show num1 s = some v; simp [num1, h, he]
    clear hw h
    go_enter Tryd.func18, Tryd.ntmps18
    go_wp2_with fail
    refine (atoi_ok s v (by omega) HH.out _).mono ?_
    rintro e w1 ⟨rfl, hb1⟩
    go_wp2_with fail
    refine (num_any v HI.out _ (HW.out.below hb1)).mono ?_
    rintro e w2 ⟨rfl, hb2⟩
    have HB : Hid _ := below_after hb1 hb2
    clear hb1 hb2
    go_wp2
    go_ret2
    exact ⟨⟨v, by rw [HN.out]; rfl, fun z hz => by rw [HN.out] at hz; exact Option.some.inj hz⟩, HB.out⟩
  · have HN : Hid (num1 s = none) := by show num1 s = none; simp [num1, h, he]
    have hne : ((strI v).toList == s.toList) = false := by rw [ba_beq]; simp [he]
    clear hw h he
    go_enter Tryd.func18, Tryd.ntmps18
    go_wp2_with fail
    refine (atoi_ok s v (by omega) HH.out _).mono ?_
    rintro e w1 ⟨rfl, hb1⟩
    go_wp2_with fail
    refine (num_any v HI.out _ (HW.out.below hb1)).mono ?_
    rintro e w2 ⟨rfl, hb2⟩
    have HB : Hid _ := below_after hb1 hb2
    clear hb1 hb2
    go_wp2
    go_ret2
    exact ⟨⟨v, by rw [HN.out]; rfl, fun z hz => by rw [HN.out] at hz; cases hz⟩, HB.out⟩

theorem number_any (s : ByteArray) (w : World) (hw : Ready w) (hs : s.size ≤ 1000) :
    Calls Tryd.prog 18 #[.string s] w fun e w' => (∃ v, e = .returned (.tuple #[.int .i64 v, .bool (num1 s).isSome]) ∧ ∀ z, num1 s = some z → v = z) ∧ Below w.heap.size w w' := by
  cases h : numAll s with
  | none => exact number_no s w hw hs h
  | some v => exact number_some s w hw hs v h

end Go.Proofs.YtnnfddemhhpfoaaDoor
