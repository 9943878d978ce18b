/-
  The document's DeedFault: its contract, for every deed.
-/
import Derived.Test.YtfjjjbohflobnabDRange
namespace Go.Proofs.Ytfjjjbohflobnab
open Go.RowKit

theorem printed_take {s : ByteArray} {k : Nat} (h : (decide (1 ≤ s.size ∧ s.size ≤ 20) && (s.data.toList.take k).all okChar) = false) : printedB s = false := by
  rw [printedB]
  by_cases h0 : 1 ≤ s.size ∧ s.size ≤ 20
  · simp only [h0, and_self, decide_true, Bool.true_and] at h ⊢
    rw [List.all_eq_false] at h ⊢
    obtain ⟨x, hx, hn⟩ := h
    exact ⟨x, List.mem_of_mem_take hx, hn⟩
  · simp only [h0, decide_false, Bool.false_and]

theorem ok_bytes (b : UInt8) : okChar b = !(decide ((b.toNat : Int) < 32) || decide (126 < (b.toNat : Int))) := by
  rw [okChar, Bool.eq_iff_iff]
  simp
  omega

set_option maxHeartbeats 1000000 in
theorem fault_put (d : Dd) (w : World) (hk : d.kind = 1) (hp : placedB d = true) :
    Calls Try.prog 83 #[ddV d] w fun e w' => e = .returned (.int .i64 (checkC d)) ∧ Below w.heap.size w w' := by
  have HC : Hid (checkC d = putC d) := by
    show checkC d = putC d
    rw [checkC, if_neg (by omega), if_neg (by simp [hp]), if_pos hk]
  have hu := placed_parts hp
  obtain ⟨kind, by_, no, seen, at_, many, text⟩ := d
  obtain rfl : kind = 1 := hk
  clear hp
  obtain ⟨hu, h1, h2, h3, h4, h5, h6⟩ := hu
  by_cases hm : many = 0
  · subst hm
    have HP : Hid (putC ⟨1, by_, no, seen, at_, 0, text⟩ = if printedB text = true then 0 else 4) := by
      show putC _ = _
      simp [putC]
    rcases (show text.size < 1 ∨ 20 < text.size ∨ (1 ≤ text.size ∧ text.size ≤ 20) by omega) with hs | hs | ⟨hs, hs'⟩
    · have HD : Hid (decide (1 ≤ text.size ∧ text.size ≤ 20) = false) := decide_eq_false (by omega)
      go_enter Try.func83, Try.ntmps83
      go_wp2_with (go_at_call 12; refine (isWriter_any _ _).mono ?_; rintro e w' ⟨rfl, rfl⟩)
      go_loop [3, 4] (fun b i => ∃ k : Nat, k ≤ text.size ∧ i = .int .i64 k ∧ b = .bool (!(decide (1 ≤ text.size ∧ text.size ≤ 20) && (text.data.toList.take k).all okChar))) (fun _ i => text.size - (intOf i).toNat)
      case atStart => exact ⟨0, Nat.zero_le _, rfl, by rw [HD.out]; rfl⟩
      case round =>
        obtain ⟨k, hk, rfl, rfl⟩ := hrel
        cases hb : (decide (1 ≤ text.size ∧ text.size ≤ 20) && (text.data.toList.take k).all okChar)
        · have HF : Hid _ := printed_take hb
          simp only [Bool.not_false]
          by_cases hlt : k < text.size
          all_goals
            first
            | (exfalso; omega)
            | (go_wp2; go_ret; exact ⟨ret_int (by rw [HC.out, HP.out, HF.out]; rfl), (Below.refl _ _).alloc (Nat.le_refl _) _⟩)
        · exact absurd hb (by rw [HD.out]; simp)
    · have HD : Hid (decide (1 ≤ text.size ∧ text.size ≤ 20) = false) := decide_eq_false (by omega)
      go_enter Try.func83, Try.ntmps83
      go_wp2_with (go_at_call 12; refine (isWriter_any _ _).mono ?_; rintro e w' ⟨rfl, rfl⟩)
      go_loop [3, 4] (fun b i => ∃ k : Nat, k ≤ text.size ∧ i = .int .i64 k ∧ b = .bool (!(decide (1 ≤ text.size ∧ text.size ≤ 20) && (text.data.toList.take k).all okChar))) (fun _ i => text.size - (intOf i).toNat)
      case atStart => exact ⟨0, Nat.zero_le _, rfl, by rw [HD.out]; simp; omega⟩
      case round =>
        obtain ⟨k, hk, rfl, rfl⟩ := hrel
        cases hb : (decide (1 ≤ text.size ∧ text.size ≤ 20) && (text.data.toList.take k).all okChar)
        · have HF : Hid _ := printed_take hb
          simp only [Bool.not_false]
          by_cases hlt : k < text.size
          all_goals
            first
            | (exfalso; omega)
            | (go_wp2; go_ret; exact ⟨ret_int (by rw [HC.out, HP.out, HF.out]; rfl), (Below.refl _ _).alloc (Nat.le_refl _) _⟩)
        · exact absurd hb (by rw [HD.out]; simp)
    · have HD : Hid (decide (1 ≤ text.size ∧ text.size ≤ 20) = true) := decide_eq_true (by omega)
      go_enter Try.func83, Try.ntmps83
      go_wp2_with (go_at_call 12; refine (isWriter_any _ _).mono ?_; rintro e w' ⟨rfl, rfl⟩)
      go_loop [3, 4] (fun b i => ∃ k : Nat, k ≤ text.size ∧ i = .int .i64 k ∧ b = .bool (!(decide (1 ≤ text.size ∧ text.size ≤ 20) && (text.data.toList.take k).all okChar))) (fun _ i => text.size - (intOf i).toNat)
      case atStart => exact ⟨0, Nat.zero_le _, rfl, by rw [HD.out]; simp; omega⟩
      case round =>
        obtain ⟨k, hk, rfl, rfl⟩ := hrel
        cases hb : (decide (1 ≤ text.size ∧ text.size ≤ 20) && (text.data.toList.take k).all okChar)
        · have HF : Hid _ := printed_take hb
          simp only [Bool.not_false]
          by_cases hlt : k < text.size
          all_goals
            first
            | (exfalso; omega)
            | (go_wp2; go_ret; exact ⟨ret_int (by rw [HC.out, HP.out, HF.out]; rfl), (Below.refl _ _).alloc (Nat.le_refl _) _⟩)
        · simp only [Bool.not_true]
          have HB : Hid ((text.data.toList.take k).all okChar = true) := by
            show (text.data.toList.take k).all okChar = true
            simp only [Bool.and_eq_true] at hb
            exact hb.2
          clear hb
          by_cases hlt : k < text.size
          · have HN : Hid _ := all_take_succ text k hlt
            have HE : Hid _ := ok_bytes text[k]
            by_cases c1 : (text[k].toNat : Int) < 32
            · go_wp2
              go_round
              case rel => exact ⟨k + 1, by omega, by go_num, by rw [HN.out, HB.out, HD.out, HE.out]; simp [c1]⟩
              case measure => simp [intOf]; omega
            · by_cases c2 : 126 < (text[k].toNat : Int)
              all_goals
                go_wp2
                go_round
                case rel => exact ⟨k + 1, by omega, by go_num, by rw [HN.out, HB.out, HD.out, HE.out]; simp [c1, c2]⟩
                case measure => simp [intOf]; omega
          · have HF : Hid (printedB text = true) := by
              show printedB text = true
              have hk' : k = text.size := by omega
              have := HB.out
              rw [hk', ← size_list, List.take_length] at this
              rw [printedB, HD.out, this]
              rfl
            go_wp2
            go_ret
            exact ⟨ret_int (by rw [HC.out, HP.out, HF.out]; rfl), (Below.refl _ _).alloc (Nat.le_refl _) _⟩
  · have h1' : (many != 0) = true := by simp [hm]
    have H1 : Hid (many ≠ 0) := hm
    clear hm
    go_enter Try.func83, Try.ntmps83
    go_wp2_with (go_at_call 12; refine (isWriter_any _ _).mono ?_; rintro e w' ⟨rfl, rfl⟩)
    go_ret
    exact ⟨ret_int (by rw [HC.out]; simp [putC, H1.out]), (Below.refl _ _).alloc (Nat.le_refl _) _⟩

set_option maxHeartbeats 1000000 in
theorem fault_take (d : Dd) (w : World) (hk : d.kind = 2) (hp : placedB d = true) :
    Calls Try.prog 83 #[ddV d] w fun e w' => e = .returned (.int .i64 (checkC d)) ∧ Below w.heap.size w w' := by
  have HC : Hid (checkC d = takeC d) := by
    show checkC d = takeC d
    rw [checkC, if_neg (by omega), if_neg (by simp [hp]), if_neg (by omega)]
  have hu := placed_parts hp
  obtain ⟨kind, by_, no, seen, at_, many, text⟩ := d
  obtain rfl : kind = 2 := hk
  clear hp
  obtain ⟨hu, h1, h2, h3, h4, h5, h6⟩ := hu
  by_cases hs : text.size = 0
  · have hs' : text.toList.isEmpty = true := by simp [ba_isEmpty, hs]
    have HS : Hid (text.size = 0) := hs
    clear hs
    rcases (show many < 1 ∨ (1 ≤ many ∧ 200 < many) ∨ (1 ≤ many ∧ many ≤ 200) by omega) with hm | ⟨hm, hm'⟩ | ⟨hm, hm'⟩
    all_goals
      go_enter Try.func83, Try.ntmps83
      go_wp2_with (go_at_call 12; refine (isWriter_any _ _).mono ?_; rintro e w' ⟨rfl, rfl⟩)
      go_ret
      exact ⟨ret_int (by rw [HC.out]; simp [takeC, HS.out, withinB]; omega), (Below.refl _ _).alloc (Nat.le_refl _) _⟩
  · have hs' : text.toList.isEmpty = false := by simp [ba_isEmpty, hs]
    have HS : Hid (text.size ≠ 0) := hs
    clear hs
    go_enter Try.func83, Try.ntmps83
    go_wp2_with (go_at_call 12; refine (isWriter_any _ _).mono ?_; rintro e w' ⟨rfl, rfl⟩)
    go_ret
    exact ⟨ret_int (by rw [HC.out]; simp [takeC, HS.out]), (Below.refl _ _).alloc (Nat.le_refl _) _⟩

set_option maxHeartbeats 400000 in
theorem fault_kind (d : Dd) (w : World) (hk : ¬ (d.kind = 1 ∨ d.kind = 2)) :
    Calls Try.prog 83 #[ddV d] w fun e w' => e = .returned (.int .i64 (checkC d)) ∧ Below w.heap.size w w' := by
  have HC : Hid (checkC d = 2) := by
    show checkC d = 2
    rw [checkC, if_pos (by omega)]
  obtain ⟨kind, by_, no, seen, at_, many, text⟩ := d
  have h1 : (kind != 1) = true := by simp; intro e; exact hk (.inl e)
  have h2 : (kind != 2) = true := by simp; intro e; exact hk (.inr e)
  clear hk
  go_enter Try.func83, Try.ntmps83
  go_wp2
  go_ret
  exact ⟨ret_int HC.out.symm, (Below.refl _ _).alloc (Nat.le_refl _) _⟩

theorem fault_any (d : Dd) (w : World) :
    Calls Try.prog 83 #[ddV d] w fun e w' => e = .returned (.int .i64 (checkC d)) ∧ Below w.heap.size w w' := by
  by_cases hk : d.kind = 1 ∨ d.kind = 2
  · cases hp : placedB d
    · exact fault_range d w hk hp
    · rcases hk with hk | hk
      · exact fault_put d w hk hp
      · exact fault_take d w hk hp
  · exact fault_kind d w hk

end Go.Proofs.Ytfjjjbohflobnab
