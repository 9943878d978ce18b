/-
  The contracts of within, placed, printed, checkPut, checkTake and Check (package deed), and of the document's DeedFault.
-/
import Derived.Test.YtebhbhcjfnohmabLeaf0
import Derived.Test.YtebhbhcjfnohmabDPlain
import Derived.Deep.QuietTactic
import Derived.BigQuiet
namespace Go.Proofs.Ytebhbhcjfnohmab
open Go.RowKit

set_option maxRecDepth 20000 in
set_option maxHeartbeats 400000 in
theorem dwithin_any (n lo hi : Int) (w : World) :
    Calls Try.prog 106 #[.int .i64 n, .int .i64 lo, .int .i64 hi] w fun e w' => e = .returned (.bool (withinB n lo hi)) ∧ w' = w := by
  by_cases h1 : lo ≤ n
  · by_cases h2 : n ≤ hi
    · go_enter Try.func106, Try.ntmps106
      go_wp2
      go_ret
      exact ⟨by simp [withinB, h1, h2], rfl⟩
    · go_enter Try.func106, Try.ntmps106
      go_wp2
      go_ret
      exact ⟨by simp [withinB, h2], rfl⟩
  · go_enter Try.func106, Try.ntmps106
    go_wp2
    go_ret
    exact ⟨ret_b (by simp [withinB]; omega), rfl⟩

theorem ok_wrap (b : UInt8) : okChar b = withinB (wrap64 b.toNat) 32 126 := by
  have h : b.toNat < 256 := b.toNat_lt
  have e : wrap64 (b.toNat : Int) = b.toNat := by unfold wrap64; omega
  rw [e, okChar, withinB, Bool.eq_iff_iff]
  simp
  omega

set_option maxRecDepth 20000 in
set_option maxHeartbeats 400000 in
theorem printed_any (s : ByteArray) (w : World) :
    Calls Try.prog 107 #[.string s] w fun e w' => e = .returned (.bool (printedB s)) ∧ w' = w := by
  by_cases hs : 1 ≤ s.size ∧ s.size ≤ 20
  · obtain ⟨hs1, hs2⟩ := hs
    have hw : withinB s.size 1 20 = true := by simp [withinB]; omega
    go_enter Try.func107, Try.ntmps107
    go_wp2_with (go_at_call 106; refine (dwithin_any _ _ _ _).mono ?_; rintro e w' ⟨rfl, rfl⟩)
    go_loop [10] (fun i => ∃ k : Nat, k ≤ s.size ∧ i = .int .i64 k ∧ (s.data.toList.take k).all okChar = true) (fun i => s.size - (intOf i).toNat)
    case atStart => exact ⟨0, Nat.zero_le _, rfl, rfl⟩
    case round =>
      obtain ⟨k, hk, rfl, hok⟩ := hrel
      by_cases hlt : k < s.size
      · have HN : Hid _ := all_take_succ s k hlt
        have HZ : Hid _ := all_no s k hlt
        have HE : Hid _ := ok_wrap s[k]
        go_wp2_with fail
        refine (dwithin_any _ _ _ _).mono ?_
        rintro e w1 ⟨rfl, rfl⟩
        cases hc : withinB (wrap64 s[k].toNat) 32 126
        · go_wp2
          go_ret
          exact ⟨ret_b (by rw [printedB, HZ.out (by rw [HE.out, hc]), Bool.and_false]), rfl⟩
        · go_wp2
          go_round
          case rel => exact ⟨k + 1, by omega, by go_num, by rw [HN.out, hok, HE.out, hc]; rfl⟩
          case measure => simp [intOf]; omega
      · go_wp2
        go_ret
        obtain rfl : k = s.size := by omega
        exact ⟨ret_b (by rw [← size_list, List.take_length] at hok; simp [printedB, hok, hs1, hs2]), rfl⟩
  · have hw : withinB s.size 1 20 = false := by simp [withinB]; omega
    go_enter Try.func107, Try.ntmps107
    go_wp2_with (go_at_call 106; refine (dwithin_any _ _ _ _).mono ?_; rintro e w' ⟨rfl, rfl⟩)
    go_ret
    exact ⟨ret_b (by simp [printedB, hs]), rfl⟩

set_option maxRecDepth 20000 in
set_option maxHeartbeats 400000 in
theorem placed_any (d : Dd) (w : World) :
    Calls Try.prog 99 #[ddV d] w fun e w' => e = .returned (.bool (placedB d)) ∧ Below w.heap.size w w' := by
  obtain ⟨kind, by_, no, seen, at_, many, text⟩ := d
  cases h1 : wrB by_
  · go_enter Try.func99, Try.ntmps99
    go_wp2_with (first | (go_at_call 55; refine (writer_any _ _).mono ?_; rintro e w' ⟨rfl, rfl⟩) | (go_at_call 106; refine (dwithin_any _ _ _ _).mono ?_; rintro e w' ⟨rfl, rfl⟩))
    go_ret
    exact ⟨ret_b (by simp [placedB, h1]), (Below.refl _ _).alloc (Nat.le_refl _) _⟩
  · cases h2 : withinB no 1 120
    · go_enter Try.func99, Try.ntmps99
      go_wp2_with (first | (go_at_call 55; refine (writer_any _ _).mono ?_; rintro e w' ⟨rfl, rfl⟩) | (go_at_call 106; refine (dwithin_any _ _ _ _).mono ?_; rintro e w' ⟨rfl, rfl⟩))
      go_ret
      exact ⟨ret_b (by simp [placedB, h1, h2]), (Below.refl _ _).alloc (Nat.le_refl _) _⟩
    · cases h3 : withinB seen 0 120
      · go_enter Try.func99, Try.ntmps99
        go_wp2_with (first | (go_at_call 55; refine (writer_any _ _).mono ?_; rintro e w' ⟨rfl, rfl⟩) | (go_at_call 106; refine (dwithin_any _ _ _ _).mono ?_; rintro e w' ⟨rfl, rfl⟩))
        go_ret
        exact ⟨ret_b (by simp [placedB, h1, h2, h3]), (Below.refl _ _).alloc (Nat.le_refl _) _⟩
      · go_enter Try.func99, Try.ntmps99
        go_wp2_with (first | (go_at_call 55; refine (writer_any _ _).mono ?_; rintro e w' ⟨rfl, rfl⟩) | (go_at_call 106; refine (dwithin_any _ _ _ _).mono ?_; rintro e w' ⟨rfl, rfl⟩))
        go_ret
        exact ⟨ret_b (by simp [placedB, h1, h2, h3]), (Below.refl _ _).alloc (Nat.le_refl _) _⟩

set_option maxRecDepth 20000 in
set_option maxHeartbeats 400000 in
theorem checkPut_any (d : Dd) (w : World) :
    Calls Try.prog 100 #[ddV d] w fun e w' => e = .returned (.int .i64 (putC d)) ∧ Below w.heap.size w w' := by
  obtain ⟨kind, by_, no, seen, at_, many, text⟩ := d
  by_cases h1 : many = 0
  · have h1' : (many != 0) = false := by simp [h1]
    have H1 : Hid (many = 0) := h1
    clear h1
    cases h2 : printedB text
    all_goals
      go_enter Try.func100, Try.ntmps100
      go_wp2_with (go_at_call 107; refine (printed_any _ _).mono ?_; rintro e w' ⟨rfl, rfl⟩)
      go_ret
      exact ⟨ret_int (by simp [putC, H1.out, h2]), (Below.refl _ _).alloc (Nat.le_refl _) _⟩
  · have h1' : (many != 0) = true := by simp [h1]
    have H1 : Hid (many ≠ 0) := h1
    clear h1
    go_enter Try.func100, Try.ntmps100
    go_wp2
    go_ret
    exact ⟨ret_int (by simp [putC, H1.out]), (Below.refl _ _).alloc (Nat.le_refl _) _⟩

theorem ba_isEmpty (s : ByteArray) : s.toList.isEmpty = decide (s.size = 0) := by
  by_cases h : s.size = 0
  · rw [ByteArray.toList_eq, ba_empty h]; rfl
  · rw [ByteArray.toList_eq]
    have : s.data ≠ #[] := fun e => h (by show s.data.size = 0; rw [e]; rfl)
    simp [h, this]

set_option maxRecDepth 20000 in
set_option maxHeartbeats 400000 in
theorem checkTake_any (d : Dd) (w : World) :
    Calls Try.prog 101 #[ddV d] w fun e w' => e = .returned (.int .i64 (takeC d)) ∧ Below w.heap.size w w' := by
  obtain ⟨kind, by_, no, seen, at_, many, text⟩ := d
  by_cases h1 : text.size = 0
  · have h1' : text.toList.isEmpty = true := by simp [ba_isEmpty, h1]
    have H1 : Hid (text.size = 0) := h1
    clear h1
    cases h2 : withinB many 1 200
    all_goals
      go_enter Try.func101, Try.ntmps101
      go_wp2_with (go_at_call 106; refine (dwithin_any _ _ _ _).mono ?_; rintro e w' ⟨rfl, rfl⟩)
      go_ret
      exact ⟨ret_int (by simp [takeC, H1.out, h2]), (Below.refl _ _).alloc (Nat.le_refl _) _⟩
  · have h1' : text.toList.isEmpty = false := by simp [ba_isEmpty, h1]
    have H1 : Hid (text.size ≠ 0) := h1
    clear h1
    go_enter Try.func101, Try.ntmps101
    go_wp2
    go_ret
    exact ⟨ret_int (by simp [takeC, H1.out]), (Below.refl _ _).alloc (Nat.le_refl _) _⟩

set_option maxRecDepth 20000 in
set_option maxHeartbeats 400000 in
theorem check_any (d : Dd) (w : World) :
    Calls Try.prog 90 #[ddV d] w fun e w' => e = .returned (.int .i64 (checkC d)) ∧ Below w.heap.size w w' := by
  by_cases hk : d.kind = 1 ∨ d.kind = 2
  · cases hp : placedB d
    · have HC : Hid (checkC d = 1) := by
        show checkC d = 1
        rw [checkC, if_neg (by omega), if_pos hp]
      obtain ⟨kind, by_, no, seen, at_, many, text⟩ := d
      rcases hk with rfl | rfl
      all_goals
        go_enter Try.func90, Try.ntmps90
        go_wp2_with fail
        refine (placed_any ⟨_, by_, no, seen, at_, many, text⟩ _).mono ?_
        rintro e w1 ⟨rfl, hb⟩
        rw [hp]
        go_wp2
        go_ret
        exact ⟨ret_int HC.out.symm, below_after ((Below.refl _ _).alloc (Nat.le_refl _) _) hb⟩
    · by_cases h1 : d.kind = 1
      · have HC : Hid (checkC d = putC d) := by
          show checkC d = putC d
          rw [checkC, if_neg (by omega), if_neg (by simp [hp]), if_pos h1]
        obtain ⟨kind, by_, no, seen, at_, many, text⟩ := d
        obtain rfl : kind = 1 := h1
        clear hk
        go_enter Try.func90, Try.ntmps90
        go_wp2_with fail
        refine (placed_any ⟨_, by_, no, seen, at_, many, text⟩ _).mono ?_
        rintro e w1 ⟨rfl, hb⟩
        rw [hp]
        obtain ⟨hc, hf⟩ := bcell hb
        go_wp2_with fail
        refine (checkPut_any ⟨_, by_, no, seen, at_, many, text⟩ _).mono ?_
        rintro e w2 ⟨rfl, hb2⟩
        clear hc hf
        go_wp2
        go_ret
        exact ⟨ret_int HC.out.symm, below_after (below_after ((Below.refl _ _).alloc (Nat.le_refl _) _) hb) hb2⟩
      · have HC : Hid (checkC d = takeC d) := by
          show checkC d = takeC d
          rw [checkC, if_neg (by omega), if_neg (by simp [hp]), if_neg h1]
        obtain ⟨kind, by_, no, seen, at_, many, text⟩ := d
        obtain rfl : kind = 2 := by rcases hk with h | h; exact absurd h h1; exact h
        clear hk h1
        go_enter Try.func90, Try.ntmps90
        go_wp2_with fail
        refine (placed_any ⟨_, by_, no, seen, at_, many, text⟩ _).mono ?_
        rintro e w1 ⟨rfl, hb⟩
        rw [hp]
        obtain ⟨hc, hf⟩ := bcell hb
        go_wp2_with fail
        refine (checkTake_any ⟨_, by_, no, seen, at_, many, text⟩ _).mono ?_
        rintro e w2 ⟨rfl, hb2⟩
        clear hc hf
        go_wp2
        go_ret
        exact ⟨ret_int HC.out.symm, below_after (below_after ((Below.refl _ _).alloc (Nat.le_refl _) _) hb) hb2⟩
  · have HC : Hid (checkC d = 2) := by
      show checkC d = 2
      rw [checkC, if_pos (by omega)]
    obtain ⟨kind, by_, no, seen, at_, many, text⟩ := d
    have h1 : (kind != 1) = true := by simp; intro e; exact hk (.inl e)
    have h2 : (kind != 2) = true := by simp; intro e; exact hk (.inr e)
    clear hk
    go_enter Try.func90, Try.ntmps90
    go_wp2
    go_ret
    exact ⟨ret_int HC.out.symm, (Below.refl _ _).alloc (Nat.le_refl _) _⟩

end Go.Proofs.Ytebhbhcjfnohmab
