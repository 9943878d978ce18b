/-
  The contracts of the small functions of package chars: within, Writer, In, tookAway, Out, Sees, Same.
-/
import Derived.Test.YtebhbhcjfnohmabLeaf0
import Derived.Deep.QuietTactic
import Derived.BigQuiet
namespace Go.Proofs.Ytebhbhcjfnohmab
open Go.RowKit

abbrev chV (x : Ch) : Value := .agg #[.int .u8 x.c, .int .i64 x.by_, .int .i64 x.no, .int .i64 x.k, .int .i64 x.inn, .int .i64 x.out, .int .i64 x.gone]

set_option maxRecDepth 20000 in
set_option maxHeartbeats 400000 in
theorem in_any (x : Ch) (seen by_ : Int) (w : World) :
    Calls Try.prog 67 #[chV x, .int .i64 seen, .int .i64 by_] w fun e w' => e = .returned (.bool (inB x.inn x.by_ seen by_)) ∧ Below w.heap.size w w' := by
  obtain ⟨c, b, no, k, i, o, g⟩ := x
  by_cases h1 : i ≤ seen
  · go_enter Try.func67, Try.ntmps67
    go_wp2
    go_ret
    exact ⟨by simp [inB, h1], (Below.refl _ _).alloc (Nat.le_refl _) _⟩
  · by_cases h2 : b = by_
    · have h2' : (b == by_) = true := by simp [h2]
      clear h2
      go_enter Try.func67, Try.ntmps67
      go_wp2
      go_ret
      exact ⟨ret_b (by simp [inB]; exact .inr (by simpa using h2')), (Below.refl _ _).alloc (Nat.le_refl _) _⟩
    · have h2' : (b == by_) = false := by simp [h2]
      go_enter Try.func67, Try.ntmps67
      go_wp2
      go_ret
      exact ⟨by simp [inB, h1, h2], (Below.refl _ _).alloc (Nat.le_refl _) _⟩

set_option maxRecDepth 20000 in
set_option maxHeartbeats 400000 in
theorem took_yes (x : Ch) (by_ : Int) (w : World) (h : wrB by_ = true) :
    Calls Try.prog 88 #[chV x, .int .i64 by_] w fun e w' => e = .returned (.bool (tookB x.gone by_)) ∧ Below w.heap.size w w' := by
  obtain ⟨c, b, no, k, i, o, g⟩ := x
  have hb : 0 ≤ by_ ∧ by_ ≤ 3 := by simpa [wrB] using h
  obtain ⟨h0, h3⟩ := hb
  go_enter Try.func88, Try.ntmps88
  go_wp2
  go_quiet ((go_at_call 55; exact Calls.quiet_of_same (writer_any _ _)))
  go_wp2
  go_ret
  exact ⟨ret_b (took_bits _ _ h0 h3), below_drewN ((Below.refl _ _).alloc (Nat.le_refl _) _) _⟩

set_option maxRecDepth 20000 in
set_option maxHeartbeats 400000 in
theorem took_no (x : Ch) (by_ : Int) (w : World) (h : wrB by_ = false) :
    Calls Try.prog 88 #[chV x, .int .i64 by_] w fun e w' => e = .returned (.bool (tookB x.gone by_)) ∧ Below w.heap.size w w' := by
  obtain ⟨c, b, no, k, i, o, g⟩ := x
  go_enter Try.func88, Try.ntmps88
  go_wp2
  go_quiet ((go_at_call 55; exact Calls.quiet_of_same (writer_any _ _)))
  go_wp2
  go_ret
  exact ⟨ret_b (by simp [tookB, h]), below_drewN ((Below.refl _ _).alloc (Nat.le_refl _) _) _⟩

theorem tookAway_any (x : Ch) (by_ : Int) (w : World) :
    Calls Try.prog 88 #[chV x, .int .i64 by_] w fun e w' => e = .returned (.bool (tookB x.gone by_)) ∧ Below w.heap.size w w' := by
  cases h : wrB by_
  · exact took_no x by_ w h
  · exact took_yes x by_ w h

set_option maxRecDepth 20000 in
set_option maxHeartbeats 400000 in
theorem out_any (x : Ch) (seen by_ : Int) (w : World) :
    Calls Try.prog 68 #[chV x, .int .i64 seen, .int .i64 by_] w fun e w' => e = .returned (.bool (outB x.out x.gone seen by_)) ∧ Below w.heap.size w w' := by
  obtain ⟨c, b, no, k, i, o, g⟩ := x
  by_cases h1 : o = 0
  · have h1' : (o != 0) = false := by simp [h1]
    have H1 : Hid (o = 0) := h1
    clear h1
    go_enter Try.func68, Try.ntmps68
    go_wp2_with (go_at_call 88; refine (tookAway_any ⟨c, b, no, k, i, o, g⟩ _ _).mono ?_; rintro e w' ⟨rfl, hb⟩)
    go_ret
    exact ⟨ret_b (by simp [outB, H1.out]), below_after ((Below.refl _ _).alloc (Nat.le_refl _) _) hb⟩
  · have h1' : (o != 0) = true := by simp [h1]
    have H1 : Hid (o ≠ 0) := h1
    clear h1
    by_cases h2 : o ≤ seen
    · go_enter Try.func68, Try.ntmps68
      go_wp2
      go_ret
      exact ⟨ret_b (by simp [outB, H1.out, h2]), (Below.refl _ _).alloc (Nat.le_refl _) _⟩
    · go_enter Try.func68, Try.ntmps68
      go_wp2_with (go_at_call 88; refine (tookAway_any ⟨c, b, no, k, i, o, g⟩ _ _).mono ?_; rintro e w' ⟨rfl, hb⟩)
      go_ret
      exact ⟨ret_b (by have : ¬ o ≤ seen := by omega
                       simp [outB, this]), below_after ((Below.refl _ _).alloc (Nat.le_refl _) _) hb⟩

set_option maxRecDepth 20000 in
set_option maxHeartbeats 400000 in
theorem sees_any (x : Ch) (seen by_ : Int) (w : World) :
    Calls Try.prog 42 #[chV x, .int .i64 seen, .int .i64 by_] w fun e w' => e = .returned (.bool (seesB x.by_ x.inn x.out x.gone seen by_)) ∧ Below w.heap.size w w' := by
  obtain ⟨c, b, no, k, i, o, g⟩ := x
  cases hi : inB i b seen by_
  · go_enter Try.func42, Try.ntmps42
    go_wp2_with (go_at_call 67; refine (in_any ⟨c, b, no, k, i, o, g⟩ _ _ _).mono ?_; rintro e w' ⟨rfl, hb⟩)
    go_ret
    exact ⟨ret_b (by simp [seesB, hi]), below_after ((Below.refl _ _).alloc (Nat.le_refl _) _) hb⟩
  · go_enter Try.func42, Try.ntmps42
    go_wp2_with fail
    refine (in_any ⟨c, b, no, k, i, o, g⟩ _ _ _).mono ?_
    rintro e w1 ⟨rfl, hb⟩
    obtain ⟨hc, hf⟩ := bcell hb
    go_wp2_with fail
    refine (out_any ⟨c, b, no, k, i, o, g⟩ _ _ _).mono ?_
    rintro e w2 ⟨rfl, hb2⟩
    clear hc hf
    go_wp2
    go_ret
    exact ⟨ret_b (by simp [seesB, hi]), below_after (below_after ((Below.refl _ _).alloc (Nat.le_refl _) _) hb) hb2⟩

set_option maxRecDepth 20000 in
set_option maxHeartbeats 400000 in
theorem refTook_no (g n : Int) (w : World) (h : wrB n = false) :
    Calls Try.prog 105 #[.int .i64 g, .int .i64 n] w fun e w' => e = .returned (.bool (tookB g n)) ∧ w' = w := by
  go_enter Try.func105, Try.ntmps105
  go_wp2_with (go_at_call 15; refine (isWriter_any _ _).mono ?_; rintro e w' ⟨rfl, rfl⟩)
  go_ret
  exact ⟨ret_b (by simp [tookB, h]), rfl⟩

set_option maxRecDepth 20000 in
set_option maxHeartbeats 400000 in
theorem refTook_pos (g n : Int) (w : World) (h : wrB n = true) (hg : 0 ≤ g) (hg' : g ≤ 9223372036854775807) :
    Calls Try.prog 105 #[.int .i64 g, .int .i64 n] w fun e w' => e = .returned (.bool (tookB g n)) ∧ w' = w := by
  have hn : 0 ≤ n ∧ n ≤ 3 := by simpa [wrB] using h
  obtain ⟨n0, n3⟩ := hn
  obtain ⟨m, rfl⟩ := Int.eq_ofNat_of_zero_le n0
  go_enter Try.func105, Try.ntmps105
  go_wp2_with (go_at_call 15; refine (isWriter_any _ _).mono ?_; rintro e w' ⟨rfl, rfl⟩)
  go_loop [0, 5] (fun t i => ∃ k : Nat, k ≤ m ∧ i = .int .i64 k ∧ t = .int .i64 (g / 2 ^ k)) (fun _ i => m - (intOf i).toNat)
  case atStart => exact ⟨0, Nat.zero_le _, rfl, by simp⟩
  case round =>
    obtain ⟨k, hk, rfl, rfl⟩ := hrel
    have hd := pow_div_bounds g k hg hg'
    obtain ⟨hd0, hd1⟩ := hd
    by_cases hlt : k < m
    · go_wp2
      go_round
      case rel => exact ⟨k + 1, by omega, by go_num, by rw [half_pow]⟩
      case measure => simp [intOf]; omega
    · go_wp2
      go_ret
      obtain rfl : k = m := by omega
      exact ⟨ret_b (took_end g k h), rfl⟩

set_option maxRecDepth 20000 in
set_option maxHeartbeats 400000 in
theorem refTook_neg (g n : Int) (w : World) (h : wrB n = true) (hg : g < 0) (hg' : -9223372036854775808 ≤ g) :
    Calls Try.prog 105 #[.int .i64 g, .int .i64 n] w fun e w' => e = .returned (.bool (tookB g n)) ∧ w' = w := by
  by_cases hm : g = -9223372036854775808
  · subst hm
    go_enter Try.func105, Try.ntmps105
    go_wp2_with fail
    refine (isWriter_any _ _).mono ?_
    rintro e w' ⟨rfl, rfl⟩
    go_wp2_with fail
    rw [min_wrap]
    refine (refTook_pos 9223372036854775807 _ _ h (by omega) (by omega)).mono ?_
    rintro e w' ⟨rfl, rfl⟩
    go_wp2
    go_ret
    exact ⟨ret_b (took_flip_min n h), rfl⟩
  · go_enter Try.func105, Try.ntmps105
    go_wp2_with fail
    refine (isWriter_any _ _).mono ?_
    rintro e w' ⟨rfl, rfl⟩
    go_wp2_with fail
    refine (refTook_pos _ _ _ h (by omega) (by omega)).mono ?_
    rintro e w' ⟨rfl, rfl⟩
    go_wp2
    go_ret
    exact ⟨ret_b (took_flip g n h), rfl⟩

theorem refTook_any (g n : Int) (w : World) (hg : -9223372036854775808 ≤ g) (hg' : g ≤ 9223372036854775807) :
    Calls Try.prog 105 #[.int .i64 g, .int .i64 n] w fun e w' => e = .returned (.bool (tookB g n)) ∧ w' = w := by
  cases h : wrB n
  · exact refTook_no g n w h
  · by_cases h0 : 0 ≤ g
    · exact refTook_pos g n w h h0 hg'
    · exact refTook_neg g n w h (by omega) hg

end Go.Proofs.Ytebhbhcjfnohmab
