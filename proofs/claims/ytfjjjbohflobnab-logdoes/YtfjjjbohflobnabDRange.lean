/-
  The document's DeedFault, where a number is out of its bounds.
-/
import Derived.Test.YtfjjjbohflobnabDLeaf
namespace Go.Proofs.Ytfjjjbohflobnab
open Go.RowKit

theorem unplaced {d : Dd} (h : placedB d = false) : wrB d.by_ = false ∨ (wrB d.by_ = true ∧ d.no < 1) ∨ (wrB d.by_ = true ∧ 1 ≤ d.no ∧ 120 < d.no) ∨ (wrB d.by_ = true ∧ 1 ≤ d.no ∧ d.no ≤ 120 ∧ d.seen < 0) ∨ (wrB d.by_ = true ∧ 1 ≤ d.no ∧ d.no ≤ 120 ∧ 0 ≤ d.seen ∧ 120 < d.seen)
    ∨ (wrB d.by_ = true ∧ 1 ≤ d.no ∧ d.no ≤ 120 ∧ 0 ≤ d.seen ∧ d.seen ≤ 120 ∧ d.at_ < 0) ∨ (wrB d.by_ = true ∧ 1 ≤ d.no ∧ d.no ≤ 120 ∧ 0 ≤ d.seen ∧ d.seen ≤ 120 ∧ 0 ≤ d.at_ ∧ 200 < d.at_) := by
  cases hw : wrB d.by_
  · exact .inl rfl
  · simp [placedB, hw, withinB] at h
    simp
    omega

theorem placed_parts {d : Dd} (h : placedB d = true) : wrB d.by_ = true ∧ 1 ≤ d.no ∧ d.no ≤ 120 ∧ 0 ≤ d.seen ∧ d.seen ≤ 120 ∧ 0 ≤ d.at_ ∧ d.at_ ≤ 200 := by
  simp [placedB, withinB] at h
  obtain ⟨h1, ⟨h2, h3⟩, ⟨h4, h5⟩, h6, h7⟩ := h
  exact ⟨h1, h2, h3, h4, h5, h6, h7⟩

set_option maxHeartbeats 4000000 in
theorem fault_range (d : Dd) (w : World) (hk : d.kind = 1 ∨ d.kind = 2) (hp : placedB d = false) :
    Calls Try.prog 83 #[ddV d] w fun e w' => e = .returned (.int .i64 (checkC d)) ∧ Below w.heap.size w w' := by
  have HC : Hid (checkC d = 1) := by
    show checkC d = 1
    rw [checkC, if_neg (by omega), if_pos hp]
  have hu := unplaced hp
  obtain ⟨kind, by_, no, seen, at_, many, text⟩ := d
  clear hp
  rcases hu with hu | ⟨hu, h1⟩ | ⟨hu, h1, h2⟩ | ⟨hu, h1, h2, h3⟩ | ⟨hu, h1, h2, h3, h4⟩ | ⟨hu, h1, h2, h3, h4, h5⟩ | ⟨hu, h1, h2, h3, h4, h5, h6⟩
  all_goals
    rcases hk with rfl | rfl
    all_goals
      go_enter Try.func83, Try.ntmps83
      go_wp2_with (go_at_call 12; refine (isWriter_any _ _).mono ?_; rintro e w' ⟨rfl, rfl⟩)
      go_ret
      exact ⟨ret_int HC.out.symm, (Below.refl _ _).alloc (Nat.le_refl _) _⟩

end Go.Proofs.Ytfjjjbohflobnab
