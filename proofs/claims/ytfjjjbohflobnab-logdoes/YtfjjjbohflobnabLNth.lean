/-
  What the laws of the log share besides: the deed of a number; two lists that are one.
-/
import Derived.Test.YtfjjjbohflobnabLRun
import Derived.Test.YtfjjjbohflobnabFSame
namespace Go.Proofs.Ytfjjjbohflobnab
open Go.RowKit

theorem nth_at {b : Bk} {j : Nat} (h : j < b.ds.length) : nthD b ((j : Int) + 1) = b.ds[j] ∧ isD b ((j : Int) + 1) = true := by
  have hl : b.len = (b.ds.length : Int) := rfl
  refine ⟨?_, by rw [isD, hl]; exact decide_eq_true (by omega)⟩
  rw [nthD, hl, if_pos (by omega), show ((j : Int) + 1 - 1).toNat = j by omega, List.getD_eq_getElem?_getD, List.getElem?_eq_getElem h]
  rfl

theorem same_eq {w : World} {va vb : Value} {a : List Ch} (ha : Lst w va a) (hb : Lst w vb a) (hl : a.length ≤ 1000) :
    Calls Try.prog 26 #[va, vb] w fun e w' => e = .returned (.bool true) ∧ Below w.heap.size w w' := by
  refine (sameChars_lst ha hb hl hl).mono ?_
  rintro e w' ⟨s, rfl, hs, hb⟩
  exact ⟨ret_b (hs.2 rfl), hb⟩

end Go.Proofs.Ytfjjjbohflobnab
