/-
  The law's own example (charsBegun) is met, in every world.
-/
import Derived.Test.YtebhbhcjfnohmabBehind
import Derived.Test.YtebhbhcjfnohmabCheck
import Derived.Laws.BytesArg
namespace Go.Proofs.Ytebhbhcjfnohmab
open Go.RowKit

theorem own_string {w : World} {base : Nat} {v : Value} {zs : List Int} (h : w.ownsRow base 5 1 v zs.length (cells8 zs)) :
    (convert 61 9 v).run Try.prog w = .ok (.string (strOfNums zs)) w := by
  obtain ⟨h1, h2⟩ := h
  rcases h2 with ⟨rfl, hn⟩ | ⟨g, cap, cur, rfl, hg, hh, hle, hm, hsz, hx⟩
  · obtain rfl : zs = [] := List.length_eq_zero_iff.1 hn
    rw [run_convert_bytes_nil w 61 5 Try.underlying61 Try.underlying5 0 0 9 Try.underlying9]
    rfl
  · refine run_convert_bytes_arg w 61 5 Try.underlying61 Try.underlying5 g 0 zs.length cap zs rfl ?_ 9 Try.underlying9
    intro i hi
    have hown : w.ownsRow base 5 1 (.slice (some ⟨g, 0, none⟩) zs.length cap) zs.length (cells8 zs) := ⟨h1, .inr ⟨g, cap, cur, rfl, hg, hh, hle, hm, hsz, hx⟩⟩
    have := hown.cellAt i (by omega)
    rw [Nat.zero_add, this]
    simp [cells8, List.getElem?_eq_getElem hi, List.getD]

def beg : List Ch := [⟨97, 0, 1, 0, 1, 0, 0⟩, ⟨98, 1, 1, 0, 1073741824, 0, 0⟩, ⟨99, 2, 1, 0, 2, 3, 1⟩]

theorem beg_v1 : vw beg 2 0 = [97] := by decide +kernel
theorem beg_v2 : vw beg 2 1 = [97, 98, 99] := by decide +kernel
theorem beg_v3 : vw beg 3 2 = [97] := by decide +kernel

theorem beg_h0 : hitAt beg 2 1 3 0 = false := by decide +kernel
theorem beg_h1 : hitAt beg 2 1 3 1 = false := by decide +kernel
theorem beg_h2 : hitAt beg 2 1 3 2 = true := by decide +kernel
theorem beg_behind {r : Int} (h : BehindIs beg 2 1 3 r) : r = 3 := by
  rcases h with ⟨h, _⟩ | ⟨_, ⟨k, hk, hno, hyes, rfl⟩ | ⟨hno, _⟩⟩
  · cases h
  · have h3 : k < 3 := hk
    rcases (show k = 0 ∨ k = 1 ∨ k = 2 by omega) with rfl | rfl | rfl
    · rw [beg_h0] at hyes; cases hyes
    · rw [beg_h1] at hyes; cases hyes
    · rfl
  · have := hno 2 (by decide)
    rw [beg_h2] at this; cases this
theorem beg_f0 : faultAt beg 3 0 = 0 := by decide +kernel
theorem beg_f1 : faultAt beg 3 1 = 0 := by decide +kernel
theorem beg_f2 : faultAt beg 3 2 = 0 := by decide +kernel
theorem beg_check {r : Int} (h : CheckIs beg 3 r) : r = 0 := by
  rcases h with ⟨h, _⟩ | ⟨_, ⟨k, hk, _, hyes, hr⟩ | ⟨_, rfl⟩⟩
  · exact absurd h (by decide)
  · have h3 : k < 3 := hk
    rcases (show k = 0 ∨ k = 1 ∨ k = 2 by omega) with rfl | rfl | rfl
    · rw [beg_f0] at hyes; exact absurd hyes.symm hr
    · rw [beg_f1] at hyes; exact absurd hyes.symm hr
    · rw [beg_f2] at hyes; exact absurd hyes.symm hr
  · rfl
theorem beg_s0 : sameAt beg ⟨99, 2, 1, 0, 2, 3, 1⟩ 0 = false := by decide +kernel
theorem beg_s1 : sameAt beg ⟨99, 2, 1, 0, 2, 3, 1⟩ 1 = false := by decide +kernel
theorem beg_s2 : sameAt beg ⟨99, 2, 1, 0, 2, 3, 1⟩ 2 = true := by decide +kernel
theorem beg_find {r : Int} (h : FindIs beg ⟨99, 2, 1, 0, 2, 3, 1⟩ r) : r = 2 := by
  rcases h with ⟨k, hk, _, hyes, rfl⟩ | ⟨hno, _⟩
  · have h3 : k < 3 := hk
    rcases (show k = 0 ∨ k = 1 ∨ k = 2 by omega) with rfl | rfl | rfl
    · rw [beg_s0] at hyes; cases hyes
    · rw [beg_s1] at hyes; cases hyes
    · rfl
  · have := hno 2 (by decide)
    rw [beg_s2] at this; cases this

def begCells : Array Value := #[.int .u8 97, .int .i64 0, .int .i64 1, .int .i64 0, .int .i64 1, .int .i64 0, .int .i64 0, .int .u8 98, .int .i64 1, .int .i64 1, .int .i64 0, .int .i64 1073741824, .int .i64 0, .int .i64 0,
  .int .u8 99, .int .i64 2, .int .i64 1, .int .i64 0, .int .i64 2, .int .i64 3, .int .i64 1]

theorem beg_row (w : World) : Row (w.alloc (.cells begCells 65)) w.heap.size 0 beg := by
  refine ⟨by simp, fun i hi => ?_⟩
  have h3 : i < 3 := hi
  rcases (show i = 0 ∨ i = 1 ∨ i = 2 by omega) with rfl | rfl | rfl <;> unfold At <;> simp [go_sem, begCells, beg]

theorem str_97 : strOfNums [97] = ⟨#[97]⟩ := by rfl
theorem str_abc : strOfNums [97, 98, 99] = ⟨#[97, 98, 99]⟩ := by rfl

end Go.Proofs.Ytebhbhcjfnohmab
