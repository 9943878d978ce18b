/-
  Plain mathematics of a byte's fate: which bit is in Gone, who knows what, who sees what. No walk.
-/
import Derived.WalkKit
import Derived.WalkSpells
import Derived.WalkLawsBesides
namespace Go.Proofs.Ytebhbhcjfnohmab
open Go.RowKit

/-- A byte of a text, as numbers. -/
structure Ch where
  c : Int
  by_ : Int
  no : Int
  k : Int
  inn : Int
  out : Int
  gone : Int

def wrB (w : Int) : Bool := decide (0 ≤ w ∧ w ≤ 3)
def withinB (n lo hi : Int) : Bool := decide (lo ≤ n ∧ n ≤ hi)
def bitB (g w : Int) : Bool := decide (g / 2 ^ w.toNat % 2 = 1)
def tookB (g w : Int) : Bool := wrB w && bitB g w
def inB (i b seen by_ : Int) : Bool := decide (i ≤ seen ∨ b = by_)
def outB (o g seen by_ : Int) : Bool := decide (o ≠ 0 ∧ o ≤ seen) || tookB g by_
def seesB (b i o g seen by_ : Int) : Bool := inB i b seen by_ && !outB o g seen by_

theorem and_bit (n : Int) (k : Nat) (hk : k ≤ 3) : bits .and .i64 n (2 ^ k) = n / 2 ^ k % 2 * 2 ^ k := by
  have h2 : (BitVec.ofInt 64 (2 ^ k)).toNat = 2 ^ k := by
    rcases (show k = 0 ∨ k = 1 ∨ k = 2 ∨ k = 3 by omega) with rfl | rfl | rfl | rfl <;> decide
  have key : (BitVec.ofInt 64 n &&& BitVec.ofInt 64 (2 ^ k)).toNat = (n % ((2 ^ 64 : Nat) : Int)).toNat / 2 ^ k % 2 * 2 ^ k := by
    rw [BitVec.toNat_and, BitVec.toNat_ofInt, h2, nat_bit]
  show IntKind.i64.wrap ((BitVec.ofInt 64 n &&& BitVec.ofInt 64 (2 ^ k)).toNat : Nat) = _
  rw [key, IntKind.wrap_i64]
  rcases (show k = 0 ∨ k = 1 ∨ k = 2 ∨ k = 3 by omega) with rfl | rfl | rfl | rfl <;> simp <;> omega

theorem took_bits (g w : Int) (h0 : 0 ≤ w) (h3 : w ≤ 3) : (bits BinOp.and IntKind.i64 g (IntKind.i64.wrap (2 ^ w.toNat)) != 0) = tookB g w := by
  obtain ⟨k, rfl⟩ := Int.eq_ofNat_of_zero_le h0
  have hk : k ≤ 3 := by omega
  have e : IntKind.i64.wrap ((2 : Int) ^ (k : Int).toNat) = 2 ^ k := by
    rcases (show k = 0 ∨ k = 1 ∨ k = 2 ∨ k = 3 by omega) with rfl | rfl | rfl | rfl <;> decide
  rw [e, and_bit g k hk]
  have hw : wrB (k : Int) = true := by simp [wrB]; omega
  simp only [tookB, bitB, hw, Bool.true_and, Int.toNat_natCast]
  rw [Bool.eq_iff_iff, bne_iff_ne, decide_eq_true_iff]
  rcases (show k = 0 ∨ k = 1 ∨ k = 2 ∨ k = 3 by omega) with rfl | rfl | rfl | rfl <;> simp <;> omega

theorem pow_div_bounds (g : Int) (k : Nat) (h : 0 ≤ g) (h' : g ≤ 9223372036854775807) : 0 ≤ g / 2 ^ k ∧ g / 2 ^ k ≤ 9223372036854775807 := by
  have hp : (0 : Int) < 2 ^ k := Int.pow_pos (by decide)
  refine ⟨Int.ediv_nonneg h (by omega), ?_⟩
  have := Int.ediv_le_self (2 ^ k) h
  omega

theorem half_pow (g : Int) (k : Nat) : g / 2 ^ (k + 1) = g / 2 ^ k / 2 := by
  rw [Int.pow_succ, Int.ediv_ediv_of_nonneg (Int.pow_nonneg (by decide))]

theorem took_end (g : Int) (m : Nat) (h : wrB (m : Int) = true) : (g / 2 ^ m % 2 == 1) = tookB g m := by
  rw [tookB, h, Bool.true_and, bitB, Int.toNat_natCast, Bool.eq_iff_iff]
  simp

theorem took_flip (g n : Int) (h : wrB n = true) : (!tookB (-g - 1) n) = tookB g n := by
  have hn : 0 ≤ n ∧ n ≤ 3 := by simpa [wrB] using h
  rw [tookB, tookB, h, Bool.true_and, Bool.true_and, bitB, bitB]
  rcases (show n = 0 ∨ n = 1 ∨ n = 2 ∨ n = 3 by omega) with rfl | rfl | rfl | rfl <;> rw [Bool.eq_iff_iff] <;> simp <;> omega

theorem took_flip_min (n : Int) (h : wrB n = true) : (!tookB 9223372036854775807 n) = tookB (-9223372036854775808) n := by
  have e : (9223372036854775807 : Int) = - -9223372036854775808 - 1 := by omega
  rw [e]
  exact took_flip (-9223372036854775808) n h

theorem min_wrap : wrap64 (wrap64 9223372036854775808 - 1) = 9223372036854775807 := by decide +kernel

theorem bcell {W w1 : World} (hb : Below W.heap.size W w1) : (∀ b o, b < W.heap.size → w1.cell? ⟨b, o, none⟩ = W.cell? ⟨b, o, none⟩) ∧ (∀ b o, b < W.heap.size → w1.frozen? ⟨b, o, none⟩ = W.frozen? ⟨b, o, none⟩) :=
  ⟨fun b o h => hb.cell (p := ⟨b, o, none⟩) h, fun b o h => hb.frozen (p := ⟨b, o, none⟩) h⟩

theorem below_after {w W w1 : World} (h : Below w.heap.size w W) (hb : Below W.heap.size W w1) : Below w.heap.size w w1 :=
  h.trans (hb.mono h.size)

end Go.Proofs.Ytebhbhcjfnohmab
