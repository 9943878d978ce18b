/-
  How a list of bytes that comes in as an argument lies in memory.
-/
import Derived.Test.YtnabhdfodckpdacGreatBegun
import Derived.Deep.Slices
import Derived.OpenShut
import Derived.Test.YtnabhdfodckpdacGreatFDeeds
import Derived.ProofKit
import Derived.ShutString
import Derived.ChangeOld
import Derived.Test.YtnabhdfodckpdacGreatWKnown
namespace Go.Proofs.YtnabhdfodckpdacGreat
set_option maxRecDepth 20000
open Go.RowKit Go.Deep
open Go.ChangeShapes Go.WideShapes
theorem Tryz.cellsInt : Tryz.prog.cellsOf 3 = 1 := by kernel_rfl
section
variable {H : Type} {enc : TypeId × Value → H} {w : World} {base : Nat} {spare : Nat → Bool} {held : Bool}
end
end Go.Proofs.YtnabhdfodckpdacGreat
/-
 How lists of bytes and deeds come in as arguments (the plain seat).
-/
namespace Go.Proofs.YtnabhdfodckpdacGreat
set_option maxRecDepth 20000
open Go.RowKit Go.Deep
open Go.ChangeShapes Go.WideShapes Go.ChangeAt
theorem Tryz.own : ownKnob Tryz.prog.godebug = none := by kernel_rfl
theorem Tryz.laidOut : laidOutB Tryz.prog = true := by kernel_rfl
section
variable {H : Type} {enc : TypeId × Value → H} {W : World} {base b0 : Nat} {spare : Nat → Bool} {held : Bool}
end
end Go.Proofs.YtnabhdfodckpdacGreat

/-
  How steps come in as arguments.
-/
namespace Go.Proofs.YtnabhdfodckpdacGreat
set_option maxRecDepth 20000
open Go.RowKit Go.Deep
open Go.ChangeShapes Go.WideShapes Go.ChangeAt
theorem Tryz.cellsTstep : Tryz.prog.cellsOf 68 = 5 := by kernel_rfl
theorem Tryz.cellsTextT : Tryz.prog.cellsOf 9 = 1 := by kernel_rfl
theorem list_fiveT {α : Type} {l : List α} (h : l.length = 5) : ∃ a0 a1 a2 a3 a4, l = [a0, a1, a2, a3, a4] := by
 match l, h with
 | [a0, a1, a2, a3, a4], _ => exact ⟨a0, a1, a2, a3, a4, rfl⟩
section
variable {H : Type} {enc : TypeId × Value → H} {W : World} {base : Nat} {spare : Nat → Bool} {held : Bool}
theorem tfive_of {cs : List Value} {fuel : Nat} {y : DataW H × List MemPlace} (hlen : cs.length = 5) (hf : DataW.trod enc Tryz.prog W base spare held fuel 68 cs = some y) :
 ∃ x : Tst, cs = (tsCells x).toList := by
 obtain ⟨xs, m, _, _, _, hxl, hq⟩ := DataW.trod_struct Tryz.underlying68 hf
 have hxl5 : xs.length = 5 := hxl
 obtain ⟨a0, a1, a2, a3, a4, rfl⟩ := list_fiveT hlen
 have q0 := hq 0 _ rfl
 have q1 := hq 1 _ rfl
 have q2 := hq 2 _ rfl
 have q3 := hq 3 _ rfl
 have q4 := hq 4 _ rfl
 rw [List.getElem?_eq_getElem (show 0 < xs.length by omega)] at q0
 rw [List.getElem?_eq_getElem (show 1 < xs.length by omega)] at q1
 rw [List.getElem?_eq_getElem (show 2 < xs.length by omega)] at q2
 rw [List.getElem?_eq_getElem (show 3 < xs.length by omega)] at q3
 rw [List.getElem?_eq_getElem (show 4 < xs.length by omega)] at q4
 obtain ⟨n0, k0, _, _⟩ := DataW.trod_int Tryz.underlying3 q0
 obtain ⟨n1, k1, _, _⟩ := DataW.trod_int Tryz.underlying3 q1
 obtain ⟨n2, k2, _, _⟩ := DataW.trod_int Tryz.underlying3 q2
 obtain ⟨n3, k3, _, _⟩ := DataW.trod_int Tryz.underlying3 q3
 obtain ⟨n4, k4, _⟩ := DataW.trod_string Tryz.underlying9 q4
 simp [Tryz.cellsInt] at k0 k1 k2 k3
 simp [Tryz.cellsTextT] at k4
 subst k0 k1 k2 k3 k4
 exact ⟨⟨n0, n1, n2, n3, n4⟩, rfl⟩
theorem open_tsat {a : Addr} {n : Nat} {cs : List Value} {y : DataW H × List MemPlace} (hc : W.cells? base a 5 = some cs) (h : DataW.trod enc Tryz.prog W base spare held n 68 cs = some y) :
 ∃ x : Tst, a.spot = none ∧ TsAt W a.block a.off x := by
 obtain ⟨_, hlen, hcell⟩ := World.cells?_some hc
 obtain ⟨x, rfl⟩ := tfive_of hlen h
 obtain ⟨b, o, spot⟩ := a
 have g0 := hcell 0 (by omega)
 have hspot : spot = none := by simpa [Addr.add] using World.cell?_spot g0
 subst hspot
 have g0' : W.cell? ⟨b, o, none⟩ = some (.int .i64 x.kind) := by simpa [Addr.add] using g0
 have g1 := hcell 1 (by omega)
 have g2 := hcell 2 (by omega)
 have g3 := hcell 3 (by omega)
 have g4 := hcell 4 (by omega)
 refine ⟨x, rfl, ⟨World.block_lt_of_cell? W _ g0', g0', ?_, ?_, ?_, ?_⟩⟩
 ·simpa [Addr.add] using g1
 ·simpa [Addr.add] using g2
 ·simpa [Addr.add] using g3
 ·simpa [Addr.add] using g4
theorem tsteps_of {len : Nat} {p : Nat → Tst → Prop} (h : ∀ i, i < len → ∃ x, p i x) : ∃ xs : List Tst, xs.length = len ∧ ∀ i (hi : i < xs.length), p i xs[i] := by
 induction len with
 | zero => exact ⟨[], rfl, fun i hi => absurd hi (Nat.not_lt_zero _)⟩
 | succ n ih =>
  obtain ⟨xs, hl, hx⟩ := ih (fun i hi => h i (by omega))
  obtain ⟨x, hp⟩ := h n (by omega)
  refine ⟨xs ++ [x], by simp [hl], fun i hi => ?_⟩
  by_cases e : i < xs.length
  ·rw [List.getElem_append_left e]
   exact hx i e
  ·have : i = n := by simp [hl] at hi; omega
   subst this
   rw [List.getElem_append_right (by omega)]
   simpa using hp
theorem open_tsteps {a : Option Addr} {len cap : Nat} {d : DataW H} {p : List MemPlace} (h : DataW.Trod enc Tryz.prog W base spare held 60 (.slice a len cap) d p) : ∃ xs : List Tst, TLst W (.slice a len cap) xs := by
 obtain ⟨fuel, hf0⟩ := h
 have hf : DataW.trod enc Tryz.prog W base spare held fuel 60 [.slice a len cap] = some (d, p) := hf0
 rcases open_slice Tryz.underlying60 hf with ⟨hcs, _⟩ | ⟨ad, len', cap', m, n, D, Pl, hcs, hb, hl, hm, hmm, _, hx⟩
 ·simp at hcs
  obtain ⟨rfl, rfl, rfl⟩ := hcs
  exact ⟨[], ⟨_, _, _, rfl, rfl, Nat.le_refl _, .inl rfl⟩⟩
 ·simp at hcs
  obtain ⟨rfl, rfl, rfl⟩ := hcs
  by_cases h0 : len = 0
  ·subst h0
   exact ⟨[], ⟨_, _, _, rfl, rfl, Nat.zero_le _, .inl rfl⟩⟩
  ·have hle : len ≤ m := by rw [hmm]; split <;> omega
   rw [Tryz.cellsTstep] at hx
   have one : ∀ i, i < len → ∃ x : Tst, (ad.add (i * 5)).spot = none ∧ TsAt W (ad.add (i * 5)).block (ad.add (i * 5)).off x := fun i hi => by
    obtain ⟨cs', h1, h2⟩ := hx i (by omega)
    exact open_tsat h1 h2
   obtain ⟨b, off, spot⟩ := ad
   have hs0 : spot = none := by
    obtain ⟨x, hs, _⟩ := one 0 (by omega)
    simpa [Addr.add] using hs
   subst hs0
   obtain ⟨xs, hxl, hxp⟩ := tsteps_of (len := len) (p := fun i x => TsAt W b (off + i * 5) x) (fun i hi => by
    obtain ⟨x, _, hat⟩ := one i hi
    rw [addr_add] at hat
    exact ⟨x, hat⟩)
   exact ⟨xs, ⟨_, len, cap, rfl, hxl, hl, .inr ⟨b, off, rfl, ⟨(hxp 0 (by omega)).lt, fun i hi => hxp i hi⟩⟩⟩⟩
end
end Go.Proofs.YtnabhdfodckpdacGreat
