/-
  How a mark comes in as an argument.
-/
import Derived.Test.YtebhbhcjfnohmabORow
import Derived.Test.YtebhbhcjfnohmabCLeaf
namespace Go.Proofs.Ytebhbhcjfnohmab
open Go.RowKit Go.Deep
open Go.ChangeShapes Go.WideShapes Go.ChangeAt

set_option maxRecDepth 20000 in
theorem Try.cellsMark : Try.prog.cellsOf 69 = 4 := by kernel_rfl
set_option maxRecDepth 20000 in
theorem Try.cellsBoolC : Try.prog.cellsOf 4 = 1 := by kernel_rfl

set_option maxRecDepth 20000 in
theorem list_four {α : Type} : ∀ {l : List α}, l.length = 4 → ∃ a0 a1 a2 a3, l = [a0, a1, a2, a3]
  | [a0, a1, a2, a3], _ => ⟨a0, a1, a2, a3, rfl⟩
  | [], h => by simp at h
  | [_], h => by simp at h
  | [_, _], h => by simp at h
  | [_, _, _], h => by simp at h
  | _ :: _ :: _ :: _ :: _ :: _, h => by simp at h

section
variable {H : Type} {enc : TypeId × Value → H} {W : World} {base b0 : Nat} {spare : Nat → Bool} {held : Bool}

set_option maxRecDepth 20000 in
theorem four_of {cs : List Value} {fuel : Nat} {y : DataW H × List MemPlace} (hlen : cs.length = 4) (hf : DataW.trod enc Try.prog W base spare held fuel 69 cs = some y) :
    ∃ x : Mk, cs = [.bool x.start, .int .i64 x.by_, .int .i64 x.no, .int .i64 x.k] := by
  obtain ⟨xs, m, _, _, _, hxl, hq⟩ := DataW.trod_struct Try.underlying69 hf
  have hxl4 : xs.length = 4 := hxl
  obtain ⟨c0, c1, c2, c3, rfl⟩ := list_four hlen
  have fld : ∀ i, i < 4 → ∃ z, xs[i]? = some z := fun i hi => ⟨_, List.getElem?_eq_getElem (by omega)⟩
  have q0 := hq 0 _ rfl
  have q1 := hq 1 _ rfl
  have q2 := hq 2 _ rfl
  have q3 := hq 3 _ rfl
  obtain ⟨z0, e0⟩ := fld 0 (by omega)
  obtain ⟨z1, e1⟩ := fld 1 (by omega)
  obtain ⟨z2, e2⟩ := fld 2 (by omega)
  obtain ⟨z3, e3⟩ := fld 3 (by omega)
  rw [e0] at q0
  rw [e1] at q1
  rw [e2] at q2
  rw [e3] at q3
  obtain ⟨n0, k0, _⟩ := DataW.trod_bool Try.underlying4 q0
  obtain ⟨n1, k1, _, _⟩ := DataW.trod_int Try.underlying3 q1
  obtain ⟨n2, k2, _, _⟩ := DataW.trod_int Try.underlying3 q2
  obtain ⟨n3, k3, _, _⟩ := DataW.trod_int Try.underlying3 q3
  simp [Try.cellsInt] at k1 k2 k3
  simp [Try.cellsBoolC] at k0
  subst k0 k1 k2 k3
  exact ⟨⟨n0, n1, n2, n3⟩, rfl⟩

set_option maxRecDepth 20000 in
/-- A MARK. -/
theorem open_mark {v : Value} {d : DataW H} {p : List MemPlace} (hv : Value.okWide Try.prog W .any b0 69 v) (h : DataW.Trod enc Try.prog W base spare held 69 v d p) : ∃ x : Mk, v = mkV x := by
  obtain ⟨cs, rfl, hsz⟩ := okWide_struct Try.underlying69 hv
  obtain ⟨fuel, hf⟩ := h
  have hlen : cs.toList.length = 4 := by rw [Array.length_toList, hsz, Try.cellsMark]
  obtain ⟨x, hx⟩ := four_of hlen (show DataW.trod enc Try.prog W base spare held fuel 69 cs.toList = some (d, p) from hf)
  refine ⟨x, ?_⟩
  have : cs = #[.bool x.start, .int .i64 x.by_, .int .i64 x.no, .int .i64 x.k] := Array.toList_inj.1 hx
  rw [this]
end

end Go.Proofs.Ytebhbhcjfnohmab
