/-
  What the rows of the deeds' laws share: how a deed comes in as an argument; that a world in which the listed variables lie is ready; one such world.
-/
import Derived.Test.YtnnfddemhhpfoaaDoorDReady
import Derived.Deep.Slices
import Derived.OpenShut
import Derived.Stop.LaidErr
import Derived.Lib.LaidTab
import Derived.Lay
import Derived.LaidOnce
import Derived.ProofKit
import Derived.ShutString
import Derived.ChangeOld
namespace Go.Proofs.YtnnfddemhhpfoaaDoor
open Go.RowKit Go.Deep
open Go.ChangeShapes Go.WideShapes Go.ChangeAt

theorem Tryd.own : ownKnob Tryd.prog.godebug = none := by kernel_rfl
theorem Tryd.laidOut : laidOutB Tryd.prog = true := by kernel_rfl
theorem Tryd.cellsDeed : Tryd.prog.cellsOf 23 = 7 := by kernel_rfl
theorem Tryd.cellsInt1 : Tryd.prog.cellsOf 3 = 1 := by kernel_rfl
theorem Tryd.cellsStr1 : Tryd.prog.cellsOf 9 = 1 := by kernel_rfl

theorem list_seven {α : Type} : ∀ {l : List α}, l.length = 7 → ∃ a0 a1 a2 a3 a4 a5 a6, l = [a0, a1, a2, a3, a4, a5, a6]
  | [a0, a1, a2, a3, a4, a5, a6], _ => ⟨a0, a1, a2, a3, a4, a5, a6, rfl⟩
  | [], h => by simp at h
  | [_], h => by simp at h
  | [_, _], h => by simp at h
  | [_, _, _], h => by simp at h
  | [_, _, _, _], h => by simp at h
  | [_, _, _, _, _], h => by simp at h
  | [_, _, _, _, _, _], h => by simp at h
  | _ :: _ :: _ :: _ :: _ :: _ :: _ :: _ :: _, h => by simp at h

section
variable {H : Type} {enc : TypeId × Value → H} {W : World} {base b0 : Nat} {spare : Nat → Bool} {held : Bool}

theorem open_deed {v : Value} {d : DataW H} {p : List MemPlace} (hv : Value.okWide Tryd.prog W .any b0 23 v) (h : DataW.Trod enc Tryd.prog W base spare held 23 v d p) : ∃ x : Dd, v = ddV x := by
  obtain ⟨cs, rfl, hsz⟩ := okWide_struct Tryd.underlying23 hv
  obtain ⟨fuel, hf⟩ := h
  have hlen : cs.toList.length = 7 := by rw [Array.length_toList, hsz, Tryd.cellsDeed]
  have hf' : DataW.trod enc Tryd.prog W base spare held fuel 23 cs.toList = some (d, p) := hf
  obtain ⟨xs, m, _, _, _, hxl, hq⟩ := DataW.trod_struct Tryd.underlying23 hf'
  have hxl7 : xs.length = 7 := hxl
  obtain ⟨c0, c1, c2, c3, c4, c5, c6, hl⟩ := list_seven hlen
  obtain rfl : cs = #[c0, c1, c2, c3, c4, c5, c6] := Array.toList_inj.1 hl
  · clear hlen hl
    have fld : ∀ i, i < 7 → ∃ z, xs[i]? = some z := fun i hi => ⟨_, List.getElem?_eq_getElem (by omega)⟩
    have q0 := hq 0 _ rfl
    have q1 := hq 1 _ rfl
    have q2 := hq 2 _ rfl
    have q3 := hq 3 _ rfl
    have q4 := hq 4 _ rfl
    have q5 := hq 5 _ rfl
    have q6 := hq 6 _ rfl
    obtain ⟨z0, e0⟩ := fld 0 (by omega)
    obtain ⟨z1, e1⟩ := fld 1 (by omega)
    obtain ⟨z2, e2⟩ := fld 2 (by omega)
    obtain ⟨z3, e3⟩ := fld 3 (by omega)
    obtain ⟨z4, e4⟩ := fld 4 (by omega)
    obtain ⟨z5, e5⟩ := fld 5 (by omega)
    obtain ⟨z6, e6⟩ := fld 6 (by omega)
    rw [e0] at q0
    rw [e1] at q1
    rw [e2] at q2
    rw [e3] at q3
    rw [e4] at q4
    rw [e5] at q5
    rw [e6] at q6
    obtain ⟨n0, k0, _, _⟩ := DataW.trod_int Tryd.underlying3 q0
    obtain ⟨n1, k1, _, _⟩ := DataW.trod_int Tryd.underlying3 q1
    obtain ⟨n2, k2, _, _⟩ := DataW.trod_int Tryd.underlying3 q2
    obtain ⟨n3, k3, _, _⟩ := DataW.trod_int Tryd.underlying3 q3
    obtain ⟨n4, k4, _, _⟩ := DataW.trod_int Tryd.underlying3 q4
    obtain ⟨n5, k5, _, _⟩ := DataW.trod_int Tryd.underlying3 q5
    have q6' := q6
    obtain ⟨s6, k6, _⟩ := DataW.trod_string Tryd.underlying9 q6
    simp [Tryd.cellsInt1] at k0 k1 k2 k3 k4 k5
    simp [Tryd.cellsStr1] at k6
    subst k0 k1 k2 k3 k4 k5 k6
    exact ⟨⟨n0, n1, n2, n3, n4, n5, s6⟩, rfl⟩
end

abbrev laidL : List (String × DataW Unit) := Rows.deedOneRow.laid

theorem tabEq : (Rows.laid_internal_strconv_uint64pow10 : DataW Unit) = Lib.tabData .u64 Lib.pow10Tab := by kernel_rfl

theorem starEq : "*" ++ "errors.errorString" = "*errors.errorString" := by decide

theorem errRow (u : TypeId) (h : Tryd.prog.typeName? 3 u = some "*errors.errorString") : u = 99 :=
  typeName_ptr_named (nm := "errors.errorString") (by rw [starEq]; kernel_rfl) (by kernel_rfl) (by decide) u (by rw [starEq]; exact h)

theorem ready_of {W : World} (hL : laidMet Tryd.prog laidL W) (hsh : W.ShapedOpen Tryd.prog) : Ready W where
  tab := Lib.tabIs_of_head (g := 3) (t := 87) (e := 73) (n := 20) (by kernel_rfl) (by kernel_rfl) (by kernel_rfl) (by kernel_rfl) (by kernel_rfl) (by kernel_rfl) (tabEq ▸ hL.tail.tail)
  syn := by
    obtain ⟨a, _, h, _, _, _⟩ := laid_sentinel (g := 1) (ti := 52) (tp := 99) (te := 101) (ts := 9) hL.tail.tail.tail.tail.tail (by kernel_rfl) (by kernel_rfl) Tryd.underlying52 errRow Tryd.underlying99 Tryd.underlying101 rfl rfl Tryd.underlying9 (by kernel_rfl) (by kernel_rfl)
    exact ⟨_, _, h⟩
  rng := by
    obtain ⟨a, _, h, _, _, _⟩ := laid_sentinel (g := 2) (ti := 52) (tp := 99) (te := 101) (ts := 9) hL.tail.tail.tail.tail (by kernel_rfl) (by kernel_rfl) Tryd.underlying52 errRow Tryd.underlying99 Tryd.underlying101 rfl rfl Tryd.underlying9 (by kernel_rfl) (by kernel_rfl)
    exact ⟨_, _, h⟩
  mx := Tryd.laysM147.s1_3 W hsh

end Go.Proofs.YtnnfddemhhpfoaaDoor
