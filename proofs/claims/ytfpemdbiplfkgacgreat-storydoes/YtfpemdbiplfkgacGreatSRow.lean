/-
  How a list of bytes that comes in as an argument lies in memory.
-/
import Derived.Test.YtfpemdbiplfkgacGreatDPlain
import Derived.Deep.Slices
import Derived.OpenShut
import Derived.Test.YtfpemdbiplfkgacGreatLPlain
import Derived.ProofKit
import Derived.ShutString
import Derived.ChangeOld
import Derived.Test.YtfpemdbiplfkgacGreatTClM
namespace Go.Proofs.YtfpemdbiplfkgacGreat
open Go.RowKit Go.Deep
open Go.ChangeShapes Go.WideShapes

set_option maxRecDepth 20000 in
theorem Tryz.cellsChar : Tryz.prog.cellsOf 71 = 7 := by kernel_rfl
set_option maxRecDepth 20000 in
theorem Tryz.cellsInt : Tryz.prog.cellsOf 3 = 1 := by kernel_rfl
set_option maxRecDepth 20000 in
theorem Tryz.cellsByte : Tryz.prog.cellsOf 5 = 1 := by kernel_rfl

/-- A number that fits an int. -/
def Fits (n : Int) : Prop := -9223372036854775808 ≤ n ∧ n ≤ 9223372036854775807

set_option maxRecDepth 20000 in
theorem fits_of {n : Int} (h : (Lit.int .i64 n).wf = true) : Fits n := by
  have := bounds_i64 h
  exact ⟨by omega, by omega⟩

section
variable {H : Type} {enc : TypeId × Value → H} {w : World} {base : Nat} {spare : Nat → Bool} {held : Bool}

set_option maxRecDepth 20000 in
theorem open_char {a : Addr} {n : Nat} {cs : List Value} {y : DataW H × List MemPlace} (hc : w.cells? base a 7 = some cs) (h : DataW.trod enc Tryz.prog w base spare held n 71 cs = some y) :
    ∃ x : Ch, a.spot = none ∧ a.block < w.heap.size ∧ At w a.block a.off x ∧ Fits x.gone := by
  obtain ⟨hb, hlen, hcell⟩ := World.cells?_some hc
  obtain ⟨xs, m, _, _, _, hxl, hf⟩ := DataW.trod_struct Tryz.underlying71 h
  have hxl7 : xs.length = 7 := hxl
  match cs, hlen with
  | [c0, c1, c2, c3, c4, c5, c6], _ =>
    have fld : ∀ i, i < 7 → ∃ z, xs[i]? = some z := fun i hi => ⟨_, List.getElem?_eq_getElem (by omega)⟩
    have q0 := hf 0 _ rfl
    have q1 := hf 1 _ rfl
    have q2 := hf 2 _ rfl
    have q3 := hf 3 _ rfl
    have q4 := hf 4 _ rfl
    have q5 := hf 5 _ rfl
    have q6 := hf 6 _ rfl
    obtain ⟨z0, e0⟩ := fld 0 (by omega)
    obtain ⟨z1, e1⟩ := fld 1 (by omega)
    obtain ⟨z2, e2⟩ := fld 2 (by omega)
    obtain ⟨z3, e3⟩ := fld 3 (by omega)
    obtain ⟨z4, e4⟩ := fld 4 (by omega)
    obtain ⟨z5, e5⟩ := fld 5 (by omega)
    obtain ⟨z6, e6⟩ := fld 6 (by omega)
    rw [e0] at q0
    rw [e1] at q1
    rw [e2] at q2
    rw [e3] at q3
    rw [e4] at q4
    rw [e5] at q5
    rw [e6] at q6
    obtain ⟨n0, k0, _, _⟩ := DataW.trod_int Tryz.underlying5 q0
    obtain ⟨n1, k1, _, _⟩ := DataW.trod_int Tryz.underlying3 q1
    obtain ⟨n2, k2, _, _⟩ := DataW.trod_int Tryz.underlying3 q2
    obtain ⟨n3, k3, _, _⟩ := DataW.trod_int Tryz.underlying3 q3
    obtain ⟨n4, k4, _, _⟩ := DataW.trod_int Tryz.underlying3 q4
    obtain ⟨n5, k5, _, _⟩ := DataW.trod_int Tryz.underlying3 q5
    obtain ⟨n6, k6, _, wf6⟩ := DataW.trod_int Tryz.underlying3 q6
    simp [Tryz.cellsByte] at k0
    simp [Tryz.cellsInt] at k1 k2 k3 k4 k5 k6
    subst k0 k1 k2 k3 k4 k5 k6
    obtain ⟨b, o, spot⟩ := a
    have g0 := hcell 0 (by omega)
    have hspot : spot = none := by simpa [Addr.add] using World.cell?_spot g0
    subst hspot
    have g0' : w.cell? ⟨b, o, none⟩ = some (.int .u8 n0) := by simpa [Addr.add] using g0
    have g1 := hcell 1 (by omega)
    have g2 := hcell 2 (by omega)
    have g3 := hcell 3 (by omega)
    have g4 := hcell 4 (by omega)
    have g5 := hcell 5 (by omega)
    have g6 := hcell 6 (by omega)
    refine ⟨⟨n0, n1, n2, n3, n4, n5, n6⟩, rfl, World.block_lt_of_cell? w _ g0', ⟨g0', ?_, ?_, ?_, ?_, ?_, ?_⟩, fits_of wf6⟩
    · simpa [Addr.add] using g1
    · simpa [Addr.add] using g2
    · simpa [Addr.add] using g3
    · simpa [Addr.add] using g4
    · simpa [Addr.add] using g5
    · simpa [Addr.add] using g6

set_option maxRecDepth 20000 in
/-- A LIST OF BYTES THAT CAME IN: it has no element, or it lies in memory. -/
theorem open_chars {fuel : Nat} {a : Option Addr} {len cap : Nat} {y : DataW H × List MemPlace} (h : DataW.trod enc Tryz.prog w base spare held fuel 44 [.slice a len cap] = some y) :
    len = 0 ∨ ∃ (b off : Nat) (l : List Ch), a = some ⟨b, off, none⟩ ∧ len ≤ cap ∧ cap ≤ maxLen ∧ l.length = len ∧ Row w b off l ∧ ∀ x ∈ l, Fits x.gone := by
  rcases open_slice Tryz.underlying44 h with ⟨hcs, _⟩ | ⟨ad, len', cap', m, n, D, Pl, hcs, hb, hl, hm, hmm, _, hx⟩
  · simp at hcs
    exact .inl hcs.2.1
  · simp at hcs
    obtain ⟨rfl, rfl, rfl⟩ := hcs
    by_cases h0 : len = 0
    · exact .inl h0
    · right
      have hle : len ≤ m := by rw [hmm]; split <;> omega
      rw [Tryz.cellsChar] at hx
      have one : ∀ i, i < len → ∃ x : Ch, (ad.add (i * 7)).spot = none ∧ (ad.add (i * 7)).block < w.heap.size ∧ At w (ad.add (i * 7)).block (ad.add (i * 7)).off x ∧ Fits x.gone := fun i hi => by
        obtain ⟨cs', h1, h2⟩ := hx i (by omega)
        exact open_char h1 h2
      obtain ⟨b, off, spot⟩ := ad
      have hs0 : spot = none := by
        obtain ⟨x, hs, _⟩ := one 0 (by omega)
        simpa [Addr.add] using hs
      subst hs0
      have hadd : ∀ i, (⟨b, off, none⟩ : Addr).add i = ⟨b, off + i, none⟩ := fun i => by unfold Addr.add; split <;> simp_all
      obtain ⟨f, hf⟩ := choose_lt (α := Int × Int × Int × Int × Int × Int × Int) (n := len) (p := fun i t => b < w.heap.size ∧ At w b (off + i * 7) ⟨t.1, t.2.1, t.2.2.1, t.2.2.2.1, t.2.2.2.2.1, t.2.2.2.2.2.1, t.2.2.2.2.2.2⟩ ∧ Fits t.2.2.2.2.2.2) (fun i hi => by
        obtain ⟨x, _, hlt, hat, hfit⟩ := one i hi
        rw [hadd] at hlt hat
        exact ⟨(x.c, x.by_, x.no, x.k, x.inn, x.out, x.gone), hlt, hat, hfit⟩)
      refine ⟨b, off, (List.range len).map (fun i => ⟨(f i).1, (f i).2.1, (f i).2.2.1, (f i).2.2.2.1, (f i).2.2.2.2.1, (f i).2.2.2.2.2.1, (f i).2.2.2.2.2.2⟩), rfl, hl, hm, by simp, ⟨(hf 0 (by omega)).1, fun i hi => ?_⟩, fun x hxm => ?_⟩
      · have hi' : i < len := by simpa using hi
        simpa using (hf i hi').2.1
      · simp only [List.mem_map, List.mem_range] at hxm
        obtain ⟨i, hi, rfl⟩ := hxm
        exact (hf i hi).2.2
end

end Go.Proofs.YtfpemdbiplfkgacGreat

/-
  How lists of bytes and deeds come in as arguments (the plain seat).
-/
namespace Go.Proofs.YtfpemdbiplfkgacGreat
open Go.RowKit Go.Deep
open Go.ChangeShapes Go.WideShapes Go.ChangeAt

set_option maxRecDepth 20000 in
theorem Tryz.own : ownKnob Tryz.prog.godebug = none := by kernel_rfl
set_option maxRecDepth 20000 in
theorem Tryz.laidOut : laidOutB Tryz.prog = true := by kernel_rfl
set_option maxRecDepth 20000 in
theorem Tryz.cellsDeed : Tryz.prog.cellsOf 41 = 7 := by kernel_rfl
set_option maxRecDepth 20000 in
theorem Tryz.cellsStr : Tryz.prog.cellsOf 9 = 1 := by kernel_rfl

set_option maxRecDepth 20000 in
theorem list_seven {α : Type} : ∀ {l : List α}, l.length = 7 → ∃ a0 a1 a2 a3 a4 a5 a6, l = [a0, a1, a2, a3, a4, a5, a6]
  | [a0, a1, a2, a3, a4, a5, a6], _ => ⟨a0, a1, a2, a3, a4, a5, a6, rfl⟩
  | [], h => by simp at h
  | [_], h => by simp at h
  | [_, _], h => by simp at h
  | [_, _, _], h => by simp at h
  | [_, _, _, _], h => by simp at h
  | [_, _, _, _, _], h => by simp at h
  | [_, _, _, _, _, _], h => by simp at h
  | _ :: _ :: _ :: _ :: _ :: _ :: _ :: _ :: _, h => by simp at h

section
variable {H : Type} {enc : TypeId × Value → H} {W : World} {base b0 : Nat} {spare : Nat → Bool} {held : Bool}

set_option maxRecDepth 20000 in
/-- A LIST OF BYTES. -/
theorem open_lst {a : Option Addr} {len cap : Nat} {d : DataW H} {p : List MemPlace} (h : DataW.Trod enc Tryz.prog W base spare held 44 (.slice a len cap) d p) : ∃ l : List Ch, Lst W (.slice a len cap) l ∧ FitsL l := by
  obtain ⟨fuel, hf⟩ := h
  rcases open_chars hf with rfl | ⟨b, off, l, rfl, hc, _, hl, hr, hfit⟩
  · exact ⟨[], ⟨a, 0, cap, rfl, rfl, Nat.zero_le _, .inl rfl⟩, fits_nil⟩
  · exact ⟨l, ⟨_, len, cap, rfl, hl, hc, .inr ⟨b, off, rfl, hr⟩⟩, hfit⟩

set_option maxRecDepth 20000 in
theorem seven_of {cs : List Value} {fuel : Nat} {y : DataW H × List MemPlace} (hlen : cs.length = 7) (hf : DataW.trod enc Tryz.prog W base spare held fuel 41 cs = some y) :
    ∃ x : Dd, cs = [.int .i64 x.kind, .int .i64 x.by_, .int .i64 x.no, .int .i64 x.seen, .int .i64 x.at_, .int .i64 x.many, .string x.text] := by
  obtain ⟨xs, m, _, _, _, hxl, hq⟩ := DataW.trod_struct Tryz.underlying41 hf
  have hxl7 : xs.length = 7 := hxl
  obtain ⟨c0, c1, c2, c3, c4, c5, c6, rfl⟩ := list_seven hlen
  have fld : ∀ i, i < 7 → ∃ z, xs[i]? = some z := fun i hi => ⟨_, List.getElem?_eq_getElem (by omega)⟩
  have q0 := hq 0 _ rfl
  have q1 := hq 1 _ rfl
  have q2 := hq 2 _ rfl
  have q3 := hq 3 _ rfl
  have q4 := hq 4 _ rfl
  have q5 := hq 5 _ rfl
  have q6 := hq 6 _ rfl
  obtain ⟨z0, e0⟩ := fld 0 (by omega)
  obtain ⟨z1, e1⟩ := fld 1 (by omega)
  obtain ⟨z2, e2⟩ := fld 2 (by omega)
  obtain ⟨z3, e3⟩ := fld 3 (by omega)
  obtain ⟨z4, e4⟩ := fld 4 (by omega)
  obtain ⟨z5, e5⟩ := fld 5 (by omega)
  obtain ⟨z6, e6⟩ := fld 6 (by omega)
  rw [e0] at q0
  rw [e1] at q1
  rw [e2] at q2
  rw [e3] at q3
  rw [e4] at q4
  rw [e5] at q5
  rw [e6] at q6
  obtain ⟨n0, k0, _, _⟩ := DataW.trod_int Tryz.underlying3 q0
  obtain ⟨n1, k1, _, _⟩ := DataW.trod_int Tryz.underlying3 q1
  obtain ⟨n2, k2, _, _⟩ := DataW.trod_int Tryz.underlying3 q2
  obtain ⟨n3, k3, _, _⟩ := DataW.trod_int Tryz.underlying3 q3
  obtain ⟨n4, k4, _, _⟩ := DataW.trod_int Tryz.underlying3 q4
  obtain ⟨n5, k5, _, _⟩ := DataW.trod_int Tryz.underlying3 q5
  obtain ⟨s6, k6, _⟩ := DataW.trod_string Tryz.underlying9 q6
  simp [Tryz.cellsInt] at k0 k1 k2 k3 k4 k5
  simp [Tryz.cellsStr] at k6
  subst k0 k1 k2 k3 k4 k5 k6
  exact ⟨⟨n0, n1, n2, n3, n4, n5, s6⟩, rfl⟩

set_option maxRecDepth 20000 in
/-- A DEED. -/
theorem open_deed {v : Value} {d : DataW H} {p : List MemPlace} (hv : Value.okWide Tryz.prog W .any b0 41 v) (h : DataW.Trod enc Tryz.prog W base spare held 41 v d p) : ∃ x : Dd, v = ddV x := by
  obtain ⟨cs, rfl, hsz⟩ := okWide_struct Tryz.underlying41 hv
  obtain ⟨fuel, hf⟩ := h
  have hlen : cs.toList.length = 7 := by rw [Array.length_toList, hsz, Tryz.cellsDeed]
  obtain ⟨x, hx⟩ := seven_of hlen (show DataW.trod enc Tryz.prog W base spare held fuel 41 cs.toList = some (d, p) from hf)
  refine ⟨x, ?_⟩
  have : cs = #[.int .i64 x.kind, .int .i64 x.by_, .int .i64 x.no, .int .i64 x.seen, .int .i64 x.at_, .int .i64 x.many, .string x.text] := Array.toList_inj.1 hx
  rw [this]

set_option maxRecDepth 20000 in
theorem open_ddat {a : Addr} {n : Nat} {cs : List Value} {y : DataW H × List MemPlace} (hc : W.cells? base a 7 = some cs) (h : DataW.trod enc Tryz.prog W base spare held n 41 cs = some y) :
    ∃ x : Dd, a.spot = none ∧ a.block < W.heap.size ∧ DdAt W a.block a.off x := by
  obtain ⟨_, hlen, hcell⟩ := World.cells?_some hc
  obtain ⟨x, rfl⟩ := seven_of hlen h
  obtain ⟨b, o, spot⟩ := a
  have g0 := hcell 0 (by omega)
  have hspot : spot = none := by simpa [Addr.add] using World.cell?_spot g0
  subst hspot
  have g0' : W.cell? ⟨b, o, none⟩ = some (.int .i64 x.kind) := by simpa [Addr.add] using g0
  have g1 := hcell 1 (by omega)
  have g2 := hcell 2 (by omega)
  have g3 := hcell 3 (by omega)
  have g4 := hcell 4 (by omega)
  have g5 := hcell 5 (by omega)
  have g6 := hcell 6 (by omega)
  refine ⟨x, rfl, World.block_lt_of_cell? W _ g0', ⟨World.block_lt_of_cell? W _ g0', g0', ?_, ?_, ?_, ?_, ?_, ?_⟩⟩
  · simpa [Addr.add] using g1
  · simpa [Addr.add] using g2
  · simpa [Addr.add] using g3
  · simpa [Addr.add] using g4
  · simpa [Addr.add] using g5
  · simpa [Addr.add] using g6

set_option maxRecDepth 20000 in
/-- A LIST OF DEEDS. -/
theorem open_dlst {a : Option Addr} {len cap : Nat} {d : DataW H} {p : List MemPlace} (h : DataW.Trod enc Tryz.prog W base spare held 38 (.slice a len cap) d p) : ∃ ds : List Dd, DLst W (.slice a len cap) ds := by
  obtain ⟨fuel, hf0⟩ := h
  have hf : DataW.trod enc Tryz.prog W base spare held fuel 38 [.slice a len cap] = some (d, p) := hf0
  rcases open_slice Tryz.underlying38 hf with ⟨hcs, _⟩ | ⟨ad, len', cap', m, n, D, Pl, hcs, hb, hl, hm, hmm, _, hx⟩
  · simp at hcs
    obtain ⟨rfl, rfl, rfl⟩ := hcs
    exact ⟨[], ⟨_, _, _, rfl, rfl, Nat.le_refl _, .inl rfl⟩⟩
  · simp at hcs
    obtain ⟨rfl, rfl, rfl⟩ := hcs
    by_cases h0 : len = 0
    · subst h0
      exact ⟨[], ⟨_, _, _, rfl, rfl, Nat.zero_le _, .inl rfl⟩⟩
    · have hle : len ≤ m := by rw [hmm]; split <;> omega
      rw [Tryz.cellsDeed] at hx
      have one : ∀ i, i < len → ∃ x : Dd, (ad.add (i * 7)).spot = none ∧ (ad.add (i * 7)).block < W.heap.size ∧ DdAt W (ad.add (i * 7)).block (ad.add (i * 7)).off x := fun i hi => by
        obtain ⟨cs', h1, h2⟩ := hx i (by omega)
        exact open_ddat h1 h2
      obtain ⟨b, off, spot⟩ := ad
      have hs0 : spot = none := by
        obtain ⟨x, hs, _⟩ := one 0 (by omega)
        simpa [Addr.add] using hs
      subst hs0
      obtain ⟨f, hf⟩ := choose_lt (α := Int × Int × Int × Int × Int × Int × ByteArray) (n := len) (p := fun i t => b < W.heap.size ∧ DdAt W b (off + i * 7) ⟨t.1, t.2.1, t.2.2.1, t.2.2.2.1, t.2.2.2.2.1, t.2.2.2.2.2.1, t.2.2.2.2.2.2⟩) (fun i hi => by
        obtain ⟨x, _, hlt, hat⟩ := one i hi
        rw [addr_add] at hlt hat
        exact ⟨(x.kind, x.by_, x.no, x.seen, x.at_, x.many, x.text), hlt, hat⟩)
      refine ⟨(List.range len).map (fun i => ⟨(f i).1, (f i).2.1, (f i).2.2.1, (f i).2.2.2.1, (f i).2.2.2.2.1, (f i).2.2.2.2.2.1, (f i).2.2.2.2.2.2⟩), ⟨_, len, cap, rfl, by simp, hl, .inr ⟨b, off, rfl, ⟨(hf 0 (by omega)).1, fun i hi => ?_⟩⟩⟩⟩
      have hi' : i < len := by simpa using hi
      simpa using (hf i hi').2
end

end Go.Proofs.YtfpemdbiplfkgacGreat

/-
  How steps come in as arguments.
-/
namespace Go.Proofs.YtfpemdbiplfkgacGreat
open Go.RowKit Go.Deep
open Go.ChangeShapes Go.WideShapes Go.ChangeAt

set_option maxRecDepth 20000 in
theorem Tryz.cellsTstep : Tryz.prog.cellsOf 68 = 5 := by kernel_rfl

set_option maxRecDepth 20000 in
theorem Tryz.cellsTextT : Tryz.prog.cellsOf 9 = 1 := by kernel_rfl

set_option maxRecDepth 20000 in
theorem list_fiveT {α : Type} {l : List α} (h : l.length = 5) : ∃ a0 a1 a2 a3 a4, l = [a0, a1, a2, a3, a4] := by
  match l, h with
  | [a0, a1, a2, a3, a4], _ => exact ⟨a0, a1, a2, a3, a4, rfl⟩

section
variable {H : Type} {enc : TypeId × Value → H} {W : World} {base : Nat} {spare : Nat → Bool} {held : Bool}

set_option maxRecDepth 20000 in
theorem tfive_of {cs : List Value} {fuel : Nat} {y : DataW H × List MemPlace} (hlen : cs.length = 5) (hf : DataW.trod enc Tryz.prog W base spare held fuel 68 cs = some y) :
    ∃ x : Tst, cs = (tsCells x).toList := by
  obtain ⟨xs, m, _, _, _, hxl, hq⟩ := DataW.trod_struct Tryz.underlying68 hf
  have hxl5 : xs.length = 5 := hxl
  obtain ⟨a0, a1, a2, a3, a4, rfl⟩ := list_fiveT hlen
  have q0 := hq 0 _ rfl
  have q1 := hq 1 _ rfl
  have q2 := hq 2 _ rfl
  have q3 := hq 3 _ rfl
  have q4 := hq 4 _ rfl
  rw [List.getElem?_eq_getElem (show 0 < xs.length by omega)] at q0
  rw [List.getElem?_eq_getElem (show 1 < xs.length by omega)] at q1
  rw [List.getElem?_eq_getElem (show 2 < xs.length by omega)] at q2
  rw [List.getElem?_eq_getElem (show 3 < xs.length by omega)] at q3
  rw [List.getElem?_eq_getElem (show 4 < xs.length by omega)] at q4
  obtain ⟨n0, k0, _, _⟩ := DataW.trod_int Tryz.underlying3 q0
  obtain ⟨n1, k1, _, _⟩ := DataW.trod_int Tryz.underlying3 q1
  obtain ⟨n2, k2, _, _⟩ := DataW.trod_int Tryz.underlying3 q2
  obtain ⟨n3, k3, _, _⟩ := DataW.trod_int Tryz.underlying3 q3
  obtain ⟨n4, k4, _⟩ := DataW.trod_string Tryz.underlying9 q4
  simp [Tryz.cellsInt] at k0 k1 k2 k3
  simp [Tryz.cellsTextT] at k4
  subst k0 k1 k2 k3 k4
  exact ⟨⟨n0, n1, n2, n3, n4⟩, rfl⟩

set_option maxRecDepth 20000 in
theorem open_tsat {a : Addr} {n : Nat} {cs : List Value} {y : DataW H × List MemPlace} (hc : W.cells? base a 5 = some cs) (h : DataW.trod enc Tryz.prog W base spare held n 68 cs = some y) :
    ∃ x : Tst, a.spot = none ∧ TsAt W a.block a.off x := by
  obtain ⟨_, hlen, hcell⟩ := World.cells?_some hc
  obtain ⟨x, rfl⟩ := tfive_of hlen h
  obtain ⟨b, o, spot⟩ := a
  have g0 := hcell 0 (by omega)
  have hspot : spot = none := by simpa [Addr.add] using World.cell?_spot g0
  subst hspot
  have g0' : W.cell? ⟨b, o, none⟩ = some (.int .i64 x.kind) := by simpa [Addr.add] using g0
  have g1 := hcell 1 (by omega)
  have g2 := hcell 2 (by omega)
  have g3 := hcell 3 (by omega)
  have g4 := hcell 4 (by omega)
  refine ⟨x, rfl, ⟨World.block_lt_of_cell? W _ g0', g0', ?_, ?_, ?_, ?_⟩⟩
  · simpa [Addr.add] using g1
  · simpa [Addr.add] using g2
  · simpa [Addr.add] using g3
  · simpa [Addr.add] using g4

set_option maxRecDepth 20000 in
theorem tsteps_of {len : Nat} {p : Nat → Tst → Prop} (h : ∀ i, i < len → ∃ x, p i x) : ∃ xs : List Tst, xs.length = len ∧ ∀ i (hi : i < xs.length), p i xs[i] := by
  induction len with
  | zero => exact ⟨[], rfl, fun i hi => absurd hi (Nat.not_lt_zero _)⟩
  | succ n ih =>
    obtain ⟨xs, hl, hx⟩ := ih (fun i hi => h i (by omega))
    obtain ⟨x, hp⟩ := h n (by omega)
    refine ⟨xs ++ [x], by simp [hl], fun i hi => ?_⟩
    by_cases e : i < xs.length
    · rw [List.getElem_append_left e]
      exact hx i e
    · have : i = n := by simp [hl] at hi; omega
      subst this
      rw [List.getElem_append_right (by omega)]
      simpa using hp

set_option maxRecDepth 20000 in
/-- A LIST OF STEPS. -/
theorem open_tsteps {a : Option Addr} {len cap : Nat} {d : DataW H} {p : List MemPlace} (h : DataW.Trod enc Tryz.prog W base spare held 60 (.slice a len cap) d p) : ∃ xs : List Tst, TLst W (.slice a len cap) xs := by
  obtain ⟨fuel, hf0⟩ := h
  have hf : DataW.trod enc Tryz.prog W base spare held fuel 60 [.slice a len cap] = some (d, p) := hf0
  rcases open_slice Tryz.underlying60 hf with ⟨hcs, _⟩ | ⟨ad, len', cap', m, n, D, Pl, hcs, hb, hl, hm, hmm, _, hx⟩
  · simp at hcs
    obtain ⟨rfl, rfl, rfl⟩ := hcs
    exact ⟨[], ⟨_, _, _, rfl, rfl, Nat.le_refl _, .inl rfl⟩⟩
  · simp at hcs
    obtain ⟨rfl, rfl, rfl⟩ := hcs
    by_cases h0 : len = 0
    · subst h0
      exact ⟨[], ⟨_, _, _, rfl, rfl, Nat.zero_le _, .inl rfl⟩⟩
    · have hle : len ≤ m := by rw [hmm]; split <;> omega
      rw [Tryz.cellsTstep] at hx
      have one : ∀ i, i < len → ∃ x : Tst, (ad.add (i * 5)).spot = none ∧ TsAt W (ad.add (i * 5)).block (ad.add (i * 5)).off x := fun i hi => by
        obtain ⟨cs', h1, h2⟩ := hx i (by omega)
        exact open_tsat h1 h2
      obtain ⟨b, off, spot⟩ := ad
      have hs0 : spot = none := by
        obtain ⟨x, hs, _⟩ := one 0 (by omega)
        simpa [Addr.add] using hs
      subst hs0
      obtain ⟨xs, hxl, hxp⟩ := tsteps_of (len := len) (p := fun i x => TsAt W b (off + i * 5) x) (fun i hi => by
        obtain ⟨x, _, hat⟩ := one i hi
        rw [addr_add] at hat
        exact ⟨x, hat⟩)
      exact ⟨xs, ⟨_, len, cap, rfl, hxl, hl, .inr ⟨b, off, rfl, ⟨(hxp 0 (by omega)).lt, fun i hi => hxp i hi⟩⟩⟩⟩
end

end Go.Proofs.YtfpemdbiplfkgacGreat

/-
  How a byte that comes in as an argument is opened.
-/
namespace Go.Proofs.YtfpemdbiplfkgacGreat
open Go.RowKit Go.Deep
open Go.ChangeShapes Go.WideShapes

section
variable {H : Type} {enc : TypeId × Value → H} {W : World} {base b0 : Nat} {spare : Nat → Bool} {held : Bool}

set_option maxRecDepth 20000 in
/-- A BYTE. -/
theorem open_chr {v : Value} {d : DataW H} {p : List MemPlace} (hv : Value.okWide Tryz.prog W .any b0 71 v) (h : DataW.Trod enc Tryz.prog W base spare held 71 v d p) : ∃ x : Ch, v = chV x := by
  obtain ⟨cs, rfl, hsz⟩ := okWide_struct Tryz.underlying71 hv
  obtain ⟨fuel, hf0⟩ := h
  have hlen : cs.toList.length = 7 := by rw [Array.length_toList, hsz, Tryz.cellsChar]
  have hf1 : DataW.trod enc Tryz.prog W base spare held fuel 71 cs.toList = some (d, p) := hf0
  obtain ⟨xs, m, _, _, _, hxl, hq⟩ := DataW.trod_struct Tryz.underlying71 hf1
  have hxl7 : xs.length = 7 := hxl
  obtain ⟨c0, c1, c2, c3, c4, c5, c6, hcs⟩ := list_seven hlen
  rw [hcs] at hq
  have fld : ∀ i, i < 7 → ∃ z, xs[i]? = some z := fun i hi => ⟨_, List.getElem?_eq_getElem (by omega)⟩
  have q0 := hq 0 _ rfl
  have q1 := hq 1 _ rfl
  have q2 := hq 2 _ rfl
  have q3 := hq 3 _ rfl
  have q4 := hq 4 _ rfl
  have q5 := hq 5 _ rfl
  have q6 := hq 6 _ rfl
  obtain ⟨z0, e0⟩ := fld 0 (by omega)
  obtain ⟨z1, e1⟩ := fld 1 (by omega)
  obtain ⟨z2, e2⟩ := fld 2 (by omega)
  obtain ⟨z3, e3⟩ := fld 3 (by omega)
  obtain ⟨z4, e4⟩ := fld 4 (by omega)
  obtain ⟨z5, e5⟩ := fld 5 (by omega)
  obtain ⟨z6, e6⟩ := fld 6 (by omega)
  rw [e0] at q0
  rw [e1] at q1
  rw [e2] at q2
  rw [e3] at q3
  rw [e4] at q4
  rw [e5] at q5
  rw [e6] at q6
  obtain ⟨n0, k0, _, _⟩ := DataW.trod_int Tryz.underlying5 q0
  obtain ⟨n1, k1, _, _⟩ := DataW.trod_int Tryz.underlying3 q1
  obtain ⟨n2, k2, _, _⟩ := DataW.trod_int Tryz.underlying3 q2
  obtain ⟨n3, k3, _, _⟩ := DataW.trod_int Tryz.underlying3 q3
  obtain ⟨n4, k4, _, _⟩ := DataW.trod_int Tryz.underlying3 q4
  obtain ⟨n5, k5, _, _⟩ := DataW.trod_int Tryz.underlying3 q5
  obtain ⟨n6, k6, _, _⟩ := DataW.trod_int Tryz.underlying3 q6
  simp [Tryz.cellsByte] at k0
  simp [Tryz.cellsInt] at k1 k2 k3 k4 k5 k6
  subst k0 k1 k2 k3 k4 k5 k6
  refine ⟨⟨n0, n1, n2, n3, n4, n5, n6⟩, ?_⟩
  have : cs = #[.int .u8 n0, .int .i64 n1, .int .i64 n2, .int .i64 n3, .int .i64 n4, .int .i64 n5, .int .i64 n6] := Array.toList_inj.1 hcs
  rw [this]

end
end Go.Proofs.YtfpemdbiplfkgacGreat
