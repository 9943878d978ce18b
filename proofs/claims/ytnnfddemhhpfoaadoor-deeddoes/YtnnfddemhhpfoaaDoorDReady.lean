/-
  What a world must hold for the library's Itoa, Atoi and SplitN (the table of powers, the two errors, MaxLen), that it stays, and the three contracts.
-/
import Derived.Test.YtnnfddemhhpfoaaDoorShelf
import Derived.Test.YtnnfddemhhpfoaaDoorLeaf0
import Derived.Test.YtnnfddemhhpfoaaDoorDPlain
import Derived.Lib.AtoiAllCases
import Derived.Lib.AtoiErrMem
namespace Go.Proofs.YtnnfddemhhpfoaaDoor
open Go.RowKit

theorem var_on {W W' : World} {g : Nat} {n : String} {cs : Array Value} (hg : Tryd.prog.globalNamed n = some g) (h : W.var? Tryd.prog n = some cs) (hb : Below W.heap.size W W') : W'.var? Tryd.prog n = some cs := by
  unfold World.var? at h ⊢
  rw [hg] at h ⊢
  simp only [Option.bind_some] at h ⊢
  have hlt : g < W.heap.size := by
    rcases Nat.lt_or_ge g W.heap.size with h' | h'
    · exact h'
    · rw [Array.getElem?_eq_none h'] at h; cases h
  rw [hb.block g (by omega)]
  exact h

theorem cell_on {w w' : World} {a : Nat} {o : Nat} {v : Value} (h : w.cell? ⟨a, o, none⟩ = some v) (hb : Below w.heap.size w w') : w'.cell? ⟨a, o, none⟩ = some v := by
  have hlt : a < w.heap.size := by
    rcases Nat.lt_or_ge a w.heap.size with h' | h'
    · exact h'
    · simp [World.cell?, Array.getElem?_eq_none h'] at h
  rw [hb.cell (p := ⟨a, o, none⟩) hlt]
  exact h

/-- The variables of the library that the deeds' functions come to. -/
structure Ready (w : World) : Prop where
  tab : Lib.TabIs Tryd.prog w "internal/strconv.uint64pow10" .u64 Lib.pow10Tab
  syn : ∃ t p, w.var? Tryd.prog "strconv.ErrSyntax" = some #[.iface t p]
  rng : ∃ t p, w.var? Tryd.prog "strconv.ErrRange" = some #[.iface t p]
  mx : ∃ m, w.cell? ⟨0, 0, none⟩ = some (.int .i64 m)

theorem Ready.below {w w' : World} (h : Ready w) (hb : Below w.heap.size w w') : Ready w' where
  tab := var_on (g := 3) (by kernel_rfl) h.tab hb
  syn := let ⟨t, p, e⟩ := h.syn; ⟨t, p, var_on (g := 1) (by kernel_rfl) e hb⟩
  rng := let ⟨t, p, e⟩ := h.rng; ⟨t, p, var_on (g := 2) (by kernel_rfl) e hb⟩
  mx := let ⟨m, e⟩ := h.mx; ⟨m, cell_on e hb⟩

theorem Ready.alloc {w : World} (h : Ready w) (o : Obj) : Ready (w.alloc o) := h.below ((Below.refl _ _).alloc (Nat.le_refl _) _)

def inI (n : Int) : Prop := -9223372036854775808 ≤ n ∧ n ≤ 9223372036854775807

def strI (n : Int) : ByteArray := ⟨(Lib.itoa n).toArray⟩

theorem itoa_any (n : Int) (hn : inI n) (w : World) (hw : Ready w) :
    Calls Tryd.prog 23 #[.int .i64 n] w fun e w' => e = .returned (.string (strI n)) ∧ Below w.heap.size w w' := by
  refine (Tryd.strconv_Itoa n hn.1 hn.2 w hw.tab).mono ?_
  rintro e w' ⟨rfl, k, os, rfl⟩
  refine ⟨rfl, rfl, rfl, rfl, ?_, fun j hj => ?_⟩
  · show w.heap.size ≤ (w.heap ++ os).size
    rw [Array.size_append]; omega
  · show (w.heap ++ os)[j]? = w.heap[j]?
    exact Array.getElem?_append_left hj

/-- The number that a word is, as Atoi reads it. -/
def numAll (s : ByteArray) : Option Int := match Lib.atoiAll s.data.toList with | .ok v => some v | _ => none

theorem numAll_in {s : ByteArray} {v : Int} (h : numAll s = some v) : inI v := by
  unfold numAll at h
  cases ha : Lib.atoiAll s.data.toList with
  | ok u => rw [ha] at h; obtain rfl := Option.some.inj h; exact Lib.atoiAll_bounds ha
  | «syntax» => rw [ha] at h; cases h
  | range => rw [ha] at h; cases h

theorem atoi_ok (s : ByteArray) (v : Int) (hs : s.size ≤ 281474976710656) (h : numAll s = some v) (w : World) :
    Calls Tryd.prog 26 #[.string s] w fun e w' => e = .returned (.tuple #[.int .i64 v, .nilIface]) ∧ Below w.heap.size w w' := by
  unfold numAll at h
  cases ha : Lib.atoiAll s.data.toList with
  | ok u =>
    rw [ha] at h; obtain rfl := Option.some.inj h
    refine (Tryd.strconv_Atoi_ok s (by omega) u ha w).mono ?_
    rintro e w' ⟨rfl, rfl | ⟨t, rfl⟩⟩
    · exact ⟨rfl, Below.refl _ _⟩
    · exact ⟨rfl, Lib.bytesWorld_below _ _ _⟩
  | «syntax» => rw [ha] at h; cases h
  | range => rw [ha] at h; cases h

theorem atoi_no (s : ByteArray) (hs : s.size ≤ 281474976710656) (h : numAll s = none) (w : World) (hw : Ready w) :
    Calls Tryd.prog 26 #[.string s] w fun e w' => ∃ v t q, e = .returned (.tuple #[.int .i64 v, .iface t q]) ∧ inI v ∧ Below w.heap.size w w' := by
  unfold numAll at h
  cases ha : Lib.atoiAll s.data.toList with
  | ok u => rw [ha] at h; cases h
  | «syntax» =>
    obtain ⟨t, p, e⟩ := hw.syn
    refine (Tryd.strconv_Atoi_syntax_var s hs ha t p w e).mono ?_
    rintro e w' ⟨N, rfl, _, _, hb⟩
    exact ⟨_, _, _, rfl, by unfold inI; omega, hb⟩
  | range =>
    obtain ⟨t, p, e⟩ := hw.rng
    refine (Tryd.strconv_Atoi_range_var s hs ha t p w e).mono ?_
    rintro e w' ⟨N, rfl, _, _, hb⟩
    exact ⟨_, _, _, rfl, Lib.atoiSat_bounds _, hb⟩

end Go.Proofs.YtnnfddemhhpfoaaDoor
