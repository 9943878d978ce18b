/-
  Lists of bytes in memory, as rows of cells: those that a call owns; deeds in memory. No walk.
-/
import Derived.Test.YtebhbhcjfnohmabLst
import Derived.Test.YtebhbhcjfnohmabFLists
namespace Go.Proofs.Ytebhbhcjfnohmab
open Go.RowKit

def chCells (x : Ch) : List Value := [.int .u8 x.c, .int .i64 x.by_, .int .i64 x.no, .int .i64 x.k, .int .i64 x.inn, .int .i64 x.out, .int .i64 x.gone]

def cells7 : List Ch → List Value
  | [] => []
  | x :: r => chCells x ++ cells7 r

theorem cells7_len : ∀ l : List Ch, (cells7 l).length = l.length * 7
  | [] => rfl
  | x :: r => by
    rw [cells7, List.length_append, cells7_len r, List.length_cons]
    show 7 + _ = _
    omega

theorem cells7_app : ∀ a b : List Ch, cells7 (a ++ b) = cells7 a ++ cells7 b
  | [], b => rfl
  | x :: r, b => by rw [List.cons_append, cells7, cells7_app r b, cells7, List.append_assoc]

theorem cells7_one : ∀ (l : List Ch) (u : Value), u ∈ cells7 l → u.oneCell' = true
  | [], u, h => by simp [cells7] at h
  | x :: r, u, h => by
    rw [cells7, List.mem_append] at h
    rcases h with h | h
    · simp [chCells] at h
      rcases h with rfl | rfl | rfl | rfl | rfl | rfl | rfl <;> rfl
    · exact cells7_one r u h

theorem cells7_get : ∀ (l : List Ch) (i r : Nat) (hi : i < l.length), r < 7 → (cells7 l)[i * 7 + r]? = (chCells l[i])[r]?
  | [], i, r, hi, _ => absurd hi (Nat.not_lt_zero _)
  | x :: l, 0, r, _, hr => by
    rw [cells7, Nat.zero_mul, Nat.zero_add, List.getElem?_append_left (by exact hr)]
    rfl
  | x :: l, i + 1, r, hi, hr => by
    rw [cells7, List.getElem?_append_right (by show 7 ≤ _; omega)]
    show (cells7 l)[(i + 1) * 7 + r - 7]? = _
    rw [show (i + 1) * 7 + r - 7 = i * 7 + r by omega, cells7_get l i r (by simpa using hi) hr]
    rfl

theorem addr_add (b off j : Nat) : (⟨b, off, none⟩ : Addr).add j = ⟨b, off + j, none⟩ := by
  unfold Addr.add
  split <;> simp_all

/-- A list that lies somewhere, as a source of cells. -/
theorem src_cells {w : World} {b : Nat} : ∀ (l : List Ch) (off : Nat), (∀ i (h : i < l.length), At w b (off + i * 7) l[i]) → ∀ j u, (cells7 l)[j]? = some u → w.cell? ((⟨b, off, none⟩ : Addr).add j) = some u
  | [], off, _, j, u, hu => by simp [cells7] at hu
  | x :: l, off, h, j, u, hu => by
    rw [addr_add]
    rw [cells7] at hu
    by_cases hj : j < 7
    · rw [List.getElem?_append_left (by exact hj)] at hu
      obtain ⟨h0, h1, h2, h3, h4, h5, h6⟩ := h 0 (by simp)
      simp only [Nat.zero_mul, Nat.add_zero, List.getElem_cons_zero] at h0 h1 h2 h3 h4 h5 h6
      rcases (show j = 0 ∨ j = 1 ∨ j = 2 ∨ j = 3 ∨ j = 4 ∨ j = 5 ∨ j = 6 by omega) with rfl | rfl | rfl | rfl | rfl | rfl | rfl <;> simp [chCells] at hu <;> subst hu <;> assumption
    · rw [List.getElem?_append_right (by show 7 ≤ j; omega)] at hu
      have hu' : (cells7 l)[j - 7]? = some u := hu
      have := src_cells l (off + 7) (fun i hi => by
        have := h (i + 1) (by simpa using hi)
        rw [show off + (i + 1) * 7 = off + 7 + i * 7 by omega] at this
        exact this) (j - 7) u hu'
      rw [addr_add, show off + 7 + (j - 7) = off + j by omega] at this
      exact this

/-- A list that the call owns, in memory from block 'base' on. -/
def Own (w : World) (base : Nat) (v : Value) (l : List Ch) : Prop := w.ownsRow base 65 7 v l.length (cells7 l)

theorem own_nil (w : World) (base : Nat) : Own w base (.slice none 0 0) [] := World.ownsRow_nil _ _ _ _

theorem own_row {w : World} {base g n cap : Nat} {l : List Ch} (hg : g < w.heap.size) (hn : l.length = n) (h : w.ownsRow base 65 7 (.slice (some ⟨g, 0, none⟩) n cap) n (cells7 l)) : Row w g 0 l := by
  refine ⟨hg, fun i hi => ?_⟩
  have key : ∀ r, r < 7 → w.cell? ⟨g, 0 + i * 7 + r, none⟩ = (chCells l[i])[r]? := fun r hr => by
    rw [Nat.zero_add, h.cellAt (i * 7 + r) (by omega), cells7_get l i r hi hr]
  have k0 := key 0 (by omega)
  have k1 := key 1 (by omega)
  have k2 := key 2 (by omega)
  have k3 := key 3 (by omega)
  have k4 := key 4 (by omega)
  have k5 := key 5 (by omega)
  have k6 := key 6 (by omega)
  exact ⟨k0, k1, k2, k3, k4, k5, k6⟩

theorem Own.lst {w : World} {base : Nat} {v : Value} {l : List Ch} (h : Own w base v l) : Lst w v l := by
  have h' := h
  obtain ⟨_, h2⟩ := h
  rcases h2 with ⟨rfl, hn⟩ | ⟨g, cap, cur, rfl, hb, hg, hnc, _⟩
  · obtain rfl : l = [] := List.length_eq_zero_iff.1 hn
    exact lst_nil w
  · exact ⟨_, _, _, rfl, rfl, hnc, .inr ⟨g, 0, rfl, own_row (Array.getElem?_eq_some_iff.1 hg).1 rfl h'⟩⟩

theorem Own.below {w w' : World} {base : Nat} {v : Value} {l : List Ch} (h : Own w base v l) (hb : Below w.heap.size w w') : Own w' base v l := owns_below h hb

theorem Own.mono {w : World} {base base' : Nat} {v : Value} {l : List Ch} (h : Own w base v l) (hb : base' ≤ base) : Own w base' v l := by
  obtain ⟨h1, h2⟩ := h
  refine ⟨h1, ?_⟩
  rcases h2 with h2 | ⟨g, cap, cur, e, hg, r⟩
  · exact .inl h2
  · exact .inr ⟨g, cap, cur, e, Nat.le_trans hb hg, r⟩

/-- A deed in memory. -/
structure DdAt (w : World) (B o : Nat) (d : Dd) : Prop where
  lt : B < w.heap.size
  c0 : w.cell? ⟨B, o, none⟩ = some (.int .i64 d.kind)
  c1 : w.cell? ⟨B, o + 1, none⟩ = some (.int .i64 d.by_)
  c2 : w.cell? ⟨B, o + 2, none⟩ = some (.int .i64 d.no)
  c3 : w.cell? ⟨B, o + 3, none⟩ = some (.int .i64 d.seen)
  c4 : w.cell? ⟨B, o + 4, none⟩ = some (.int .i64 d.at_)
  c5 : w.cell? ⟨B, o + 5, none⟩ = some (.int .i64 d.many)
  c6 : w.cell? ⟨B, o + 6, none⟩ = some (.string d.text)

abbrev dObj (d : Dd) : Obj := .cells #[.int .i64 d.kind, .int .i64 d.by_, .int .i64 d.no, .int .i64 d.seen, .int .i64 d.at_, .int .i64 d.many, .string d.text] 27

theorem ddat_start (w : World) (d : Dd) : DdAt (w.alloc (dObj d)) w.heap.size 0 d := by
  refine ⟨by simp, ?_, ?_, ?_, ?_, ?_, ?_, ?_⟩ <;> simp [go_sem]

theorem DdAt.below {w w' : World} {B o : Nat} {d : Dd} (h : DdAt w B o d) (hb : Below w.heap.size w w') : DdAt w' B o d := by
  obtain ⟨hc, _⟩ := bcell hb
  refine ⟨by have := hb.size; have := h.lt; omega, ?_, ?_, ?_, ?_, ?_, ?_, ?_⟩ <;> rw [hc _ _ h.lt]
  · exact h.c0
  · exact h.c1
  · exact h.c2
  · exact h.c3
  · exact h.c4
  · exact h.c5
  · exact h.c6

theorem Lst.len {w : World} {v : Value} {l : List Ch} (h : Lst w v l) : ∃ a cap, v = .slice a l.length cap ∧ l.length ≤ cap := by
  obtain ⟨a, len, cap, rfl, rfl, h2, _⟩ := h
  exact ⟨a, cap, rfl, h2⟩

/-- What is behind the first k of a list. -/
theorem Row.drop' {w : World} {b off : Nat} {l : List Ch} (h : Row w b off l) (k : Nat) : Row w b (off + k * 7) (l.drop k) :=
  ⟨h.lt, fun i hi => by
    have hi' : k + i < l.length := by rw [List.length_drop] at hi; omega
    rw [List.getElem_drop]
    have := h.at_ (k + i) hi'
    rw [show off + (k + i) * 7 = off + k * 7 + i * 7 by rw [Nat.add_mul]; omega] at this
    exact this⟩

/-- Bytes whose Gone fits an int. -/
def FitsL (l : List Ch) : Prop := ∀ x ∈ l, -9223372036854775808 ≤ x.gone ∧ x.gone ≤ 9223372036854775807

theorem info_char : (Try.prog.info? 65).map (fun i => (i.size, i.bytes)) = some (7, 56) := by kernel_rfl

end Go.Proofs.Ytebhbhcjfnohmab
