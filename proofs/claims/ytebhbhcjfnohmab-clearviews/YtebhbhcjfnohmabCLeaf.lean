/-
  The contracts of the small functions of package clear: Done, start, behind, follows; the closures; a search with a bound receiver.
-/
import Derived.Test.YtebhbhcjfnohmabCPlain
import Derived.Test.YtebhbhcjfnohmabFClone
import Derived.Test.YtebhbhcjfnohmabFTakeP
import Derived.Test.YtebhbhcjfnohmabFStage
import Derived.BigRegion
namespace Go.Proofs.Ytebhbhcjfnohmab
open Go.RowKit

abbrev mkV (m : Mk) : Value := .agg #[.bool m.start, .int .i64 m.by_, .int .i64 m.no, .int .i64 m.k]

theorem below1 (w : World) (o : Obj) : Below w.heap.size w (w.alloc o) := (Below.refl _ _).alloc (Nat.le_refl _) _
theorem below2 (w : World) (o p : Obj) : Below w.heap.size w ((w.alloc o).alloc p) := (below1 w o).alloc (by simp) _

set_option maxRecDepth 20000 in
set_option maxHeartbeats 400000 in
theorem done_any (x : Ch) (least : Int) (w : World) :
    Calls Try.prog 41 #[chV x, .int .i64 least] w fun e w' => e = .returned (.bool (doneB least x)) ∧ Below w.heap.size w w' := by
  obtain ⟨c, b, no, k, i, o, g⟩ := x
  by_cases h1 : o = 0
  · have h1' : (o != 0) = false := by simp [h1]
    have H1 : Hid (o = 0) := h1
    clear h1
    go_enter Try.func41, Try.ntmps41
    go_wp2
    go_ret
    exact ⟨ret_b (by simp [doneB, H1.out]), below1 _ _⟩
  · have h1' : (o != 0) = true := by simp [h1]
    have H1 : Hid (o ≠ 0) := h1
    clear h1
    by_cases h2 : o ≤ least
    · go_enter Try.func41, Try.ntmps41
      go_wp2
      go_ret
      exact ⟨ret_b (by simp [doneB, H1.out, h2]), below1 _ _⟩
    · go_enter Try.func41, Try.ntmps41
      go_wp2
      go_ret
      exact ⟨ret_b (by have : ¬ o ≤ least := by omega
                       simp [doneB, this]), below1 _ _⟩

/-- A number in a box. -/
structure NBox (n : Int) (B : Nat) (w : World) : Prop where
  lt : B < w.heap.size
  at_ : w.cell? ⟨B, 0, none⟩ = some (.int .i64 n)

theorem NBox.low {w w' : World} {n : Int} {B base : Nat} (h : NBox n B w) (hB : B < base) (hb : Below base w w') : NBox n B w' :=
  ⟨Nat.lt_of_lt_of_le h.lt hb.size, by rw [hb.cell (p := ⟨B, 0, none⟩) hB]; exact h.at_⟩

set_option maxRecDepth 20000 in
set_option maxHeartbeats 400000 in
theorem of1_any (x : Ch) (least : Int) (B : Nat) (w : World) (h : w.cell? ⟨B, 0, none⟩ = some (.int .i64 least)) :
    Calls Try.prog 66 (#[chV x] ++ #[.pointer (some ⟨B, 0, none⟩)]) w fun e w' => e = .returned (.bool (doneB least x)) ∧ Below w.heap.size w w' := by
  have c0 : ∀ o, (w.alloc o).cell? ⟨B, 0, none⟩ = some (.int .i64 least) := fun o => Lib.cell?_alloc_some o h
  clear h
  go_enter Try.func66, Try.ntmps66
  go_wp2_with fail
  refine (done_any x least _).mono ?_
  rintro e w1 ⟨rfl, hb⟩
  have HB : Hid (Below w.heap.size w w1) := below_after (below1 _ _) hb
  clear hb c0
  go_wp2
  go_ret
  exact ⟨rfl, HB.out⟩

set_option maxRecDepth 20000 in
set_option maxHeartbeats 400000 in
theorem slide1_any (x : Ch) (least : Int) (B : Nat) (w : World) (h : w.cell? ⟨B, 0, none⟩ = some (.int .i64 least)) :
    Calls Try.prog 73 (#[chV x] ++ #[.pointer (some ⟨B, 0, none⟩)]) w fun e w' => e = .returned (.bool (!doneB least x)) ∧ Below w.heap.size w w' := by
  have c0 : ∀ o, (w.alloc o).cell? ⟨B, 0, none⟩ = some (.int .i64 least) := fun o => Lib.cell?_alloc_some o h
  clear h
  go_enter Try.func73, Try.ntmps73
  go_wp2_with fail
  refine (done_any x least _).mono ?_
  rintro e w1 ⟨rfl, hb⟩
  have HB : Hid (Below w.heap.size w w1) := below_after (below1 _ _) hb
  clear hb c0
  go_wp2
  go_ret
  exact ⟨rfl, HB.out⟩

def mkCells (m : Mk) : List Value := [.bool m.start, .int .i64 m.by_, .int .i64 m.no, .int .i64 m.k]

/-- The end of a function whose result is a mark: what its block holds. -/
theorem mark_end {fn : Func} {p : Tmp} {R : Ending → World → Prop} {a : Act} {w : World} {B : Nat} {m : Mk} (hf : fn.results = #[.cell p 69]) (h : w.heap[B]? = some (.cells (mkCells m).toArray 69 (0, 0))) (h2 : a.tmps.getD p undef = .pointer (some ⟨B, 0, none⟩)) (hd : a.defers = [])
    (hR : R (.returned (mkV m)) w) : bodyPost Try.prog fn R Exit.ret a w :=
  bodyPost_ret (results_cell_row hf _ _ B 69 (mkCells m).toArray (0, 0) _ h2 h Try.underlying69 rfl (by kernel_rfl)) hd hR

theorem heap_first (w : World) (o : Obj) : (w.alloc o).heap[w.heap.size]? = some o := heap_alloc_new w o
theorem heap_second (w : World) (o1 o2 : Obj) : ((w.alloc o1).alloc o2).heap[w.heap.size + 1]? = some o2 := by
  have h : ((w.alloc o1).alloc o2).heap[(w.alloc o1).heap.size]? = some o2 := heap_alloc_new (w.alloc o1) o2
  have e : (w.alloc o1).heap.size = w.heap.size + 1 := by simp
  rw [e] at h
  exact h

set_option maxRecDepth 20000 in
set_option maxHeartbeats 400000 in
theorem start_any (w : World) :
    Calls Try.prog 70 #[] w fun e w' => e = .returned (mkV mkStart) ∧ Below w.heap.size w w' := by
  go_enter Try.func70, Try.ntmps70
  go_wp2
  exact mark_end (m := mkStart) rfl (heap_first w _) rfl rfl ⟨rfl, below1 _ _⟩

set_option maxRecDepth 20000 in
set_option maxHeartbeats 400000 in
theorem mkBehind_any (x : Ch) (w : World) :
    Calls Try.prog 87 #[chV x] w fun e w' => e = .returned (mkV (mkOf x)) ∧ Below w.heap.size w w' := by
  obtain ⟨c, b, no, k, i, o, g⟩ := x
  go_enter Try.func87, Try.ntmps87
  go_wp2
  exact mark_end (m := ⟨false, b, no, k⟩) rfl (heap_second w _ _) rfl rfl ⟨rfl, below2 _ _ _⟩

/-- A mark in a box. -/
structure MBox (m : Mk) (B : Nat) (w : World) : Prop where
  lt : B < w.heap.size
  c0 : w.cell? ⟨B, 0, none⟩ = some (.bool m.start)
  c1 : w.cell? ⟨B, 1, none⟩ = some (.int .i64 m.by_)
  c2 : w.cell? ⟨B, 2, none⟩ = some (.int .i64 m.no)
  c3 : w.cell? ⟨B, 3, none⟩ = some (.int .i64 m.k)

theorem MBox.after {w w' : World} {m : Mk} {B : Nat} (h : MBox m B w) (hb : Below w.heap.size w w') : MBox m B w' := by
  obtain ⟨hc, _⟩ := bcell hb
  exact ⟨Nat.lt_of_lt_of_le h.lt hb.size, by rw [hc _ _ h.lt]; exact h.c0, by rw [hc _ _ h.lt]; exact h.c1, by rw [hc _ _ h.lt]; exact h.c2, by rw [hc _ _ h.lt]; exact h.c3⟩

theorem mbox_start (w : World) (m : Mk) : MBox m w.heap.size (w.alloc (.cells #[.bool m.start, .int .i64 m.by_, .int .i64 m.no, .int .i64 m.k] 69)) := by
  refine ⟨by simp, ?_, ?_, ?_, ?_⟩ <;> simp [go_sem]

theorem mk_diff {a b : Mk} (h : a ≠ b) : ((a.start == b.start) = false) ∨ ((a.start == b.start) = true ∧ (a.by_ == b.by_) = false) ∨ ((a.start == b.start) = true ∧ (a.by_ == b.by_) = true ∧ (a.no == b.no) = false)
    ∨ ((a.start == b.start) = true ∧ (a.by_ == b.by_) = true ∧ (a.no == b.no) = true ∧ (a.k == b.k) = false) := by
  obtain ⟨a0, a1, a2, a3⟩ := a
  obtain ⟨b0, b1, b2, b3⟩ := b
  simp only [beq_eq_false_iff_ne, beq_iff_eq]
  by_cases h0 : a0 = b0
  · by_cases h1 : a1 = b1
    · by_cases h2 : a2 = b2
      · exact .inr (.inr (.inr ⟨h0, h1, h2, fun e => h (by rw [h0, h1, h2, e])⟩))
      · exact .inr (.inr (.inl ⟨h0, h1, h2⟩))
    · exact .inr (.inl ⟨h0, h1⟩)
  · exact .inl h0

/-- Two marks compared. -/
theorem run_mark_eq (a b : Mk) (w : World) : (binOp .eql 69 (mkV a) (mkV b)).run Try.prog w = .ok (.bool (decide (a = b))) w := by
  by_cases h : a = b
  · subst h
    obtain ⟨a0, a1, a2, a3⟩ := a
    go_simp
  · rw [decide_eq_false h]
    have hd := mk_diff h
    obtain ⟨a0, a1, a2, a3⟩ := a
    obtain ⟨b0, b1, b2, b3⟩ := b
    simp only at hd
    clear h
    rcases hd with q | ⟨q0, q⟩ | ⟨q0, q1, q⟩ | ⟨q0, q1, q2, q⟩ <;> go_simp

end Go.Proofs.Ytebhbhcjfnohmab
