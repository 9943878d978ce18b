/-
  The contracts of chars.Same and chars.Find.
-/
import Derived.Test.YtebhbhcjfnohmabSearch
namespace Go.Proofs.Ytebhbhcjfnohmab
open Go.RowKit

def sameB (a b : Ch) : Bool := decide (a.by_ = b.by_ ∧ a.no = b.no ∧ a.k = b.k)

set_option maxRecDepth 20000 in
set_option maxHeartbeats 400000 in
theorem same_any (x y : Ch) (w : World) :
    Calls Try.prog 81 #[chV x, chV y] w fun e w' => e = .returned (.bool (sameB x y)) ∧ Below w.heap.size w w' := by
  obtain ⟨c, b, no, k, i, o, g⟩ := x
  obtain ⟨c', b', no', k', i', o', g'⟩ := y
  cases h1 : (b == b')
  · go_enter Try.func81, Try.ntmps81
    go_wp2
    go_ret
    refine ⟨ret_b ?_, ((Below.refl _ _).alloc (Nat.le_refl _) _).alloc (by simp) _⟩
    simp only [beq_eq_false_iff_ne] at h1
    simp [sameB, h1]
  · cases h2 : (no == no')
    · go_enter Try.func81, Try.ntmps81
      go_wp2
      go_ret
      refine ⟨ret_b ?_, ((Below.refl _ _).alloc (Nat.le_refl _) _).alloc (by simp) _⟩
      simp only [beq_eq_false_iff_ne] at h2
      simp [sameB, h2]
    · cases h3 : (k == k')
      all_goals
        go_enter Try.func81, Try.ntmps81
        go_wp2
        go_ret
        refine ⟨ret_b ?_, ((Below.refl _ _).alloc (Nat.le_refl _) _).alloc (by simp) _⟩
        simp only [beq_eq_false_iff_ne, beq_iff_eq] at h1 h2 h3
        simp [sameB, h1, h2, h3]

structure FInv (W : World) (y : Ch) (w : World) : Prop where
  below : Below W.heap.size W w
  size : W.heap.size + 1 ≤ w.heap.size
  at_ : At w W.heap.size 0 y

theorem FInv.after {W w w' : World} {y : Ch} (h : FInv W y w) (hb : Below w.heap.size w w') : FInv W y w' := by
  have hs := h.size
  obtain ⟨hc, hf⟩ := bcell hb
  refine ⟨h.below.trans (hb.mono (by omega)), Nat.le_trans hs hb.size, ?_⟩
  have hx := h.at_
  unfold At at hx ⊢
  simp only [hc _ _ (show W.heap.size < w.heap.size by omega)]
  exact hx

set_option maxRecDepth 20000 in
set_option maxHeartbeats 400000 in
theorem find1_any (x y : Ch) (W w : World) (h : FInv W y w) :
    Calls Try.prog 80 (#[chV x] ++ #[.pointer (some ⟨W.heap.size, 0, none⟩)]) w
      fun e w' => e = .returned (.bool (sameB x y)) ∧ FInv W y w' := by
  have H : Hid (FInv W y w) := h
  have hs := h.size
  have ha : ∀ o j v, w.cell? ⟨W.heap.size, j, none⟩ = some v → (w.alloc o).cell? ⟨W.heap.size, j, none⟩ = some v := fun o j v hv => by
    rw [World.cell?_alloc_past _ _ _ (show W.heap.size < w.heap.size by omega)]; exact hv
  obtain ⟨a0, a1, a2, a3, a4, a5, a6⟩ := h.at_
  have c0 := fun o => ha o _ _ a0
  have c1 := fun o => ha o _ _ a1
  have c2 := fun o => ha o _ _ a2
  have c3 := fun o => ha o _ _ a3
  have c4 := fun o => ha o _ _ a4
  have c5 := fun o => ha o _ _ a5
  have c6 := fun o => ha o _ _ a6
  simp only [Nat.zero_add] at c1 c2 c3 c4 c5 c6
  clear h ha a0 a1 a2 a3 a4 a5 a6
  go_enter Try.func80, Try.ntmps80
  go_wp2_with fail
  refine (same_any x y _).mono ?_
  rintro e w1 ⟨rfl, hb1⟩
  have hb2 : Below w.heap.size w w1 := below_after ((Below.refl _ _).alloc (Nat.le_refl _) _) hb1
  have H1 : Hid (FInv W y w1) := H.out.after hb2
  clear c0 c1 c2 c3 c4 c5 c6 hb1 hb2 H
  go_wp2
  go_ret
  exact ⟨rfl, H1.out⟩

def sameAt (l : List Ch) (y : Ch) (k : Nat) : Bool :=
  match l[k]? with
  | some x => sameB x y
  | none => false

/-- What chars.Find answers. -/
def FindIs (l : List Ch) (y : Ch) (r : Int) : Prop :=
  (∃ k : Nat, k < l.length ∧ (∀ j, j < k → sameAt l y j = false) ∧ sameAt l y k = true ∧ r = k) ∨ ((∀ j, j < l.length → sameAt l y j = false) ∧ r = -1)

theorem find_step (W : World) (b off : Nat) (l : List Ch) (y : Ch) (hr : Row W b off l) :
    Step 80 #[.pointer (some ⟨W.heap.size, 0, none⟩)] b off l (fun _ w => FInv W y w) (sameAt l y) := by
  refine ⟨fun k w h => hr.below h.below, fun k hk w h => ?_⟩
  refine (find1_any l[k] y W w h).mono ?_
  rintro e w' ⟨rfl, h'⟩
  refine ⟨ret_b ?_, h'⟩
  unfold sameAt
  rw [List.getElem?_eq_getElem hk]

theorem finv_start (w : World) (y : Ch) : FInv w y (w.alloc (.cells #[.int .u8 y.c, .int .i64 y.by_, .int .i64 y.no, .int .i64 y.k, .int .i64 y.inn, .int .i64 y.out, .int .i64 y.gone] 65)) := by
  refine ⟨(Below.refl _ _).alloc (Nat.le_refl _) _, by simp, ?_⟩
  unfold At
  simp [go_sem]

theorem callFind1 : ∀ args w, Sem.run Try.prog (callFunc 80 args) w = .ok (.enter 80 args) w := fun _ _ => by kernel_rfl

set_option maxRecDepth 20000 in
set_option maxHeartbeats 400000 in
theorem find_some (b off len cap : Nat) (l : List Ch) (y : Ch) (w : World) (hl : l.length = len) (hm : len ≤ 281474976710656) (hr : Row w b off l) :
    Calls Try.prog 50 #[.slice (some ⟨b, off, none⟩) len cap, chV y] w fun e w' =>
      ∃ r, e = .returned (.int .i64 r) ∧ FindIs l y r ∧ Below w.heap.size w w' := by
  have HL : Hid (l.length = len) := hl
  have HS : Hid _ := finv_start w y
  have HT : Hid _ := find_step w b off l y hr
  clear hl hr
  have hmf : ∀ (fn : Fn) (first cap : Array Value) (w : World), (Instr.makeFunc fn first cap).run Try.prog w = .ok (.func fn first cap) w := fun _ _ _ _ => rfl
  go_enter Try.func50, Try.ntmps50
  go_wp2_with fail
  refine (indexFunc_some 80 #[.pointer (some ⟨w.heap.size, 0, none⟩)] b off len cap l _ _ _ HL.out hm callFind1 HT.out HS.out).mono ?_
  intro e w1 hres
  have H1 : Hid _ := hres
  clear hres HT HS
  rcases H1.out with ⟨k, hk, hno, hyes, rfl, hI⟩ | ⟨hno, rfl, hI⟩
  · have H2 : Hid _ := hno
    have H3 : Hid _ := hyes
    have H4 : Hid _ := hI
    clear H1 hno hyes hI
    go_wp2
    go_ret
    exact ⟨(k : Int), rfl, .inl ⟨k, by rw [HL.out]; exact hk, H2.out, H3.out, rfl⟩, H4.out.below⟩
  · have H2 : Hid _ := hno
    have H4 : Hid _ := hI
    clear H1 hno hI
    go_wp2
    go_ret
    exact ⟨-1, rfl, .inr ⟨by rw [HL.out]; exact H2.out, rfl⟩, H4.out.below⟩

end Go.Proofs.Ytebhbhcjfnohmab
