/-
  The contract of chars.Behind: the place behind the n-th byte that one sees.
-/
import Derived.Test.YtebhbhcjfnohmabSearch
namespace Go.Proofs.Ytebhbhcjfnohmab
open Go.RowKit

structure BInv (W : World) (seen by_ nn met : Int) (w : World) : Prop where
  below : Below W.heap.size W w
  size : W.heap.size + 4 ≤ w.heap.size
  c0 : w.cell? ⟨W.heap.size, 0, none⟩ = some (.int .i64 seen)
  c1 : w.cell? ⟨W.heap.size + 1, 0, none⟩ = some (.int .i64 by_)
  c2 : w.cell? ⟨W.heap.size + 2, 0, none⟩ = some (.int .i64 nn)
  c3 : w.cell? ⟨W.heap.size + 3, 0, none⟩ = some (.int .i64 met)
  f3 : w.frozen? ⟨W.heap.size + 3, 0, none⟩ = false

theorem BInv.after {W w w' : World} {seen by_ nn met : Int} (h : BInv W seen by_ nn met w) (hb : Below w.heap.size w w') : BInv W seen by_ nn met w' := by
  have hs := h.size
  obtain ⟨hc, hf⟩ := bcell hb
  refine ⟨h.below.trans (hb.mono (by omega)), Nat.le_trans hs hb.size, ?_, ?_, ?_, ?_, ?_⟩
  · rw [hc _ _ (by omega)]; exact h.c0
  · rw [hc _ _ (by omega)]; exact h.c1
  · rw [hc _ _ (by omega)]; exact h.c2
  · rw [hc _ _ (by omega)]; exact h.c3
  · rw [hf _ _ (by omega)]; exact h.f3

theorem BInv.store {W w : World} {seen by_ nn met : Int} (h : BInv W seen by_ nn met w) (m : Int) : BInv W seen by_ nn m (w.setCell ⟨W.heap.size + 3, 0, none⟩ (.int .i64 m)) := by
  have hs := h.size
  refine ⟨h.below.setCell (by simp) _, by simpa [World.setCell] using hs, ?_, ?_, ?_, ?_, ?_⟩
  · rw [World.cell?_of_block (w := w) (Below.heap_setCell _ _ _ _ (by simp))]; exact h.c0
  · rw [World.cell?_of_block (w := w) (Below.heap_setCell _ _ _ _ (by simp))]; exact h.c1
  · rw [World.cell?_of_block (w := w) (Below.heap_setCell _ _ _ _ (by simp))]; exact h.c2
  · have := h.c3
    simp [go_sem, this]
  · have := h.f3
    simp [go_sem, this]

def stepM (seen by_ : Int) (x : Ch) (met : Int) : Int := if seesC seen by_ x = true then met + 1 else met
def stepH (seen by_ : Int) (x : Ch) (met nn : Int) : Bool := seesC seen by_ x && (met + 1 == nn)

set_option maxRecDepth 20000 in
set_option maxHeartbeats 400000 in
theorem behind1_any (x : Ch) (W : World) (seen by_ nn met : Int) (w : World) (h : BInv W seen by_ nn met w) (h0 : 0 ≤ met) (h1 : met ≤ 281474976710656) :
    Calls Try.prog 102 (#[chV x] ++ #[.pointer (some ⟨W.heap.size, 0, none⟩), .pointer (some ⟨W.heap.size + 1, 0, none⟩), .pointer (some ⟨W.heap.size + 3, 0, none⟩), .pointer (some ⟨W.heap.size + 2, 0, none⟩)]) w
      fun e w' => e = .returned (.bool (stepH seen by_ x met nn)) ∧ BInv W seen by_ nn (stepM seen by_ x met) w' := by
  have H : Hid (BInv W seen by_ nn met w) := h
  have hs := h.size
  have c0 : ∀ o, (w.alloc o).cell? ⟨W.heap.size, 0, none⟩ = some (.int .i64 seen) := fun o => by rw [World.cell?_alloc_past _ _ _ (show W.heap.size < w.heap.size by omega)]; exact h.c0
  have c1 : ∀ o, (w.alloc o).cell? ⟨W.heap.size + 1, 0, none⟩ = some (.int .i64 by_) := fun o => by rw [World.cell?_alloc_past _ _ _ (show W.heap.size + 1 < w.heap.size by omega)]; exact h.c1
  clear h
  go_enter Try.func102, Try.ntmps102
  go_wp2_with fail
  refine (sees_any x _ _ _).mono ?_
  rintro e w1 ⟨rfl, hb1⟩
  have hb2 : Below w.heap.size w w1 := below_after ((Below.refl _ _).alloc (Nat.le_refl _) _) hb1
  have H1 : Hid (BInv W seen by_ nn met w1) := H.out.after hb2
  have g2 := H1.out.c2
  have g3 := H1.out.c3
  have gf := H1.out.f3
  clear c0 c1 hb1 hb2 H
  cases hc : seesB x.by_ x.inn x.out x.gone seen by_
  · go_wp2
    go_ret
    have hx : seesC seen by_ x = false := hc
    exact ⟨ret_b (by simp [stepH, hx]), by simp only [stepM, hx]; exact H1.out⟩
  · have H2 : Hid (BInv W seen by_ nn (met + 1) (w1.setCell ⟨W.heap.size + 3, 0, none⟩ (.int .i64 (met + 1)))) := H1.out.store _
    have k2 := H2.out.c2
    have k3 := H2.out.c3
    go_wp2
    go_ret
    have hx : seesC seen by_ x = true := hc
    exact ⟨ret_b (by simp [stepH, hx]), by simp only [stepM, hx]; exact H2.out⟩

def hitAt (l : List Ch) (seen by_ nn : Int) (k : Nat) : Bool :=
  match l[k]? with
  | some x => stepH seen by_ x (cnt (l.take k) seen by_) nn
  | none => false

/-- What chars.Behind answers. -/
def BehindIs (l : List Ch) (seen by_ nn r : Int) : Prop :=
  (nn = 0 ∧ r = 0) ∨ (nn ≠ 0 ∧ ((∃ k : Nat, k < l.length ∧ (∀ j, j < k → hitAt l seen by_ nn j = false) ∧ hitAt l seen by_ nn k = true ∧ r = k + 1) ∨ ((∀ j, j < l.length → hitAt l seen by_ nn j = false) ∧ r = -1)))

theorem stepM_take (l : List Ch) (seen by_ : Int) (k : Nat) (h : k < l.length) : stepM seen by_ l[k] (cnt (l.take k) seen by_) = cnt (l.take (k + 1)) seen by_ := by
  rw [take_snoc l k h, cnt_snoc]
  unfold stepM
  split <;> omega

theorem behind_step (W : World) (b off : Nat) (l : List Ch) (seen by_ nn : Int) (hl : l.length ≤ 281474976710656) (hr : Row W b off l) :
    Step 102 #[.pointer (some ⟨W.heap.size, 0, none⟩), .pointer (some ⟨W.heap.size + 1, 0, none⟩), .pointer (some ⟨W.heap.size + 3, 0, none⟩), .pointer (some ⟨W.heap.size + 2, 0, none⟩)] b off l
      (fun k w => BInv W seen by_ nn (cnt (l.take k) seen by_) w) (hitAt l seen by_ nn) := by
  refine ⟨fun k w h => hr.below h.below, fun k hk w h => ?_⟩
  have hb := cnt_bd (l.take k) seen by_
  have hle : (l.take k).length ≤ l.length := by simp; omega
  refine (behind1_any l[k] W seen by_ nn (cnt (l.take k) seen by_) w h hb.1 (by omega)).mono ?_
  rintro e w' ⟨rfl, h'⟩
  rw [stepM_take l seen by_ k hk] at h'
  refine ⟨ret_b ?_, h'⟩
  unfold hitAt
  rw [List.getElem?_eq_getElem hk]

theorem binv_start (w : World) (seen by_ nn : Int) : BInv w seen by_ nn 0 ((((w.alloc (.cells #[.int .i64 seen] 3)).alloc (.cells #[.int .i64 by_] 3)).alloc (.cells #[.int .i64 nn] 3)).alloc (.cells #[.int .i64 0] 3)) := by
  refine ⟨?_, by simp, ?_, ?_, ?_, ?_, ?_⟩
  · exact ((((Below.refl _ _).alloc (Nat.le_refl _) _).alloc (by simp) _).alloc (by simp; omega) _).alloc (by simp; omega) _
  · simp [go_sem, World.cell?_alloc_past]
  · simp [go_sem, World.cell?_alloc_past]
  · simp [go_sem, World.cell?_alloc_past]
  · simp [go_sem]
  · simp [go_sem]

theorem callBehind1 : ∀ args w, Sem.run Try.prog (callFunc 102 args) w = .ok (.enter 102 args) w := fun _ _ => by kernel_rfl

set_option maxRecDepth 20000 in
set_option maxHeartbeats 400000 in
theorem behind_some (b off len cap : Nat) (l : List Ch) (seen by_ n : Int) (w : World) (hl : l.length = len) (hm : len ≤ 281474976710656) (hr : Row w b off l) :
    Calls Try.prog 91 #[.slice (some ⟨b, off, none⟩) len cap, .int .i64 seen, .int .i64 by_, .int .i64 n] w fun e w' =>
      ∃ r, e = .returned (.int .i64 r) ∧ BehindIs l seen by_ n r ∧ Below w.heap.size w w' := by
  by_cases h0 : n = 0
  · have h0' : (n == 0) = true := by simp [h0]
    have H0 : Hid (n = 0) := h0
    clear h0
    go_enter Try.func91, Try.ntmps91
    go_wp2
    go_ret
    exact ⟨0, rfl, .inl ⟨H0.out, rfl⟩, (((Below.refl _ _).alloc (Nat.le_refl _) _).alloc (by simp) _).alloc (by simp; omega) _⟩
  · have h0' : (n == 0) = false := by simp [h0]
    have H0 : Hid (n ≠ 0) := h0
    have HL : Hid (l.length = len) := hl
    have HS : Hid _ := binv_start w seen by_ n
    have HT : Hid _ := behind_step w b off l seen by_ n (by omega) hr
    clear h0 hl hr
    have hmf : ∀ (fn : Fn) (first cap : Array Value) (w : World), (Instr.makeFunc fn first cap).run Try.prog w = .ok (.func fn first cap) w := fun _ _ _ _ => rfl
    go_enter Try.func91, Try.ntmps91
    go_wp2_with fail
    rw [show w.heap.size + 1 + 1 + 1 = w.heap.size + 3 from rfl, show w.heap.size + 1 + 1 = w.heap.size + 2 from rfl]
    refine (indexFunc_some 102 #[.pointer (some ⟨w.heap.size, 0, none⟩), .pointer (some ⟨w.heap.size + 1, 0, none⟩), .pointer (some ⟨w.heap.size + 3, 0, none⟩), .pointer (some ⟨w.heap.size + 2, 0, none⟩)] b off len cap l _ _ _ HL.out hm callBehind1 HT.out HS.out).mono ?_
    intro e w1 hres
    have H1 : Hid _ := hres
    clear hres HT HS
    rcases H1.out with ⟨k, hk, hno, hyes, rfl, hI⟩ | ⟨hno, rfl, hI⟩
    · have H2 : Hid _ := hno
      have H3 : Hid _ := hyes
      have H4 : Hid _ := hI
      clear H1 hno hyes hI
      go_wp2
      go_ret
      exact ⟨(k : Int) + 1, rfl, .inr ⟨H0.out, .inl ⟨k, by rw [HL.out]; exact hk, H2.out, H3.out, rfl⟩⟩, H4.out.below⟩
    · have H2 : Hid _ := hno
      have H4 : Hid _ := hI
      clear H1 hno hI
      go_wp2
      go_ret
      exact ⟨-1, rfl, .inr ⟨H0.out, .inr ⟨by rw [HL.out]; exact H2.out, rfl⟩⟩, H4.out.below⟩

end Go.Proofs.Ytebhbhcjfnohmab
