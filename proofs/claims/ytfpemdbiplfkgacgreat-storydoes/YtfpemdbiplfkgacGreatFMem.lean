/-
  The contract of chars.Behind: the place behind the n-th byte that one sees.
-/
import Derived.Test.YtfpemdbiplfkgacGreatDPlain
import Derived.Test.YtfpemdbiplfkgacGreatFLists
import Derived.Laws.BytesArg
namespace Go.Proofs.YtfpemdbiplfkgacGreat
open Go.RowKit

structure BInv (W : World) (seen by_ nn met : Int) (w : World) : Prop where
  below : Below W.heap.size W w
  size : W.heap.size + 4 ≤ w.heap.size
  c0 : w.cell? ⟨W.heap.size, 0, none⟩ = some (.int .i64 seen)
  c1 : w.cell? ⟨W.heap.size + 1, 0, none⟩ = some (.int .i64 by_)
  c2 : w.cell? ⟨W.heap.size + 2, 0, none⟩ = some (.int .i64 nn)
  c3 : w.cell? ⟨W.heap.size + 3, 0, none⟩ = some (.int .i64 met)
  f3 : w.frozen? ⟨W.heap.size + 3, 0, none⟩ = false

theorem BInv.after {W w w' : World} {seen by_ nn met : Int} (h : BInv W seen by_ nn met w) (hb : Below w.heap.size w w') : BInv W seen by_ nn met w' := by
  have hs := h.size
  obtain ⟨hc, hf⟩ := bcell hb
  refine ⟨h.below.trans (hb.mono (by omega)), Nat.le_trans hs hb.size, ?_, ?_, ?_, ?_, ?_⟩
  · rw [hc _ _ (by omega)]; exact h.c0
  · rw [hc _ _ (by omega)]; exact h.c1
  · rw [hc _ _ (by omega)]; exact h.c2
  · rw [hc _ _ (by omega)]; exact h.c3
  · rw [hf _ _ (by omega)]; exact h.f3

theorem BInv.store {W w : World} {seen by_ nn met : Int} (h : BInv W seen by_ nn met w) (m : Int) : BInv W seen by_ nn m (w.setCell ⟨W.heap.size + 3, 0, none⟩ (.int .i64 m)) := by
  have hs := h.size
  refine ⟨h.below.setCell (by simp) _, by simpa [World.setCell] using hs, ?_, ?_, ?_, ?_, ?_⟩
  · rw [World.cell?_of_block (w := w) (Below.heap_setCell _ _ _ _ (by simp))]; exact h.c0
  · rw [World.cell?_of_block (w := w) (Below.heap_setCell _ _ _ _ (by simp))]; exact h.c1
  · rw [World.cell?_of_block (w := w) (Below.heap_setCell _ _ _ _ (by simp))]; exact h.c2
  · have := h.c3
    simp [go_sem, this]
  · have := h.f3
    simp [go_sem, this]

def stepM (seen by_ : Int) (x : Ch) (met : Int) : Int := if seesC seen by_ x = true then met + 1 else met
def stepH (seen by_ : Int) (x : Ch) (met nn : Int) : Bool := seesC seen by_ x && (met + 1 == nn)

set_option maxRecDepth 20000 in
set_option maxHeartbeats 400000 in
theorem behind1_any (x : Ch) (W : World) (seen by_ nn met : Int) (w : World) (h : BInv W seen by_ nn met w) (h0 : 0 ≤ met) (h1 : met ≤ 281474976710656) :
    Calls Tryz.prog 146 (#[chV x] ++ #[.pointer (some ⟨W.heap.size, 0, none⟩), .pointer (some ⟨W.heap.size + 1, 0, none⟩), .pointer (some ⟨W.heap.size + 3, 0, none⟩), .pointer (some ⟨W.heap.size + 2, 0, none⟩)]) w
      fun e w' => e = .returned (.bool (stepH seen by_ x met nn)) ∧ BInv W seen by_ nn (stepM seen by_ x met) w' := by
  have H : Hid (BInv W seen by_ nn met w) := h
  have hs := h.size
  have c0 : ∀ o, (w.alloc o).cell? ⟨W.heap.size, 0, none⟩ = some (.int .i64 seen) := fun o => by rw [World.cell?_alloc_past _ _ _ (show W.heap.size < w.heap.size by omega)]; exact h.c0
  have c1 : ∀ o, (w.alloc o).cell? ⟨W.heap.size + 1, 0, none⟩ = some (.int .i64 by_) := fun o => by rw [World.cell?_alloc_past _ _ _ (show W.heap.size + 1 < w.heap.size by omega)]; exact h.c1
  clear h
  go_enter Tryz.func146, Tryz.ntmps146
  go_wp2_with fail
  refine (sees_any x _ _ _).mono ?_
  rintro e w1 ⟨rfl, hb1⟩
  have hb2 : Below w.heap.size w w1 := below_after ((Below.refl _ _).alloc (Nat.le_refl _) _) hb1
  have H1 : Hid (BInv W seen by_ nn met w1) := H.out.after hb2
  have g2 := H1.out.c2
  have g3 := H1.out.c3
  have gf := H1.out.f3
  clear c0 c1 hb1 hb2 H
  cases hc : seesB x.by_ x.inn x.out x.gone seen by_
  · go_wp2
    go_ret
    have hx : seesC seen by_ x = false := hc
    exact ⟨ret_b (by simp [stepH, hx]), by simp only [stepM, hx]; exact H1.out⟩
  · have H2 : Hid (BInv W seen by_ nn (met + 1) (w1.setCell ⟨W.heap.size + 3, 0, none⟩ (.int .i64 (met + 1)))) := H1.out.store _
    have k2 := H2.out.c2
    have k3 := H2.out.c3
    go_wp2
    go_ret
    have hx : seesC seen by_ x = true := hc
    exact ⟨ret_b (by simp [stepH, hx]), by simp only [stepM, hx]; exact H2.out⟩

def hitAt (l : List Ch) (seen by_ nn : Int) (k : Nat) : Bool :=
  match l[k]? with
  | some x => stepH seen by_ x (cnt (l.take k) seen by_) nn
  | none => false

/-- What chars.Behind answers. -/
def BehindIs (l : List Ch) (seen by_ nn r : Int) : Prop :=
  (nn = 0 ∧ r = 0) ∨ (nn ≠ 0 ∧ ((∃ k : Nat, k < l.length ∧ (∀ j, j < k → hitAt l seen by_ nn j = false) ∧ hitAt l seen by_ nn k = true ∧ r = k + 1) ∨ ((∀ j, j < l.length → hitAt l seen by_ nn j = false) ∧ r = -1)))

theorem stepM_take (l : List Ch) (seen by_ : Int) (k : Nat) (h : k < l.length) : stepM seen by_ l[k] (cnt (l.take k) seen by_) = cnt (l.take (k + 1)) seen by_ := by
  rw [take_snoc l k h, cnt_snoc]
  unfold stepM
  split <;> omega

theorem behind_step (W : World) (b off : Nat) (l : List Ch) (seen by_ nn : Int) (hl : l.length ≤ 281474976710656) (hr : Row W b off l) :
    Step 146 #[.pointer (some ⟨W.heap.size, 0, none⟩), .pointer (some ⟨W.heap.size + 1, 0, none⟩), .pointer (some ⟨W.heap.size + 3, 0, none⟩), .pointer (some ⟨W.heap.size + 2, 0, none⟩)] b off l
      (fun k w => BInv W seen by_ nn (cnt (l.take k) seen by_) w) (hitAt l seen by_ nn) := by
  refine ⟨fun k w h => hr.below h.below, fun k hk w h => ?_⟩
  have hb := cnt_bd (l.take k) seen by_
  have hle : (l.take k).length ≤ l.length := by simp; omega
  refine (behind1_any l[k] W seen by_ nn (cnt (l.take k) seen by_) w h hb.1 (by omega)).mono ?_
  rintro e w' ⟨rfl, h'⟩
  rw [stepM_take l seen by_ k hk] at h'
  refine ⟨ret_b ?_, h'⟩
  unfold hitAt
  rw [List.getElem?_eq_getElem hk]

theorem binv_start (w : World) (seen by_ nn : Int) : BInv w seen by_ nn 0 ((((w.alloc (.cells #[.int .i64 seen] 3)).alloc (.cells #[.int .i64 by_] 3)).alloc (.cells #[.int .i64 nn] 3)).alloc (.cells #[.int .i64 0] 3)) := by
  refine ⟨?_, by simp, ?_, ?_, ?_, ?_, ?_⟩
  · exact ((((Below.refl _ _).alloc (Nat.le_refl _) _).alloc (by simp) _).alloc (by simp; omega) _).alloc (by simp; omega) _
  · simp [go_sem, World.cell?_alloc_past]
  · simp [go_sem, World.cell?_alloc_past]
  · simp [go_sem, World.cell?_alloc_past]
  · simp [go_sem]
  · simp [go_sem]

theorem callBehind1 : ∀ args w, Sem.run Tryz.prog (callFunc 146 args) w = .ok (.enter 146 args) w := fun _ _ => by kernel_rfl

set_option maxRecDepth 20000 in
set_option maxHeartbeats 400000 in
theorem behind_some (b off len cap : Nat) (l : List Ch) (seen by_ n : Int) (w : World) (hl : l.length = len) (hm : len ≤ 281474976710656) (hr : Row w b off l) :
    Calls Tryz.prog 116 #[.slice (some ⟨b, off, none⟩) len cap, .int .i64 seen, .int .i64 by_, .int .i64 n] w fun e w' =>
      ∃ r, e = .returned (.int .i64 r) ∧ BehindIs l seen by_ n r ∧ Below w.heap.size w w' := by
  by_cases h0 : n = 0
  · have h0' : (n == 0) = true := by simp [h0]
    have H0 : Hid (n = 0) := h0
    clear h0
    go_enter Tryz.func116, Tryz.ntmps116
    go_wp2
    go_ret
    exact ⟨0, rfl, .inl ⟨H0.out, rfl⟩, (((Below.refl _ _).alloc (Nat.le_refl _) _).alloc (by simp) _).alloc (by simp; omega) _⟩
  · have h0' : (n == 0) = false := by simp [h0]
    have H0 : Hid (n ≠ 0) := h0
    have HL : Hid (l.length = len) := hl
    have HS : Hid _ := binv_start w seen by_ n
    have HT : Hid _ := behind_step w b off l seen by_ n (by omega) hr
    clear h0 hl hr
    have hmf : ∀ (fn : Fn) (first cap : Array Value) (w : World), (Instr.makeFunc fn first cap).run Tryz.prog w = .ok (.func fn first cap) w := fun _ _ _ _ => rfl
    go_enter Tryz.func116, Tryz.ntmps116
    go_wp2_with fail
    rw [show w.heap.size + 1 + 1 + 1 = w.heap.size + 3 from rfl, show w.heap.size + 1 + 1 = w.heap.size + 2 from rfl]
    refine (indexFunc_some 146 #[.pointer (some ⟨w.heap.size, 0, none⟩), .pointer (some ⟨w.heap.size + 1, 0, none⟩), .pointer (some ⟨w.heap.size + 3, 0, none⟩), .pointer (some ⟨w.heap.size + 2, 0, none⟩)] b off len cap l _ _ _ HL.out hm callBehind1 HT.out HS.out).mono ?_
    intro e w1 hres
    have H1 : Hid _ := hres
    clear hres HT HS
    rcases H1.out with ⟨k, hk, hno, hyes, rfl, hI⟩ | ⟨hno, rfl, hI⟩
    · have H2 : Hid _ := hno
      have H3 : Hid _ := hyes
      have H4 : Hid _ := hI
      clear H1 hno hyes hI
      go_wp2
      go_ret
      exact ⟨(k : Int) + 1, rfl, .inr ⟨H0.out, .inl ⟨k, by rw [HL.out]; exact hk, H2.out, H3.out, rfl⟩⟩, H4.out.below⟩
    · have H2 : Hid _ := hno
      have H4 : Hid _ := hI
      clear H1 hno hI
      go_wp2
      go_ret
      exact ⟨-1, rfl, .inr ⟨H0.out, .inr ⟨by rw [HL.out]; exact H2.out, rfl⟩⟩, H4.out.below⟩

end Go.Proofs.YtfpemdbiplfkgacGreat

/-
  The law's own example (charsBegun) is met, in every world.
-/
namespace Go.Proofs.YtfpemdbiplfkgacGreat
open Go.RowKit

theorem own_string {w : World} {base : Nat} {v : Value} {zs : List Int} (h : w.ownsRow base 5 1 v zs.length (cells8 zs)) :
    (convert 56 9 v).run Tryz.prog w = .ok (.string (strOfNums zs)) w := by
  obtain ⟨h1, h2⟩ := h
  rcases h2 with ⟨rfl, hn⟩ | ⟨g, cap, cur, rfl, hg, hh, hle, hm, hsz, hx⟩
  · obtain rfl : zs = [] := List.length_eq_zero_iff.1 hn
    rw [run_convert_bytes_nil w 56 5 Tryz.underlying56 Tryz.underlying5 0 0 9 Tryz.underlying9]
    rfl
  · refine run_convert_bytes_arg w 56 5 Tryz.underlying56 Tryz.underlying5 g 0 zs.length cap zs rfl ?_ 9 Tryz.underlying9
    intro i hi
    have hown : w.ownsRow base 5 1 (.slice (some ⟨g, 0, none⟩) zs.length cap) zs.length (cells8 zs) := ⟨h1, .inr ⟨g, cap, cur, rfl, hg, hh, hle, hm, hsz, hx⟩⟩
    have := hown.cellAt i (by omega)
    rw [Nat.zero_add, this]
    simp [cells8, List.getElem?_eq_getElem hi, List.getD]

def beg : List Ch := [⟨97, 0, 1, 0, 1, 0, 0⟩, ⟨98, 1, 1, 0, 1073741824, 0, 0⟩, ⟨99, 2, 1, 0, 2, 3, 1⟩]

theorem beg_v1 : vw beg 2 0 = [97] := by decide +kernel
theorem beg_v2 : vw beg 2 1 = [97, 98, 99] := by decide +kernel
theorem beg_v3 : vw beg 3 2 = [97] := by decide +kernel

theorem beg_h0 : hitAt beg 2 1 3 0 = false := by decide +kernel
theorem beg_h1 : hitAt beg 2 1 3 1 = false := by decide +kernel
theorem beg_h2 : hitAt beg 2 1 3 2 = true := by decide +kernel
theorem beg_behind {r : Int} (h : BehindIs beg 2 1 3 r) : r = 3 := by
  rcases h with ⟨h, _⟩ | ⟨_, ⟨k, hk, hno, hyes, rfl⟩ | ⟨hno, _⟩⟩
  · cases h
  · have h3 : k < 3 := hk
    rcases (show k = 0 ∨ k = 1 ∨ k = 2 by omega) with rfl | rfl | rfl
    · rw [beg_h0] at hyes; cases hyes
    · rw [beg_h1] at hyes; cases hyes
    · rfl
  · have := hno 2 (by decide)
    rw [beg_h2] at this; cases this
theorem beg_f0 : faultAt beg 3 0 = 0 := by decide +kernel
theorem beg_f1 : faultAt beg 3 1 = 0 := by decide +kernel
theorem beg_f2 : faultAt beg 3 2 = 0 := by decide +kernel
theorem beg_check {r : Int} (h : CheckIs beg 3 r) : r = 0 := by
  rcases h with ⟨h, _⟩ | ⟨_, ⟨k, hk, _, hyes, hr⟩ | ⟨_, rfl⟩⟩
  · exact absurd h (by decide)
  · have h3 : k < 3 := hk
    rcases (show k = 0 ∨ k = 1 ∨ k = 2 by omega) with rfl | rfl | rfl
    · rw [beg_f0] at hyes; exact absurd hyes.symm hr
    · rw [beg_f1] at hyes; exact absurd hyes.symm hr
    · rw [beg_f2] at hyes; exact absurd hyes.symm hr
  · rfl
theorem beg_s0 : sameAt beg ⟨99, 2, 1, 0, 2, 3, 1⟩ 0 = false := by decide +kernel
theorem beg_s1 : sameAt beg ⟨99, 2, 1, 0, 2, 3, 1⟩ 1 = false := by decide +kernel
theorem beg_s2 : sameAt beg ⟨99, 2, 1, 0, 2, 3, 1⟩ 2 = true := by decide +kernel
theorem beg_find {r : Int} (h : FindIs beg ⟨99, 2, 1, 0, 2, 3, 1⟩ r) : r = 2 := by
  rcases h with ⟨k, hk, _, hyes, rfl⟩ | ⟨hno, _⟩
  · have h3 : k < 3 := hk
    rcases (show k = 0 ∨ k = 1 ∨ k = 2 by omega) with rfl | rfl | rfl
    · rw [beg_s0] at hyes; cases hyes
    · rw [beg_s1] at hyes; cases hyes
    · rfl
  · have := hno 2 (by decide)
    rw [beg_s2] at this; cases this

def begCells : Array Value := #[.int .u8 97, .int .i64 0, .int .i64 1, .int .i64 0, .int .i64 1, .int .i64 0, .int .i64 0, .int .u8 98, .int .i64 1, .int .i64 1, .int .i64 0, .int .i64 1073741824, .int .i64 0, .int .i64 0,
  .int .u8 99, .int .i64 2, .int .i64 1, .int .i64 0, .int .i64 2, .int .i64 3, .int .i64 1]

theorem beg_row (w : World) : Row (w.alloc (.cells begCells 71)) w.heap.size 0 beg := by
  refine ⟨by simp, fun i hi => ?_⟩
  have h3 : i < 3 := hi
  rcases (show i = 0 ∨ i = 1 ∨ i = 2 by omega) with rfl | rfl | rfl <;> unfold At <;> simp [go_sem, begCells, beg]

theorem str_97 : strOfNums [97] = ⟨#[97]⟩ := by rfl
theorem str_abc : strOfNums [97, 98, 99] = ⟨#[97, 98, 99]⟩ := by rfl

end Go.Proofs.YtfpemdbiplfkgacGreat

/-
  The walk of the law CharsBehind, for lists that lie in memory and for those without elements.
-/
namespace Go.Proofs.YtfpemdbiplfkgacGreat
open Go.RowKit

set_option maxRecDepth 20000 in
set_option maxHeartbeats 400000 in
theorem count_empty (a : Option Addr) (cap : Nat) (seen by_ : Int) (w : World) :
    Calls Tryz.prog 115 #[.slice a 0 cap, .int .i64 seen, .int .i64 by_] w fun e w' => e = .returned (.int .i64 0) ∧ Below w.heap.size w w' := by
  go_enter Tryz.func115, Tryz.ntmps115
  go_wp2
  refine wp_loop_rounds 1 ?_
  rw [rounds_succ]
  go_wp2
  go_ret
  exact ⟨rfl, Below.refl _ _⟩

set_option maxRecDepth 20000 in
set_option maxHeartbeats 400000 in
theorem indexFunc_empty (a : Option Addr) (cap : Nat) (f : Value) (w : World) :
    Calls Tryz.prog 110 #[.slice a 0 cap, f] w fun e w' => e = .returned (.int .i64 (-1)) ∧ Below w.heap.size w w' := by
  go_enter Tryz.func110, Tryz.ntmps110
  go_wp2
  refine wp_loop_rounds 1 ?_
  rw [rounds_succ]
  go_wp2
  go_ret
  exact ⟨rfl, Below.refl _ _⟩

def emptyBehind (n : Int) : Int := if n = 0 then 0 else -1

theorem below4 (w : World) (o1 o2 o3 o4 : Obj) : Below w.heap.size w ((((w.alloc o1).alloc o2).alloc o3).alloc o4) :=
  ((((Below.refl _ _).alloc (Nat.le_refl _) _).alloc (by simp) _).alloc (by simp; omega) _).alloc (by simp; omega) _

set_option maxRecDepth 20000 in
set_option maxHeartbeats 400000 in
theorem behind_empty (a : Option Addr) (cap : Nat) (seen by_ n : Int) (w : World) :
    Calls Tryz.prog 116 #[.slice a 0 cap, .int .i64 seen, .int .i64 by_, .int .i64 n] w fun e w' => e = .returned (.int .i64 (emptyBehind n)) ∧ Below w.heap.size w w' := by
  by_cases h0 : n = 0
  · have h0' : (n == 0) = true := by simp [h0]
    have H0 : Hid (n = 0) := h0
    clear h0
    go_enter Tryz.func116, Tryz.ntmps116
    go_wp2
    go_ret
    exact ⟨ret_int (by simp [emptyBehind, H0.out]), (((Below.refl _ _).alloc (Nat.le_refl _) _).alloc (by simp) _).alloc (by simp; omega) _⟩
  · have h0' : (n == 0) = false := by simp [h0]
    have H0 : Hid (n ≠ 0) := h0
    clear h0
    have hmf : ∀ (fn : Fn) (first cap : Array Value) (w : World), (Instr.makeFunc fn first cap).run Tryz.prog w = .ok (.func fn first cap) w := fun _ _ _ _ => rfl
    go_enter Tryz.func116, Tryz.ntmps116
    go_wp2_with fail
    refine (indexFunc_empty _ _ _ _).mono ?_
    rintro e w1 ⟨rfl, hb⟩
    have HB : Hid (Below w.heap.size w w1) := below_after (below4 w _ _ _ _) hb
    clear hb
    go_wp2
    go_ret
    exact ⟨ret_int (by simp [emptyBehind, H0.out]), HB.out⟩

theorem cnt_take_le (l : List Ch) (seen by_ : Int) (k : Nat) : cnt (l.take k) seen by_ ≤ cnt l seen by_ := by
  have h : cnt (l.take k ++ l.drop k) seen by_ = cnt (l.take k) seen by_ + cnt (l.drop k) seen by_ := by
    unfold cnt
    rw [List.filter_append, List.length_append]
    omega
  rw [List.take_append_drop] at h
  have := (cnt_bd (l.drop k) seen by_).1
  omega

theorem hit_iff (l : List Ch) (seen by_ nn : Int) (k : Nat) (hk : k < l.length) : hitAt l seen by_ nn k = true ↔ seesC seen by_ l[k] = true ∧ cnt (l.take (k + 1)) seen by_ = nn := by
  unfold hitAt
  rw [List.getElem?_eq_getElem hk, take_snoc l k hk, cnt_snoc]
  simp only [stepH]
  by_cases h : seesC seen by_ l[k] = true
  · simp [h]
  · simp [h]

theorem hit_ex (l : List Ch) (seen by_ nn : Int) (h1 : 0 < nn) : ∀ m, m ≤ l.length → nn ≤ cnt (l.take m) seen by_ → ∃ k, k < m ∧ hitAt l seen by_ nn k = true := by
  intro m
  induction m with
  | zero => intro _ h; simp [cnt] at h; omega
  | succ m ih =>
    intro hm h
    by_cases hle : nn ≤ cnt (l.take m) seen by_
    · obtain ⟨k, hk, hh⟩ := ih (by omega) hle
      exact ⟨k, by omega, hh⟩
    · refine ⟨m, by omega, (hit_iff l seen by_ nn m (by omega)).2 ?_⟩
      have hs := cnt_snoc (l.take m) l[m] seen by_
      rw [← take_snoc l m (by omega)] at hs
      by_cases hx : seesC seen by_ l[m] = true
      · rw [if_pos hx] at hs
        exact ⟨hx, by omega⟩
      · rw [if_neg hx] at hs
        omega

theorem behind_none {l : List Ch} {seen by_ n r : Int} (h : BehindIs l seen by_ n r) (hn : n < 0 ∨ cnt l seen by_ < n) : r = -1 := by
  rcases h with ⟨rfl, _⟩ | ⟨_, ⟨k, hk, _, hyes, _⟩ | ⟨_, hr⟩⟩
  · have := (cnt_bd l seen by_).1
    omega
  · have h1 := ((hit_iff l seen by_ n k hk).1 hyes).2
    have h2 := cnt_take_le l seen by_ (k + 1)
    have h3 := (cnt_bd (l.take (k + 1)) seen by_).1
    omega
  · exact hr

theorem behind_zero {l : List Ch} {seen by_ r : Int} (h : BehindIs l seen by_ 0 r) : r = 0 := by
  rcases h with ⟨_, hr⟩ | ⟨h, _⟩
  · exact hr
  · exact absurd rfl h

theorem behind_pos {l : List Ch} {seen by_ n r : Int} (h : BehindIs l seen by_ n r) (h0 : 0 < n) (hn : n ≤ cnt l seen by_) :
    ∃ m : Nat, ∃ hm : m < l.length, r = m + 1 ∧ cnt (l.take (m + 1)) seen by_ = n ∧ seesC seen by_ l[m] = true := by
  rcases h with ⟨rfl, _⟩ | ⟨_, ⟨k, hk, _, hyes, hr⟩ | ⟨hno, _⟩⟩
  · omega
  · have h1 := (hit_iff l seen by_ n k hk).1 hyes
    exact ⟨k, hk, hr, h1.2, h1.1⟩
  · obtain ⟨k, hk, hh⟩ := hit_ex l seen by_ n h0 l.length (Nat.le_refl _) (by rw [List.take_length]; exact hn)
    rw [hno k hk] at hh
    cases hh

end Go.Proofs.YtfpemdbiplfkgacGreat

/-
  A list of bytes as a value, empty or not: the contracts of Count, View, Behind and Check over it; the text of what one sees.
-/
namespace Go.Proofs.YtfpemdbiplfkgacGreat
open Go.RowKit

/-- The value is a slice that holds just that list; of one without elements nothing is asked of its memory. -/
def Lst (w : World) (v : Value) (l : List Ch) : Prop :=
  ∃ (a : Option Addr) (len cap : Nat), v = .slice a len cap ∧ l.length = len ∧ len ≤ cap ∧ (len = 0 ∨ ∃ b off, a = some ⟨b, off, none⟩ ∧ Row w b off l)

theorem Lst.below {w w' : World} {v : Value} {l : List Ch} (h : Lst w v l) (hb : Below w.heap.size w w') : Lst w' v l := by
  obtain ⟨a, len, cap, rfl, h1, h2, h3⟩ := h
  refine ⟨a, len, cap, rfl, h1, h2, ?_⟩
  rcases h3 with h3 | ⟨b, off, rfl, hr⟩
  · exact .inl h3
  · exact .inr ⟨b, off, rfl, hr.below hb⟩

theorem lst_nil (w : World) : Lst w (.slice none 0 0) [] := ⟨none, 0, 0, rfl, rfl, Nat.le_refl _, .inl rfl⟩

set_option maxRecDepth 20000 in
set_option maxHeartbeats 400000 in
theorem view_empty (a : Option Addr) (cap : Nat) (seen by_ : Int) (w : World) :
    Calls Tryz.prog 20 #[.slice a 0 cap, .int .i64 seen, .int .i64 by_] w fun e w' => e = .returned (.slice none 0 0) ∧ Below w.heap.size w w' := by
  go_enter Tryz.func20, Tryz.ntmps20
  go_wp2
  refine wp_loop_rounds 1 ?_
  rw [rounds_succ]
  go_wp2
  go_ret
  exact ⟨rfl, Below.refl _ _⟩

set_option maxRecDepth 20000 in
set_option maxHeartbeats 400000 in
theorem check_empty (a : Option Addr) (cap : Nat) (log : Int) (w : World) :
    Calls Tryz.prog 98 #[.slice a 0 cap, .int .i64 log] w fun e w' => e = .returned (.int .i64 0) ∧ Below w.heap.size w w' := by
  go_enter Tryz.func98, Tryz.ntmps98
  go_wp2
  refine wp_loop_rounds 1 ?_
  rw [rounds_succ]
  go_wp2
  go_ret
  exact ⟨rfl, Below.refl _ _⟩

theorem count_lst {w : World} {v : Value} {l : List Ch} (h : Lst w v l) (hl : l.length ≤ 1000) (seen by_ : Int) :
    Calls Tryz.prog 115 #[v, .int .i64 seen, .int .i64 by_] w fun e w' => e = .returned (.int .i64 (cnt l seen by_)) ∧ Below w.heap.size w w' := by
  obtain ⟨a, len, cap, rfl, h1, h2, h3⟩ := h
  rcases h3 with rfl | ⟨b, off, rfl, hr⟩
  · obtain rfl : l = [] := List.length_eq_zero_iff.1 h1
    exact count_empty a cap seen by_ w
  · exact count_some b off len cap l seen by_ w h1 (by omega) hr

theorem check_lst {w : World} {v : Value} {l : List Ch} (h : Lst w v l) (hl : l.length ≤ 1000) (log : Int) :
    Calls Tryz.prog 98 #[v, .int .i64 log] w fun e w' => ∃ r, e = .returned (.int .i64 r) ∧ CheckIs l log r ∧ Below w.heap.size w w' := by
  obtain ⟨a, len, cap, rfl, h1, h2, h3⟩ := h
  rcases h3 with rfl | ⟨b, off, rfl, hr⟩
  · obtain rfl : l = [] := List.length_eq_zero_iff.1 h1
    refine (check_empty a cap log w).mono ?_
    rintro e w' ⟨rfl, hb⟩
    exact ⟨0, rfl, .inr ⟨by decide, .inr ⟨fun j hj => absurd hj (Nat.not_lt_zero _), rfl⟩⟩, hb⟩
  · exact check_some b off len cap l log w h1 h2 (by omega) hr

/-- What View answers, and that its text is what one sees. -/
theorem view_lst {w : World} {v : Value} {l : List Ch} (h : Lst w v l) (hl : l.length ≤ 1000) (seen by_ : Int) :
    Calls Tryz.prog 20 #[v, .int .i64 seen, .int .i64 by_] w fun e w' =>
      ∃ u, e = .returned u ∧ (convert 56 9 u).run Tryz.prog w' = .ok (.string (strOfNums (vw l seen by_))) w' ∧ Below w.heap.size w w' := by
  obtain ⟨a, len, cap, rfl, h1, h2, h3⟩ := h
  rcases h3 with rfl | ⟨b, off, rfl, hr⟩
  · obtain rfl : l = [] := List.length_eq_zero_iff.1 h1
    refine (view_empty a cap seen by_ w).mono ?_
    rintro e w' ⟨rfl, hb⟩
    exact ⟨_, rfl, own_string (base := w'.heap.size) (zs := []) (World.ownsRow_nil _ _ _ _), hb⟩
  · refine (view_some b off len cap l seen by_ w h1 (by omega) hr).mono ?_
    rintro e w' ⟨u, rfl, ho, hb⟩
    exact ⟨u, rfl, own_string ho, hb⟩

/-- Two texts of bytes are the same just where the numbers are. -/
theorem strOfNums_app (a b : List Int) : strOfNums (a ++ b) = strOfNums a ++ strOfNums b := by
  cases hs : strOfNums a ++ strOfNums b with
  | mk d =>
    have h1 : d.toList = (strOfNums a).data.toList ++ (strOfNums b).data.toList := by
      have := congrArg (fun s : ByteArray => s.data.toList) hs
      simpa using this.symm
    have h2 : (strOfNums (a ++ b)).data.toList = d.toList := by rw [h1, strOfNums_data, strOfNums_data, strOfNums_data, List.map_append]
    cases hd : strOfNums (a ++ b) with
    | mk d' =>
      rw [hd] at h2
      have : d' = d := Array.toList_inj.1 h2
      rw [this]

theorem strOfNums_size (a : List Int) : (strOfNums a).size = a.length := by
  show (strOfNums a).data.size = a.length
  rw [← Array.length_toList, strOfNums_data, List.length_map]

end Go.Proofs.YtfpemdbiplfkgacGreat

/-
  Lists of bytes in memory, as rows of cells: those that a call owns; deeds in memory. No walk.
-/
namespace Go.Proofs.YtfpemdbiplfkgacGreat
open Go.RowKit

def chCells (x : Ch) : List Value := [.int .u8 x.c, .int .i64 x.by_, .int .i64 x.no, .int .i64 x.k, .int .i64 x.inn, .int .i64 x.out, .int .i64 x.gone]

def cells7 : List Ch → List Value
  | [] => []
  | x :: r => chCells x ++ cells7 r

theorem cells7_len : ∀ l : List Ch, (cells7 l).length = l.length * 7
  | [] => rfl
  | x :: r => by
    rw [cells7, List.length_append, cells7_len r, List.length_cons]
    show 7 + _ = _
    omega

theorem cells7_app : ∀ a b : List Ch, cells7 (a ++ b) = cells7 a ++ cells7 b
  | [], b => rfl
  | x :: r, b => by rw [List.cons_append, cells7, cells7_app r b, cells7, List.append_assoc]

theorem cells7_one : ∀ (l : List Ch) (u : Value), u ∈ cells7 l → u.oneCell' = true
  | [], u, h => by simp [cells7] at h
  | x :: r, u, h => by
    rw [cells7, List.mem_append] at h
    rcases h with h | h
    · simp [chCells] at h
      rcases h with rfl | rfl | rfl | rfl | rfl | rfl | rfl <;> rfl
    · exact cells7_one r u h

theorem cells7_get : ∀ (l : List Ch) (i r : Nat) (hi : i < l.length), r < 7 → (cells7 l)[i * 7 + r]? = (chCells l[i])[r]?
  | [], i, r, hi, _ => absurd hi (Nat.not_lt_zero _)
  | x :: l, 0, r, _, hr => by
    rw [cells7, Nat.zero_mul, Nat.zero_add, List.getElem?_append_left (by exact hr)]
    rfl
  | x :: l, i + 1, r, hi, hr => by
    rw [cells7, List.getElem?_append_right (by show 7 ≤ _; omega)]
    show (cells7 l)[(i + 1) * 7 + r - 7]? = _
    rw [show (i + 1) * 7 + r - 7 = i * 7 + r by omega, cells7_get l i r (by simpa using hi) hr]
    rfl

theorem addr_add (b off j : Nat) : (⟨b, off, none⟩ : Addr).add j = ⟨b, off + j, none⟩ := by
  unfold Addr.add
  split <;> simp_all

/-- A list that lies somewhere, as a source of cells. -/
theorem src_cells {w : World} {b : Nat} : ∀ (l : List Ch) (off : Nat), (∀ i (h : i < l.length), At w b (off + i * 7) l[i]) → ∀ j u, (cells7 l)[j]? = some u → w.cell? ((⟨b, off, none⟩ : Addr).add j) = some u
  | [], off, _, j, u, hu => by simp [cells7] at hu
  | x :: l, off, h, j, u, hu => by
    rw [addr_add]
    rw [cells7] at hu
    by_cases hj : j < 7
    · rw [List.getElem?_append_left (by exact hj)] at hu
      obtain ⟨h0, h1, h2, h3, h4, h5, h6⟩ := h 0 (by simp)
      simp only [Nat.zero_mul, Nat.add_zero, List.getElem_cons_zero] at h0 h1 h2 h3 h4 h5 h6
      rcases (show j = 0 ∨ j = 1 ∨ j = 2 ∨ j = 3 ∨ j = 4 ∨ j = 5 ∨ j = 6 by omega) with rfl | rfl | rfl | rfl | rfl | rfl | rfl <;> simp [chCells] at hu <;> subst hu <;> assumption
    · rw [List.getElem?_append_right (by show 7 ≤ j; omega)] at hu
      have hu' : (cells7 l)[j - 7]? = some u := hu
      have := src_cells l (off + 7) (fun i hi => by
        have := h (i + 1) (by simpa using hi)
        rw [show off + (i + 1) * 7 = off + 7 + i * 7 by omega] at this
        exact this) (j - 7) u hu'
      rw [addr_add, show off + 7 + (j - 7) = off + j by omega] at this
      exact this

/-- A list that the call owns, in memory from block 'base' on. -/
def Own (w : World) (base : Nat) (v : Value) (l : List Ch) : Prop := w.ownsRow base 71 7 v l.length (cells7 l)

theorem own_nil (w : World) (base : Nat) : Own w base (.slice none 0 0) [] := World.ownsRow_nil _ _ _ _

theorem own_row {w : World} {base g n cap : Nat} {l : List Ch} (hg : g < w.heap.size) (hn : l.length = n) (h : w.ownsRow base 71 7 (.slice (some ⟨g, 0, none⟩) n cap) n (cells7 l)) : Row w g 0 l := by
  refine ⟨hg, fun i hi => ?_⟩
  have key : ∀ r, r < 7 → w.cell? ⟨g, 0 + i * 7 + r, none⟩ = (chCells l[i])[r]? := fun r hr => by
    rw [Nat.zero_add, h.cellAt (i * 7 + r) (by omega), cells7_get l i r hi hr]
  have k0 := key 0 (by omega)
  have k1 := key 1 (by omega)
  have k2 := key 2 (by omega)
  have k3 := key 3 (by omega)
  have k4 := key 4 (by omega)
  have k5 := key 5 (by omega)
  have k6 := key 6 (by omega)
  exact ⟨k0, k1, k2, k3, k4, k5, k6⟩

theorem Own.lst {w : World} {base : Nat} {v : Value} {l : List Ch} (h : Own w base v l) : Lst w v l := by
  have h' := h
  obtain ⟨_, h2⟩ := h
  rcases h2 with ⟨rfl, hn⟩ | ⟨g, cap, cur, rfl, hb, hg, hnc, _⟩
  · obtain rfl : l = [] := List.length_eq_zero_iff.1 hn
    exact lst_nil w
  · exact ⟨_, _, _, rfl, rfl, hnc, .inr ⟨g, 0, rfl, own_row (Array.getElem?_eq_some_iff.1 hg).1 rfl h'⟩⟩

theorem Own.below {w w' : World} {base : Nat} {v : Value} {l : List Ch} (h : Own w base v l) (hb : Below w.heap.size w w') : Own w' base v l := owns_below h hb

theorem Own.mono {w : World} {base base' : Nat} {v : Value} {l : List Ch} (h : Own w base v l) (hb : base' ≤ base) : Own w base' v l := by
  obtain ⟨h1, h2⟩ := h
  refine ⟨h1, ?_⟩
  rcases h2 with h2 | ⟨g, cap, cur, e, hg, r⟩
  · exact .inl h2
  · exact .inr ⟨g, cap, cur, e, Nat.le_trans hb hg, r⟩

/-- A deed in memory. -/
structure DdAt (w : World) (B o : Nat) (d : Dd) : Prop where
  lt : B < w.heap.size
  c0 : w.cell? ⟨B, o, none⟩ = some (.int .i64 d.kind)
  c1 : w.cell? ⟨B, o + 1, none⟩ = some (.int .i64 d.by_)
  c2 : w.cell? ⟨B, o + 2, none⟩ = some (.int .i64 d.no)
  c3 : w.cell? ⟨B, o + 3, none⟩ = some (.int .i64 d.seen)
  c4 : w.cell? ⟨B, o + 4, none⟩ = some (.int .i64 d.at_)
  c5 : w.cell? ⟨B, o + 5, none⟩ = some (.int .i64 d.many)
  c6 : w.cell? ⟨B, o + 6, none⟩ = some (.string d.text)

abbrev dObj (d : Dd) : Obj := .cells #[.int .i64 d.kind, .int .i64 d.by_, .int .i64 d.no, .int .i64 d.seen, .int .i64 d.at_, .int .i64 d.many, .string d.text] 41

theorem ddat_start (w : World) (d : Dd) : DdAt (w.alloc (dObj d)) w.heap.size 0 d := by
  refine ⟨by simp, ?_, ?_, ?_, ?_, ?_, ?_, ?_⟩ <;> simp [go_sem]

theorem DdAt.below {w w' : World} {B o : Nat} {d : Dd} (h : DdAt w B o d) (hb : Below w.heap.size w w') : DdAt w' B o d := by
  obtain ⟨hc, _⟩ := bcell hb
  refine ⟨by have := hb.size; have := h.lt; omega, ?_, ?_, ?_, ?_, ?_, ?_, ?_⟩ <;> rw [hc _ _ h.lt]
  · exact h.c0
  · exact h.c1
  · exact h.c2
  · exact h.c3
  · exact h.c4
  · exact h.c5
  · exact h.c6

theorem Lst.len {w : World} {v : Value} {l : List Ch} (h : Lst w v l) : ∃ a cap, v = .slice a l.length cap ∧ l.length ≤ cap := by
  obtain ⟨a, len, cap, rfl, rfl, h2, _⟩ := h
  exact ⟨a, cap, rfl, h2⟩

/-- What is behind the first k of a list. -/
theorem Row.drop' {w : World} {b off : Nat} {l : List Ch} (h : Row w b off l) (k : Nat) : Row w b (off + k * 7) (l.drop k) :=
  ⟨h.lt, fun i hi => by
    have hi' : k + i < l.length := by rw [List.length_drop] at hi; omega
    rw [List.getElem_drop]
    have := h.at_ (k + i) hi'
    rw [show off + (k + i) * 7 = off + k * 7 + i * 7 by rw [Nat.add_mul]; omega] at this
    exact this⟩

/-- Bytes whose Gone fits an int. -/
def FitsL (l : List Ch) : Prop := ∀ x ∈ l, -9223372036854775808 ≤ x.gone ∧ x.gone ≤ 9223372036854775807

theorem info_char : (Tryz.prog.info? 71).map (fun i => (i.size, i.bytes)) = some (7, 56) := by kernel_rfl

end Go.Proofs.YtfpemdbiplfkgacGreat
