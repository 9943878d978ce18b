/-
  The contracts of chars.Count and chars.View: loops over a list of bytes.
-/
import Derived.Test.YtnabhdfodckpdacGreatLeaf
import Derived.Deep.RegionWith
import Derived.Laws.BytesArg
namespace Go.Proofs.YtnabhdfodckpdacGreat
set_option maxRecDepth 20000
open Go.RowKit
def seesC (seen by_ : Int) (x : Ch) : Bool := seesB x.by_ x.inn x.out x.gone seen by_
def cnt (l : List Ch) (seen by_ : Int) : Int := ((l.filter (seesC seen by_)).length : Int)
def At (w : World) (b o : Nat) (x : Ch) : Prop :=
 w.cell? ⟨b, o, none⟩ = some (.int .u8 x.c) ∧ w.cell? ⟨b, o + 1, none⟩ = some (.int .i64 x.by_) ∧ w.cell? ⟨b, o + 2, none⟩ = some (.int .i64 x.no) ∧
 w.cell? ⟨b, o + 3, none⟩ = some (.int .i64 x.k) ∧ w.cell? ⟨b, o + 4, none⟩ = some (.int .i64 x.inn) ∧ w.cell? ⟨b, o + 5, none⟩ = some (.int .i64 x.out) ∧
 w.cell? ⟨b, o + 6, none⟩ = some (.int .i64 x.gone)
structure Row (w : World) (b off : Nat) (l : List Ch) : Prop where
 lt : b < w.heap.size
 at_ : ∀ i (h : i < l.length), At w b (off + i * 7) l[i]
theorem Row.below {w wr : World} {b off : Nat} {l : List Ch} (h : Row w b off l) (hb : Below w.heap.size w wr) : Row wr b off l := by
 refine ⟨Nat.lt_of_lt_of_le h.lt hb.size, fun i hi => ?_⟩
 have hc := (bcell hb).1
 have hx := h.at_ i hi
 unfold At at hx ⊢
 simp only [hc _ _ h.lt]
 exact hx
theorem take_snoc {α : Type} (l : List α) (k : Nat) (h : k < l.length) : l.take (k + 1) = l.take k ++ [l[k]] :=
 List.take_succ_eq_append_getElem h
theorem cnt_snoc (l : List Ch) (x : Ch) (seen by_ : Int) : cnt (l ++ [x]) seen by_ = cnt l seen by_ + if seesC seen by_ x = true then 1 else 0 := by
 unfold cnt
 rw [List.filter_append]
 by_cases h : seesC seen by_ x = true <;> simp [h]
theorem cnt_bd (l : List Ch) (seen by_ : Int) : 0 ≤ cnt l seen by_ ∧ cnt l seen by_ ≤ l.length := by
 unfold cnt
 have := List.length_filter_le (seesC seen by_) l
 omega
set_option maxHeartbeats 400000 in
theorem count_some (b off len cap : Nat) (l : List Ch) (seen by_ : Int) (w : World) (hl : l.length = len) (hm : len ≤ 281474976710656) (hr : Row w b off l) :
 Calls Tryz.prog 99 #[.slice (some ⟨b, off, none⟩) len cap, .int .i64 seen, .int .i64 by_] w fun e w' => e = .returned (.int .i64 (cnt l seen by_)) ∧ Below w.heap.size w w' := by
 have HR : Hid (Row w b off l) := hr
 have HL : Hid (l.length = len) := hl
 have hb := hr.lt
 clear hr hl
 go_enter Tryz.func99, Tryz.ntmps99
 go_wp2
 go_loopw [7, 12] (fun n i wr => ∃ k : Nat, k ≤ len ∧ i = .int .i64 k ∧ n = .int .i64 (cnt (l.take k) seen by_) ∧ Below w.heap.size w wr) (fun _ i _ => len - (intOf i).toNat)
 case atStart => exact ⟨0, Nat.zero_le _, rfl, rfl, Below.refl _ _⟩
 case round =>
  obtain ⟨k, hk, rfl, rfl, hbel⟩ := hrel
  by_cases hlt : k < len
  ·have hkl : k < l.length := by rw [HL.out]; exact hlt
   have hd := cnt_bd (l.take k) seen by_
   have hle : (l.take k).length ≤ k := List.length_take_le _ _
   have HN : Hid (cnt (l.take (k + 1)) seen by_ = cnt (l.take k) seen by_ + if seesC seen by_ l[k] = true then 1 else 0) := by rw [take_snoc l k hkl]; exact cnt_snoc _ _ _ _
   obtain ⟨h0, h1, h2, h3, h4, h5, h6⟩ := (HR.out.below hbel).at_ k hkl
   generalize l[k] = x at h0 h1 h2 h3 h4 h5 h6 HN
   generalize cnt (l.take k) seen by_ = n at *
   go_wp2_with fail
   refine (sees_any x _ _ _).mono ?_
   rintro e w1 ⟨rfl, hb1⟩
   have hb2 : Below w.heap.size w w1 := bla (hbel.alloc (by have := hbel.size; omega) _) hb1
   have HN' : Hid (cnt (l.take (k + 1)) seen by_ = n + if seesB x.by_ x.inn x.out x.gone seen by_ = true then 1 else 0) := HN
   clear h0 h1 h2 h3 h4 h5 h6 hb1 HN
   cases hs : seesB x.by_ x.inn x.out x.gone seen by_
   all_goals
    rw [hs] at HN'
    go_wp2
    go_roundw
    case rel => exact ⟨k + 1, by omega, by go_num, by rw [HN'.out]; simp, hb2⟩
    case measure => simp [intOf]; omega
  ·go_wp2
   go_ret
   obtain rfl : k = len := by omega
   exact ⟨ret_int (by rw [← HL.out, List.take_length]), hbel⟩
theorem Tryz.infoByte : (Tryz.prog.info? 5).map (fun i => (i.zero, i.size, i.bytes)) = some (some (.int .u8 0), 1, 1) := by kernel_rfl
def vw (l : List Ch) (seen by_ : Int) : List Int := (l.filter (seesC seen by_)).map (·.c)
def cells8 (zs : List Int) : List Value := zs.map (Value.int .u8)
theorem vw_snoc (l : List Ch) (x : Ch) (seen by_ : Int) : vw (l ++ [x]) seen by_ = vw l seen by_ ++ if seesC seen by_ x = true then [x.c] else [] := by
 unfold vw
 rw [List.filter_append]
 by_cases h : seesC seen by_ x = true <;> simp [h]
theorem vw_le (l : List Ch) (seen by_ : Int) : (vw l seen by_).length ≤ l.length := by
 unfold vw
 have := List.length_filter_le (seesC seen by_) l
 simpa using this
theorem owns_below {w w' : World} {base : Nat} {e : TypeId} {size : Nat} {v : Value} {n : Nat} {xs : List Value} (h : w.ownsRow base e size v n xs) (hb : Below w.heap.size w w') : w'.ownsRow base e size v n xs :=
 h.kept (row := none) ⟨hb.os, hb.tape, hb.output, hb.size, fun k hk _ => hb.block k hk⟩ (by cases h' : v.ownBlock <;> simp)
theorem rel_view {w wr w1 w2 : World} {o o' : Obj} {v : Value} {n : Nat} {xs : List Value} (hbel : Below w.heap.size w wr) (hb1 : Below (wr.alloc o).heap.size (wr.alloc o) w1)
 (hown : w1.ownsRow w.heap.size 5 1 v n xs) (hg : (w1.alloc o').grownBy w2 v.ownBlock) : Below w.heap.size w w2 := by
 have h1 : Below w.heap.size w w1 := bla (hbel.alloc (by have := hbel.size; omega) _) hb1
 have h2 : Below w.heap.size w (w1.alloc o') := h1.alloc (by have := h1.size; omega) _
 exact h2.grown hg (by have := h2.size; omega) (fun k hk => (hown.lt k hk).1)
set_option maxHeartbeats 400000 in
theorem view_some (b off len cap : Nat) (l : List Ch) (seen by_ : Int) (w : World) (hl : l.length = len) (hm : len ≤ 1099511627776) (hr : Row w b off l) :
 Calls Tryz.prog 19 #[.slice (some ⟨b, off, none⟩) len cap, .int .i64 seen, .int .i64 by_] w fun e w' =>
  ∃ v, e = .returned v ∧ w'.ownsRow w.heap.size 5 1 v (vw l seen by_).length (cells8 (vw l seen by_)) ∧ Below w.heap.size w w' := by
 have HR : Hid (Row w b off l) := hr
 have HL : Hid (l.length = len) := hl
 have hb := hr.lt
 clear hr hl
 obtain ⟨i0, hi, hz0, hz1, hz2⟩ := info_parts Tryz.infoByte
 go_enter Tryz.func19, Tryz.ntmps19
 go_wp2
 go_loopw [7, 12] (fun v i wr => ∃ k : Nat, k ≤ len ∧ i = .int .i64 k ∧ wr.ownsRow w.heap.size 5 1 v (vw (l.take k) seen by_).length (cells8 (vw (l.take k) seen by_)) ∧ Below w.heap.size w wr) (fun _ i _ => len - (intOf i).toNat)
 case atStart => exact ⟨0, Nat.zero_le _, rfl, World.ownsRow_nil _ _ _ _, Below.refl _ _⟩
 case round =>
  obtain ⟨k, hk, rfl, hown, hbel⟩ := hrel
  by_cases hlt : k < len
  ·have hkl : k < l.length := by rw [HL.out]; exact hlt
   have hd := vw_le (l.take k) seen by_
   have hle : (l.take k).length ≤ k := List.length_take_le _ _
   have HN : Hid (vw (l.take (k + 1)) seen by_ = vw (l.take k) seen by_ ++ if seesC seen by_ l[k] = true then [l[k].c] else []) := by rw [take_snoc l k hkl]; exact vw_snoc _ _ _ _
   obtain ⟨h0, h1, h2, h3, h4, h5, h6⟩ := (HR.out.below hbel).at_ k hkl
   generalize l[k] = x at h0 h1 h2 h3 h4 h5 h6 HN
   generalize vw (l.take k) seen by_ = zs at *
   have hzs : zs.length ≤ 1099511627775 := by omega
   clear hd hle
   go_wp2_with fail
   refine (sees_any x _ _ _).mono ?_
   rintro e w1 ⟨rfl, hb1⟩
   have HN' : Hid (vw (l.take (k + 1)) seen by_ = zs ++ if seesB x.by_ x.inn x.out x.gone seen by_ = true then [x.c] else []) := HN
   have hown1 := owns_below (hown.alloc (.cells #[.int .u8 x.c, .int .i64 x.by_, .int .i64 x.no, .int .i64 x.k, .int .i64 x.inn, .int .i64 x.out, .int .i64 x.gone] 95)) hb1
   clear h0 h1 h2 h3 h4 h5 h6 HN hown
   cases hs : seesB x.by_ x.inn x.out x.gone seen by_
   ·rw [hs] at HN'
    have hb2 : Below w.heap.size w w1 := bla (hbel.alloc (by have := hbel.size; omega) _) hb1
    clear hb1 hbel
    go_wp2
    go_roundw
    case rel => exact ⟨k + 1, by omega, by go_num, by rw [HN'.out]; simpa using hown1, hb2⟩
    case measure => simp [intOf]; omega
   ·rw [hs] at HN'
    obtain ⟨hc, hf⟩ := bcell hb1
    go_wp2_with (at_builtin; refine wpList_append_own _ rfl (.tmp 20) (.tmp 23) 56 rfl w.heap.size 5 i0 (.int .u8 0) 1 1 Tryz.underlying56 hi hz0 hz1 hz2 rfl (by decide) _ _ _ rfl (hown1.alloc _) ⟨w1.heap.size, 0, none⟩ 1 1 [.int .u8 x.c] rfl rfl ?c1 ?c2 ?c3 ?c4 ?c5 ?_)
    case c1 =>
     intro j u hj
     match j, hj with
     | 0, hj => simp at hj; subst hj; simp [Addr.add]
    case c2 => intro u hu; simp at hu; subst hu; rfl
    case c3 => unfold maxLen; omega
    case c4 => omega
    case c5 => have := hb1.size; have := hbel.size; simp at *; omega
    ·intro v' w2 hown' hgrow _
     have hb2 := rel_view hbel hb1 hown1 hgrow
     clear hgrow hown1 hbel hb1 hc hf
     go_wp2
     go_roundw
     case rel => exact ⟨k + 1, by omega, by go_num, by rw [HN'.out]; simpa [cells8] using hown', hb2⟩
     case measure => simp [intOf]; omega
  ·go_wp2
   go_ret
   obtain rfl : k = len := by omega
   exact ⟨_, rfl, by rw [← HL.out, List.take_length] at hown; exact hown, hbel⟩
end Go.Proofs.YtnabhdfodckpdacGreat

/-
  The contract of slices.IndexFunc over a list of bytes, whatever closure is handed to it; chars.Behind and chars.Find by it.
-/
namespace Go.Proofs.YtnabhdfodckpdacGreat
set_option maxRecDepth 20000
open Go.RowKit
structure Step (F : Nat) (caps : Array Value) (b off : Nat) (l : List Ch) (I : Nat → World → Prop) (hit : Nat → Bool) : Prop where
 row : ∀ k w, I k w → Row w b off l
 step : ∀ k (h : k < l.length) w, I k w → Calls Tryz.prog F (#[chV l[k]] ++ caps) w fun e w' => e = .returned (.bool (hit k)) ∧ I (k + 1) w'
theorem no_step (hit : Nat → Bool) (k : Nat) (h : ∀ j, j < k → hit j = false) (hk : hit k = false) : ∀ j, j < k + 1 → hit j = false := by
 intro j hj
 by_cases e : j = k
 ·rw [e]; exact hk
 ·exact h j (by omega)
set_option maxHeartbeats 400000 in
theorem indexFunc_some (F : Nat) (caps : Array Value) (b off len cap : Nat) (l : List Ch) (I : Nat → World → Prop) (hit : Nat → Bool) (w : World) (hl : l.length = len) (hm : len ≤ 281474976710656)
 (hcall : ∀ args w, Sem.run Tryz.prog (callFunc F args) w = .ok (.enter F args) w) (hS : Step F caps b off l I hit) (h0 : I 0 w) :
 Calls Tryz.prog 94 #[.slice (some ⟨b, off, none⟩) len cap, .func (Fn.func F) #[] caps] w fun e w' =>
  (∃ k, k < len ∧ (∀ j, j < k → hit j = false) ∧ hit k = true ∧ e = .returned (.int .i64 k) ∧ I (k + 1) w') ∨ ((∀ j, j < len → hit j = false) ∧ e = .returned (.int .i64 (-1)) ∧ I len w') := by
 have HL : Hid (l.length = len) := hl
 have HI : Hid (I 0 w) := h0
 clear hl h0
 go_enter Tryz.func94, Tryz.ntmps94
 go_wp2
 go_loopw [8] (fun i wr => ∃ k : Nat, k ≤ len ∧ i = .int .i64 k ∧ (∀ j, j < k → hit j = false) ∧ Hid (I k wr)) (fun i _ => len - (intOf i).toNat)
 case atStart => exact ⟨0, Nat.zero_le _, rfl, fun j hj => absurd hj (Nat.not_lt_zero _), HI⟩
 case round =>
  obtain ⟨k, hk, rfl, hno, hik⟩ := hrel
  have HNO : Hid (∀ j, j < k → hit j = false) := hno
  clear hno
  by_cases hlt : k < len
  ·have hkl : k < l.length := by rw [HL.out]; exact hlt
   obtain ⟨h0, h1, h2, h3, h4, h5, h6⟩ := (hS.row k wr hik.out).at_ k hkl
   have HST := hS.step k hkl wr hik.out
   have HST' : Hid (Calls Tryz.prog F (#[chV l[k]] ++ caps) wr fun e w' => e = .returned (.bool (hit k)) ∧ I (k + 1) w') := HST
   clear HST
   generalize l[k] = x at h0 h1 h2 h3 h4 h5 h6 HST'
   go_wp2_with fail
   refine HST'.out.mono ?_
   rintro e w1 ⟨rfl, hi1⟩
   have HI1 : Hid (I (k + 1) w1) := hi1
   clear hi1 hik h0 h1 h2 h3 h4 h5 h6 HST' hcall hS
   cases hh : hit k
   ·go_wp2
    go_roundw
    case rel => exact ⟨k + 1, by omega, by go_num, no_step hit k HNO.out hh, HI1⟩
    case measure => simp [intOf]; omega
   ·go_wp2
    go_ret
    exact .inl ⟨k, hlt, HNO.out, hh, rfl, HI1.out⟩
  ·obtain rfl : k = len := by omega
   clear hS hcall
   go_wp2
   go_ret
   exact .inr ⟨HNO.out, rfl, hik.out⟩
end Go.Proofs.YtnabhdfodckpdacGreat

/-
  The contract of chars.Behind: the place behind the n-th byte that one sees.
-/
namespace Go.Proofs.YtnabhdfodckpdacGreat
set_option maxRecDepth 20000
open Go.RowKit
structure BInv (W : World) (seen by_ nn met : Int) (w : World) : Prop where
 below : Below W.heap.size W w
 size : W.heap.size + 4 ≤ w.heap.size
 c0 : w.cell? ⟨W.heap.size, 0, none⟩ = some (.int .i64 seen)
 c1 : w.cell? ⟨W.heap.size + 1, 0, none⟩ = some (.int .i64 by_)
 c2 : w.cell? ⟨W.heap.size + 2, 0, none⟩ = some (.int .i64 nn)
 c3 : w.cell? ⟨W.heap.size + 3, 0, none⟩ = some (.int .i64 met)
 f3 : w.frozen? ⟨W.heap.size + 3, 0, none⟩ = false
theorem BInv.after {W w w' : World} {seen by_ nn met : Int} (h : BInv W seen by_ nn met w) (hb : Below w.heap.size w w') : BInv W seen by_ nn met w' := by
 have hs := h.size
 obtain ⟨hc, hf⟩ := bcell hb
 refine ⟨h.below.trans (hb.mono (by omega)), Nat.le_trans hs hb.size, ?_, ?_, ?_, ?_, ?_⟩
 ·rw [hc _ _ (by omega)]; exact h.c0
 ·rw [hc _ _ (by omega)]; exact h.c1
 ·rw [hc _ _ (by omega)]; exact h.c2
 ·rw [hc _ _ (by omega)]; exact h.c3
 ·rw [hf _ _ (by omega)]; exact h.f3
theorem BInv.store {W w : World} {seen by_ nn met : Int} (h : BInv W seen by_ nn met w) (m : Int) : BInv W seen by_ nn m (w.setCell ⟨W.heap.size + 3, 0, none⟩ (.int .i64 m)) := by
 have hs := h.size
 refine ⟨h.below.setCell (by simp) _, by simpa [World.setCell] using hs, ?_, ?_, ?_, ?_, ?_⟩
 ·rw [World.cell?_of_block (w := w) (Below.heap_setCell _ _ _ _ (by simp))]; exact h.c0
 ·rw [World.cell?_of_block (w := w) (Below.heap_setCell _ _ _ _ (by simp))]; exact h.c1
 ·rw [World.cell?_of_block (w := w) (Below.heap_setCell _ _ _ _ (by simp))]; exact h.c2
 ·have := h.c3
  simp [go_sem, this]
 ·have := h.f3
  simp [go_sem, this]
def stepM (seen by_ : Int) (x : Ch) (met : Int) : Int := if seesC seen by_ x = true then met + 1 else met
def stepH (seen by_ : Int) (x : Ch) (met nn : Int) : Bool := seesC seen by_ x && (met + 1 == nn)
set_option maxHeartbeats 400000 in
theorem behind1_any (x : Ch) (W : World) (seen by_ nn met : Int) (w : World) (h : BInv W seen by_ nn met w) (h0 : 0 ≤ met) (h1 : met ≤ 281474976710656) :
 Calls Tryz.prog 129 (#[chV x] ++ #[.pointer (some ⟨W.heap.size, 0, none⟩), .pointer (some ⟨W.heap.size + 1, 0, none⟩), .pointer (some ⟨W.heap.size + 3, 0, none⟩), .pointer (some ⟨W.heap.size + 2, 0, none⟩)]) w
  fun e w' => e = .returned (.bool (stepH seen by_ x met nn)) ∧ BInv W seen by_ nn (stepM seen by_ x met) w' := by
 have H : Hid (BInv W seen by_ nn met w) := h
 have hs := h.size
 have c0 : ∀ o, (w.alloc o).cell? ⟨W.heap.size, 0, none⟩ = some (.int .i64 seen) := fun o => by rw [World.cell?_alloc_past _ _ _ (show W.heap.size < w.heap.size by omega)]; exact h.c0
 have c1 : ∀ o, (w.alloc o).cell? ⟨W.heap.size + 1, 0, none⟩ = some (.int .i64 by_) := fun o => by rw [World.cell?_alloc_past _ _ _ (show W.heap.size + 1 < w.heap.size by omega)]; exact h.c1
 clear h
 go_enter Tryz.func129, Tryz.ntmps129
 go_wp2_with fail
 refine (sees_any x _ _ _).mono ?_
 rintro e w1 ⟨rfl, hb1⟩
 have hb2 : Below w.heap.size w w1 := bla ((Below.refl _ _).alloc (Nat.le_refl _) _) hb1
 have H1 : Hid (BInv W seen by_ nn met w1) := H.out.after hb2
 have g2 := H1.out.c2
 have g3 := H1.out.c3
 have gf := H1.out.f3
 clear c0 c1 hb1 hb2 H
 cases hc : seesB x.by_ x.inn x.out x.gone seen by_
 ·go_wp2
  go_ret
  have hx : seesC seen by_ x = false := hc
  exact ⟨ret_b (by simp [stepH, hx]), by simp only [stepM, hx]; exact H1.out⟩
 ·have H2 : Hid (BInv W seen by_ nn (met + 1) (w1.setCell ⟨W.heap.size + 3, 0, none⟩ (.int .i64 (met + 1)))) := H1.out.store _
  have k2 := H2.out.c2
  have k3 := H2.out.c3
  go_wp2
  go_ret
  have hx : seesC seen by_ x = true := hc
  exact ⟨ret_b (by simp [stepH, hx]), by simp only [stepM, hx]; exact H2.out⟩
def hitAt (l : List Ch) (seen by_ nn : Int) (k : Nat) : Bool :=
 match l[k]? with
 | some x => stepH seen by_ x (cnt (l.take k) seen by_) nn
 | none => false
def BehindIs (l : List Ch) (seen by_ nn r : Int) : Prop :=
 (nn = 0 ∧ r = 0) ∨ (nn ≠ 0 ∧ ((∃ k : Nat, k < l.length ∧ (∀ j, j < k → hitAt l seen by_ nn j = false) ∧ hitAt l seen by_ nn k = true ∧ r = k + 1) ∨ ((∀ j, j < l.length → hitAt l seen by_ nn j = false) ∧ r = -1)))
theorem stepM_take (l : List Ch) (seen by_ : Int) (k : Nat) (h : k < l.length) : stepM seen by_ l[k] (cnt (l.take k) seen by_) = cnt (l.take (k + 1)) seen by_ := by
 rw [take_snoc l k h, cnt_snoc]
 unfold stepM
 split <;> omega
theorem behind_step (W : World) (b off : Nat) (l : List Ch) (seen by_ nn : Int) (hl : l.length ≤ 281474976710656) (hr : Row W b off l) :
 Step 129 #[.pointer (some ⟨W.heap.size, 0, none⟩), .pointer (some ⟨W.heap.size + 1, 0, none⟩), .pointer (some ⟨W.heap.size + 3, 0, none⟩), .pointer (some ⟨W.heap.size + 2, 0, none⟩)] b off l
  (fun k w => BInv W seen by_ nn (cnt (l.take k) seen by_) w) (hitAt l seen by_ nn) := by
 refine ⟨fun k w h => hr.below h.below, fun k hk w h => ?_⟩
 have hb := cnt_bd (l.take k) seen by_
 have hle : (l.take k).length ≤ l.length := by simp; omega
 refine (behind1_any l[k] W seen by_ nn (cnt (l.take k) seen by_) w h hb.1 (by omega)).mono ?_
 rintro e w' ⟨rfl, h'⟩
 rw [stepM_take l seen by_ k hk] at h'
 refine ⟨ret_b ?_, h'⟩
 unfold hitAt
 rw [List.getElem?_eq_getElem hk]
theorem binv_start (w : World) (seen by_ nn : Int) : BInv w seen by_ nn 0 ((((w.alloc (.cells #[.int .i64 seen] 3)).alloc (.cells #[.int .i64 by_] 3)).alloc (.cells #[.int .i64 nn] 3)).alloc (.cells #[.int .i64 0] 3)) := by
 refine ⟨?_, by simp, ?_, ?_, ?_, ?_, ?_⟩
 ·exact ((((Below.refl _ _).alloc (Nat.le_refl _) _).alloc (by simp) _).alloc (by simp; omega) _).alloc (by simp; omega) _
 ·simp [go_sem, World.cell?_alloc_past]
 ·simp [go_sem, World.cell?_alloc_past]
 ·simp [go_sem, World.cell?_alloc_past]
 ·simp [go_sem]
 ·simp [go_sem]
theorem callBehind1 : ∀ args w, Sem.run Tryz.prog (callFunc 129 args) w = .ok (.enter 129 args) w := fun _ _ => by kernel_rfl
set_option maxHeartbeats 400000 in
theorem behind_some (b off len cap : Nat) (l : List Ch) (seen by_ n : Int) (w : World) (hl : l.length = len) (hm : len ≤ 281474976710656) (hr : Row w b off l) :
 Calls Tryz.prog 100 #[.slice (some ⟨b, off, none⟩) len cap, .int .i64 seen, .int .i64 by_, .int .i64 n] w fun e w' =>
  ∃ r, e = .returned (.int .i64 r) ∧ BehindIs l seen by_ n r ∧ Below w.heap.size w w' := by
 by_cases h0 : n = 0
 ·have h0' : (n == 0) = true := by simp [h0]
  have H0 : Hid (n = 0) := h0
  clear h0
  go_enter Tryz.func100, Tryz.ntmps100
  go_wp2
  go_ret
  exact ⟨0, rfl, .inl ⟨H0.out, rfl⟩, (((Below.refl _ _).alloc (Nat.le_refl _) _).alloc (by simp) _).alloc (by simp; omega) _⟩
 ·have h0' : (n == 0) = false := by simp [h0]
  have H0 : Hid (n ≠ 0) := h0
  have HL : Hid (l.length = len) := hl
  have HS : Hid _ := binv_start w seen by_ n
  have HT : Hid _ := behind_step w b off l seen by_ n (by omega) hr
  clear h0 hl hr
  have hmf : ∀ (fn : Fn) (first cap : Array Value) (w : World), (Instr.makeFunc fn first cap).run Tryz.prog w = .ok (.func fn first cap) w := fun _ _ _ _ => rfl
  go_enter Tryz.func100, Tryz.ntmps100
  go_wp2_with fail
  rw [show w.heap.size + 1 + 1 + 1 = w.heap.size + 3 from rfl, show w.heap.size + 1 + 1 = w.heap.size + 2 from rfl]
  refine (indexFunc_some 129 #[.pointer (some ⟨w.heap.size, 0, none⟩), .pointer (some ⟨w.heap.size + 1, 0, none⟩), .pointer (some ⟨w.heap.size + 3, 0, none⟩), .pointer (some ⟨w.heap.size + 2, 0, none⟩)] b off len cap l _ _ _ HL.out hm callBehind1 HT.out HS.out).mono ?_
  intro e w1 hres
  have H1 : Hid _ := hres
  clear hres HT HS
  rcases H1.out with ⟨k, hk, hno, hyes, rfl, hI⟩ | ⟨hno, rfl, hI⟩
  ·have H2 : Hid _ := hno
   have H3 : Hid _ := hyes
   have H4 : Hid _ := hI
   clear H1 hno hyes hI
   go_wp2
   go_ret
   exact ⟨(k : Int) + 1, rfl, .inr ⟨H0.out, .inl ⟨k, by rw [HL.out]; exact hk, H2.out, H3.out, rfl⟩⟩, H4.out.below⟩
  ·have H2 : Hid _ := hno
   have H4 : Hid _ := hI
   clear H1 hno hI
   go_wp2
   go_ret
   exact ⟨-1, rfl, .inr ⟨H0.out, .inr ⟨by rw [HL.out]; exact H2.out, rfl⟩⟩, H4.out.below⟩
end Go.Proofs.YtnabhdfodckpdacGreat

/-
  The contracts of chars.Same and chars.Find.
-/
namespace Go.Proofs.YtnabhdfodckpdacGreat
set_option maxRecDepth 20000
open Go.RowKit
def sameB (a b : Ch) : Bool := decide (a.by_ = b.by_ ∧ a.no = b.no ∧ a.k = b.k)
set_option maxHeartbeats 400000 in
theorem same_any (x y : Ch) (w : World) :
 Calls Tryz.prog 97 #[chV x, chV y] w fun e w' => e = .returned (.bool (sameB x y)) ∧ Below w.heap.size w w' := by
 obtain ⟨c, b, no, k, i, o, g⟩ := x
 obtain ⟨c', b', no', k', i', o', g'⟩ := y
 cases h1 : (b == b')
 ·go_enter Tryz.func97, Tryz.ntmps97
  go_wp2
  go_ret
  refine ⟨ret_b ?_, ((Below.refl _ _).alloc (Nat.le_refl _) _).alloc (by simp) _⟩
  simp only [beq_eq_false_iff_ne] at h1
  simp [sameB, h1]
 ·cases h2 : (no == no')
  ·go_enter Tryz.func97, Tryz.ntmps97
   go_wp2
   go_ret
   refine ⟨ret_b ?_, ((Below.refl _ _).alloc (Nat.le_refl _) _).alloc (by simp) _⟩
   simp only [beq_eq_false_iff_ne] at h2
   simp [sameB, h2]
  ·cases h3 : (k == k')
   all_goals
    go_enter Tryz.func97, Tryz.ntmps97
    go_wp2
    go_ret
    refine ⟨ret_b ?_, ((Below.refl _ _).alloc (Nat.le_refl _) _).alloc (by simp) _⟩
    simp only [beq_eq_false_iff_ne, beq_iff_eq] at h1 h2 h3
    simp [sameB, h1, h2, h3]
structure FInv (W : World) (y : Ch) (w : World) : Prop where
 below : Below W.heap.size W w
 size : W.heap.size + 1 ≤ w.heap.size
 at_ : At w W.heap.size 0 y
theorem FInv.after {W w w' : World} {y : Ch} (h : FInv W y w) (hb : Below w.heap.size w w') : FInv W y w' := by
 have hs := h.size
 obtain ⟨hc, hf⟩ := bcell hb
 refine ⟨h.below.trans (hb.mono (by omega)), Nat.le_trans hs hb.size, ?_⟩
 have hx := h.at_
 unfold At at hx ⊢
 simp only [hc _ _ (show W.heap.size < w.heap.size by omega)]
 exact hx
set_option maxHeartbeats 400000 in
theorem find1_any (x y : Ch) (W w : World) (h : FInv W y w) :
 Calls Tryz.prog 136 (#[chV x] ++ #[.pointer (some ⟨W.heap.size, 0, none⟩)]) w
  fun e w' => e = .returned (.bool (sameB x y)) ∧ FInv W y w' := by
 have H : Hid (FInv W y w) := h
 have hs := h.size
 have ha : ∀ o j v, w.cell? ⟨W.heap.size, j, none⟩ = some v → (w.alloc o).cell? ⟨W.heap.size, j, none⟩ = some v := fun o j v hv => by
  rw [World.cell?_alloc_past _ _ _ (show W.heap.size < w.heap.size by omega)]; exact hv
 obtain ⟨a0, a1, a2, a3, a4, a5, a6⟩ := h.at_
 have c0 := fun o => ha o _ _ a0
 have c1 := fun o => ha o _ _ a1
 have c2 := fun o => ha o _ _ a2
 have c3 := fun o => ha o _ _ a3
 have c4 := fun o => ha o _ _ a4
 have c5 := fun o => ha o _ _ a5
 have c6 := fun o => ha o _ _ a6
 simp only [Nat.zero_add] at c1 c2 c3 c4 c5 c6
 clear h ha a0 a1 a2 a3 a4 a5 a6
 go_enter Tryz.func136, Tryz.ntmps136
 go_wp2_with fail
 refine (same_any x y _).mono ?_
 rintro e w1 ⟨rfl, hb1⟩
 have hb2 : Below w.heap.size w w1 := bla ((Below.refl _ _).alloc (Nat.le_refl _) _) hb1
 have H1 : Hid (FInv W y w1) := H.out.after hb2
 clear c0 c1 c2 c3 c4 c5 c6 hb1 hb2 H
 go_wp2
 go_ret
 exact ⟨rfl, H1.out⟩
def sameAt (l : List Ch) (y : Ch) (k : Nat) : Bool :=
 match l[k]? with
 | some x => sameB x y
 | none => false
def FindIs (l : List Ch) (y : Ch) (r : Int) : Prop :=
 (∃ k : Nat, k < l.length ∧ (∀ j, j < k → sameAt l y j = false) ∧ sameAt l y k = true ∧ r = k) ∨ ((∀ j, j < l.length → sameAt l y j = false) ∧ r = -1)
theorem find_step (W : World) (b off : Nat) (l : List Ch) (y : Ch) (hr : Row W b off l) :
 Step 136 #[.pointer (some ⟨W.heap.size, 0, none⟩)] b off l (fun _ w => FInv W y w) (sameAt l y) := by
 refine ⟨fun k w h => hr.below h.below, fun k hk w h => ?_⟩
 refine (find1_any l[k] y W w h).mono ?_
 rintro e w' ⟨rfl, h'⟩
 refine ⟨ret_b ?_, h'⟩
 unfold sameAt
 rw [List.getElem?_eq_getElem hk]
theorem finv_start (w : World) (y : Ch) : FInv w y (w.alloc (.cells #[.int .u8 y.c, .int .i64 y.by_, .int .i64 y.no, .int .i64 y.k, .int .i64 y.inn, .int .i64 y.out, .int .i64 y.gone] 95)) := by
 refine ⟨(Below.refl _ _).alloc (Nat.le_refl _) _, by simp, ?_⟩
 unfold At
 simp [go_sem]
theorem callFind1 : ∀ args w, Sem.run Tryz.prog (callFunc 136 args) w = .ok (.enter 136 args) w := fun _ _ => by kernel_rfl
set_option maxHeartbeats 400000 in
theorem find_some (b off len cap : Nat) (l : List Ch) (y : Ch) (w : World) (hl : l.length = len) (hm : len ≤ 281474976710656) (hr : Row w b off l) :
 Calls Tryz.prog 116 #[.slice (some ⟨b, off, none⟩) len cap, chV y] w fun e w' =>
  ∃ r, e = .returned (.int .i64 r) ∧ FindIs l y r ∧ Below w.heap.size w w' := by
 have HL : Hid (l.length = len) := hl
 have HS : Hid _ := finv_start w y
 have HT : Hid _ := find_step w b off l y hr
 clear hl hr
 have hmf : ∀ (fn : Fn) (first cap : Array Value) (w : World), (Instr.makeFunc fn first cap).run Tryz.prog w = .ok (.func fn first cap) w := fun _ _ _ _ => rfl
 go_enter Tryz.func116, Tryz.ntmps116
 go_wp2_with fail
 refine (indexFunc_some 136 #[.pointer (some ⟨w.heap.size, 0, none⟩)] b off len cap l _ _ _ HL.out hm callFind1 HT.out HS.out).mono ?_
 intro e w1 hres
 have H1 : Hid _ := hres
 clear hres HT HS
 rcases H1.out with ⟨k, hk, hno, hyes, rfl, hI⟩ | ⟨hno, rfl, hI⟩
 ·have H2 : Hid _ := hno
  have H3 : Hid _ := hyes
  have H4 : Hid _ := hI
  clear H1 hno hyes hI
  go_wp2
  go_ret
  exact ⟨(k : Int), rfl, .inl ⟨k, by rw [HL.out]; exact hk, H2.out, H3.out, rfl⟩, H4.out.below⟩
 ·have H2 : Hid _ := hno
  have H4 : Hid _ := hI
  clear H1 hno hI
  go_wp2
  go_ret
  exact ⟨-1, rfl, .inr ⟨by rw [HL.out]; exact H2.out, rfl⟩, H4.out.below⟩
end Go.Proofs.YtnabhdfodckpdacGreat

/-
  The contract of chars.Check: may there be such a list.
-/
namespace Go.Proofs.YtnabhdfodckpdacGreat
set_option maxRecDepth 20000
open Go.RowKit
def namedB (x : Ch) : Bool := wrB x.by_ && decide (1 ≤ x.no) && withinB x.k 0 19 && withinB x.gone 0 15
def numberedB (x : Ch) (log : Int) : Bool := ((x.inn == 1073741824) || withinB x.inn 1 log) && withinB x.out 0 log
def formB (x : Ch) : Bool := (x.out != 0) && (decide (x.out ≤ x.inn) || (x.gone == 0))
def oneFault (x : Ch) (log : Int) : Int := if (namedB x && numberedB x log) = true then (if formB x = true then 3 else 0) else 1
set_option maxHeartbeats 400000 in
theorem named_any (x : Ch) (w : World) :
 Calls Tryz.prog 134 #[chV x] w fun e w' => e = .returned (.bool (namedB x)) ∧ Below w.heap.size w w' := by
 obtain ⟨c, b, no, k, i, o, g⟩ := x
 cases h1 : wrB b
 ·go_enter Tryz.func134, Tryz.ntmps134
  go_wp2_with (first | (go_at_call 81; refine (writer_any _ _).mono ?_; rintro e w' ⟨rfl, rfl⟩) | (go_at_call 114; refine (within_any _ _ _ _).mono ?_; rintro e w' ⟨rfl, rfl⟩))
  go_ret
  exact ⟨ret_b (by simp [namedB, h1]), (Below.refl _ _).alloc (Nat.le_refl _) _⟩
 ·by_cases h2 : 1 ≤ no
  ·cases h3 : withinB k 0 19
   all_goals
    go_enter Tryz.func134, Tryz.ntmps134
    go_wp2_with (first | (go_at_call 81; refine (writer_any _ _).mono ?_; rintro e w' ⟨rfl, rfl⟩) | (go_at_call 114; refine (within_any _ _ _ _).mono ?_; rintro e w' ⟨rfl, rfl⟩))
    go_ret
    exact ⟨ret_b (by simp [namedB, h1, h2, h3]), (Below.refl _ _).alloc (Nat.le_refl _) _⟩
  ·go_enter Tryz.func134, Tryz.ntmps134
   go_wp2_with (first | (go_at_call 81; refine (writer_any _ _).mono ?_; rintro e w' ⟨rfl, rfl⟩) | (go_at_call 114; refine (within_any _ _ _ _).mono ?_; rintro e w' ⟨rfl, rfl⟩))
   go_ret
   exact ⟨ret_b (by simp [namedB]; intro _ h; omega), (Below.refl _ _).alloc (Nat.le_refl _) _⟩
set_option maxHeartbeats 400000 in
theorem numbered_any (x : Ch) (log : Int) (w : World) :
 Calls Tryz.prog 135 #[chV x, .int .i64 log] w fun e w' => e = .returned (.bool (numberedB x log)) ∧ Below w.heap.size w w' := by
 obtain ⟨c, b, no, k, i, o, g⟩ := x
 cases h1 : (i == 1073741824)
 ·cases h2 : withinB i 1 log
  all_goals
   go_enter Tryz.func135, Tryz.ntmps135
   go_wp2_with (go_at_call 114; refine (within_any _ _ _ _).mono ?_; rintro e w' ⟨rfl, rfl⟩)
   go_ret
   exact ⟨ret_b (by simp [numberedB, h1, h2]), (Below.refl _ _).alloc (Nat.le_refl _) _⟩
 ·go_enter Tryz.func135, Tryz.ntmps135
  go_wp2_with (go_at_call 114; refine (within_any _ _ _ _).mono ?_; rintro e w' ⟨rfl, rfl⟩)
  go_ret
  exact ⟨ret_b (by simp [numberedB, h1]), (Below.refl _ _).alloc (Nat.le_refl _) _⟩
set_option maxHeartbeats 400000 in
theorem checkOne_any (x : Ch) (log : Int) (w : World) :
 Calls Tryz.prog 115 #[chV x, .int .i64 log] w fun e w' => e = .returned (.int .i64 (oneFault x log)) ∧ Below w.heap.size w w' := by
 cases h1 : namedB x
 ·go_enter Tryz.func115, Tryz.ntmps115
  go_wp2_with fail
  refine (named_any x _).mono ?_
  rintro e w1 ⟨rfl, hb⟩
  have HB : Hid (Below w.heap.size w w1) := bla ((Below.refl _ _).alloc (Nat.le_refl _) _) hb
  clear hb
  go_wp2
  go_ret
  exact ⟨ret_int (by simp [oneFault, h1]), HB.out⟩
 ·cases h2 : numberedB x log
  ·go_enter Tryz.func115, Tryz.ntmps115
   go_wp2_with fail
   refine (named_any x _).mono ?_
   rintro e w1 ⟨rfl, hb⟩
   obtain ⟨hc, hf⟩ := bcell hb
   go_wp2_with fail
   refine (numbered_any x _ _).mono ?_
   rintro e w2 ⟨rfl, hb2⟩
   have HB : Hid (Below w.heap.size w w2) := bla (bla ((Below.refl _ _).alloc (Nat.le_refl _) _) hb) hb2
   clear hb hb2 hc hf
   go_wp2
   go_ret
   exact ⟨ret_int (by simp [oneFault, h1, h2]), HB.out⟩
  ·cases h3 : (x.out != 0)
   ·go_enter Tryz.func115, Tryz.ntmps115
    go_wp2_with fail
    refine (named_any x _).mono ?_
    rintro e w1 ⟨rfl, hb⟩
    obtain ⟨hc, hf⟩ := bcell hb
    go_wp2_with fail
    refine (numbered_any x _ _).mono ?_
    rintro e w2 ⟨rfl, hb2⟩
    have hz : w.heap.size < w1.heap.size := by have := hb.size; simp at this; omega
    obtain ⟨hc2, hf2⟩ := bcell hb2
    have HB : Hid (Below w.heap.size w w2) := bla (bla ((Below.refl _ _).alloc (Nat.le_refl _) _) hb) hb2
    clear hb hb2 hf hf2
    go_wp2
    go_ret
    exact ⟨ret_int (by simp [oneFault, h1, h2, formB, h3]), HB.out⟩
   ·by_cases h4 : x.out ≤ x.inn
    ·go_enter Tryz.func115, Tryz.ntmps115
     go_wp2_with fail
     refine (named_any x _).mono ?_
     rintro e w1 ⟨rfl, hb⟩
     obtain ⟨hc, hf⟩ := bcell hb
     go_wp2_with fail
     refine (numbered_any x _ _).mono ?_
     rintro e w2 ⟨rfl, hb2⟩
     have hz : w.heap.size < w1.heap.size := by have := hb.size; simp at this; omega
     obtain ⟨hc2, hf2⟩ := bcell hb2
     have HB : Hid (Below w.heap.size w w2) := bla (bla ((Below.refl _ _).alloc (Nat.le_refl _) _) hb) hb2
     clear hb hb2 hf hf2
     go_wp2
     go_ret
     exact ⟨ret_int (by simp [oneFault, h1, h2, formB, h3, h4]), HB.out⟩
    ·cases h5 : (x.gone == 0)
     all_goals
      go_enter Tryz.func115, Tryz.ntmps115
      go_wp2_with fail
      refine (named_any x _).mono ?_
      rintro e w1 ⟨rfl, hb⟩
      obtain ⟨hc, hf⟩ := bcell hb
      go_wp2_with fail
      refine (numbered_any x _ _).mono ?_
      rintro e w2 ⟨rfl, hb2⟩
      have hz : w.heap.size < w1.heap.size := by have := hb.size; simp at this; omega
      obtain ⟨hc2, hf2⟩ := bcell hb2
      have HB : Hid (Below w.heap.size w w2) := bla (bla ((Below.refl _ _).alloc (Nat.le_refl _) _) hb) hb2
      clear hb hb2 hf hf2
      go_wp2
      go_ret
      have h4' : ¬ x.out ≤ x.inn := by omega
      exact ⟨ret_int (by simp [oneFault, h1, h2, formB, h3, h4', h5]), HB.out⟩
def seenBefore (l : List Ch) (k : Nat) : Bool :=
 match l[k]? with
 | some x => (l.take k).any (fun y => sameB y x)
 | none => false
def faultAt (l : List Ch) (log : Int) (k : Nat) : Int :=
 match l[k]? with
 | some x => if oneFault x log ≠ 0 then oneFault x log else if seenBefore l k = true then 6 else 0
 | none => 0
def CheckIs (l : List Ch) (log r : Int) : Prop :=
 (200 < l.length ∧ r = 10) ∨ (l.length ≤ 200 ∧ ((∃ k : Nat, k < l.length ∧ (∀ j, j < k → faultAt l log j = 0) ∧ faultAt l log k = r ∧ r ≠ 0) ∨ ((∀ j, j < l.length → faultAt l log j = 0) ∧ r = 0)))
theorem find_before {l : List Ch} {k : Nat} (hk : k < l.length) {r : Int} (h : FindIs (l.take k) l[k] r) : (0 ≤ r ↔ seenBefore l k = true) ∧ (r < 0 ↔ seenBefore l k = false) ∧ -1 ≤ r ∧ r ≤ k := by
 have hlen : (l.take k).length = k := by simp; omega
 unfold seenBefore
 rw [List.getElem?_eq_getElem hk]
 rcases h with ⟨j, hj, _, hs, rfl⟩ | ⟨hno, rfl⟩
 ·have ha : (l.take k).any (fun y => sameB y l[k]) = true := by
   rw [List.any_eq_true]
   unfold sameAt at hs
   rw [List.getElem?_eq_getElem hj] at hs
   exact ⟨(l.take k)[j], List.getElem_mem hj, hs⟩
  rw [hlen] at hj
  exact ⟨⟨fun _ => ha, fun _ => by omega⟩, ⟨fun h => by omega, fun h => (Bool.noConfusion (ha.symm.trans h))⟩, by omega, by omega⟩
 ·have ha : (l.take k).any (fun y => sameB y l[k]) = false := by
   rw [List.any_eq_false]
   intro y hy
   obtain ⟨j, hj, rfl⟩ := List.mem_iff_getElem.1 hy
   have := hno j hj
   unfold sameAt at this
   rw [List.getElem?_eq_getElem hj] at this
   exact fun h => Bool.noConfusion (this.symm.trans h)
  exact ⟨⟨fun h => by omega, fun h => (Bool.noConfusion (ha.symm.trans h))⟩, ⟨fun _ => ha, fun _ => by omega⟩, by omega, by omega⟩
theorem Row.take {w : World} {b off : Nat} {l : List Ch} (h : Row w b off l) (k : Nat) : Row w b off (l.take k) := by
 refine ⟨h.lt, fun i hi => ?_⟩
 have hi' : i < l.length := by simp at hi; omega
 rw [List.getElem_take]
 exact h.at_ i hi'
theorem fault_step (l : List Ch) (log : Int) (k : Nat) (h : ∀ j, j < k → faultAt l log j = 0) (hk : faultAt l log k = 0) : ∀ j, j < k + 1 → faultAt l log j = 0 := by
 intro j hj
 by_cases e : j = k
 ·rw [e]; exact hk
 ·exact h j (by omega)
set_option maxHeartbeats 1000000 in
theorem check_some (b off len cap : Nat) (l : List Ch) (log : Int) (w : World) (hl : l.length = len) (hc : len ≤ cap) (hm : len ≤ 281474976710656) (hr : Row w b off l) :
 Calls Tryz.prog 82 #[.slice (some ⟨b, off, none⟩) len cap, .int .i64 log] w fun e w' => ∃ r, e = .returned (.int .i64 r) ∧ CheckIs l log r ∧ Below w.heap.size w w' := by
 have HR : Hid (Row w b off l) := hr
 have HL : Hid (l.length = len) := hl
 have hb := hr.lt
 clear hr hl
 by_cases h200 : 200 < len
 ·go_enter Tryz.func82, Tryz.ntmps82
  go_wp2
  go_ret
  exact ⟨10, rfl, .inl ⟨by rw [HL.out]; exact h200, rfl⟩, Below.refl _ _⟩
 ·have h200' : decide (200 < (len : Int)) = false := by simp; omega
  go_enter Tryz.func82, Tryz.ntmps82
  go_wp2
  go_loopw [13] (fun i wr => ∃ k : Nat, k ≤ len ∧ i = .int .i64 k ∧ Hid (∀ j, j < k → faultAt l log j = 0) ∧ Below w.heap.size w wr) (fun i _ => len - (intOf i).toNat)
  case atStart => exact ⟨0, Nat.zero_le _, rfl, fun j hj => absurd hj (Nat.not_lt_zero _), Below.refl _ _⟩
  case round =>
   obtain ⟨k, hk, rfl, hno, hbel⟩ := hrel
   by_cases hlt : k < len
   ·have hkl : k < l.length := by rw [HL.out]; exact hlt
    have HF : Hid _ := fun r => @find_before l k hkl r
    have HX : Hid (faultAt l log k = if oneFault l[k] log ≠ 0 then oneFault l[k] log else if seenBefore l k = true then 6 else 0) := by
     unfold Hid faultAt
     rw [List.getElem?_eq_getElem hkl]
    have HRr : Hid (Row wr b off l) := HR.out.below hbel
    obtain ⟨h0, h1, h2, h3, h4, h5, h6⟩ := HRr.out.at_ k hkl
    generalize l[k] = x at h0 h1 h2 h3 h4 h5 h6 HX HF
    go_wp2_with fail
    refine (checkOne_any x _ _).mono ?_
    rintro e w1 ⟨rfl, hb1⟩
    by_cases hz : oneFault x log = 0
    ·have hz' : (oneFault x log != 0) = false := by simp [hz]
     have HZ : Hid (oneFault x log = 0) := hz
     obtain ⟨hc1, hf1⟩ := bcell hb1
     have hk0 : (0 : Int) ≤ (k : Int) := by omega
     have hkc : (k : Int) ≤ (cap : Int) := by omega
     have hb2 : Below w.heap.size w w1 := bla (hbel.alloc (by have := hbel.size; omega) _) hb1
     have HC : Hid (Calls Tryz.prog 116 #[.slice (some ⟨b, off, none⟩) k cap, chV x] w1.drew fun e w' => ∃ r, e = .returned (.int .i64 r) ∧ FindIs (l.take k) x r ∧ Below w1.drew.heap.size w1.drew w') :=
      find_some b off k cap (l.take k) x w1.drew (by simp; omega) (by omega) ((HR.out.below hb2.drew).take k)
     clear h0 h1 h2 h3 h4 h5 h6 hz
     go_wp2_with fail
     go_region_with (go_at_call 116; refine HC.out.mono ?_; rintro e w2 ⟨r, rfl, hfi, hb3⟩)
     have HFI := HF.out r hfi
     have HB4 : Hid (Below w.heap.size w w2) := bla hb2.drew hb3
     clear hfi hb3 hb2 hb1 hc1 hf1 HC HF hbel hk0 hkc
     by_cases hr : 0 ≤ r
     ·have hs := HFI.1.1 hr
      have HV : Hid (faultAt l log k = 6) := by unfold Hid; rw [HX.out, if_neg (by rw [HZ.out]; simp), if_pos hs]
      clear HFI hs
      go_wp2
      go_ret
      exact ⟨6, rfl, .inr ⟨by rw [HL.out]; omega, .inl ⟨k, by rw [HL.out]; exact hlt, hno.out, HV.out, by decide⟩⟩, HB4.out⟩
     ·have hs := HFI.2.1.1 (by omega)
      have HV : Hid (faultAt l log k = 0) := by unfold Hid; rw [HX.out, if_neg (by rw [HZ.out]; simp), if_neg (by rw [hs]; simp)]
      clear HFI hs
      go_wp2
      go_roundw
      case rel => exact ⟨k + 1, by omega, by go_num, fault_step l log k hno.out HV.out, HB4.out⟩
      case measure => simp [intOf]; omega
    ·have hz' : (oneFault x log != 0) = true := by simp [hz]
     have HZ : Hid (oneFault x log ≠ 0) := hz
     have hb2 : Below w.heap.size w w1 := bla (hbel.alloc (by have := hbel.size; omega) _) hb1
     clear h0 h1 h2 h3 h4 h5 h6 hb1 hz HF
     go_wp2
     go_ret
     refine ⟨oneFault x log, rfl, .inr ⟨by rw [HL.out]; omega, .inl ⟨k, by rw [HL.out]; exact hlt, hno.out, ?_, HZ.out⟩⟩, hb2⟩
     rw [HX.out, if_pos HZ.out]
   ·obtain rfl : k = len := by omega
    go_wp2
    go_ret
    exact ⟨0, rfl, .inr ⟨by rw [HL.out]; omega, .inr ⟨by rw [HL.out]; exact hno.out, rfl⟩⟩, hbel⟩
end Go.Proofs.YtnabhdfodckpdacGreat

/-
  The law's own example (charsBegun) is met, in every world.
-/
namespace Go.Proofs.YtnabhdfodckpdacGreat
open Go.RowKit
theorem own_string {w : World} {base : Nat} {v : Value} {zs : List Int} (h : w.ownsRow base 5 1 v zs.length (cells8 zs)) :
 (convert 56 9 v).run Tryz.prog w = .ok (.string (strOfNums zs)) w := by
 obtain ⟨h1, h2⟩ := h
 rcases h2 with ⟨rfl, hn⟩ | ⟨g, cap, cur, rfl, hg, hh, hle, hm, hsz, hx⟩
 ·obtain rfl : zs = [] := List.length_eq_zero_iff.1 hn
  rw [run_convert_bytes_nil w 56 5 Tryz.underlying56 Tryz.underlying5 0 0 9 Tryz.underlying9]
  rfl
 ·refine run_convert_bytes_arg w 56 5 Tryz.underlying56 Tryz.underlying5 g 0 zs.length cap zs rfl ?_ 9 Tryz.underlying9
  intro i hi
  have hown : w.ownsRow base 5 1 (.slice (some ⟨g, 0, none⟩) zs.length cap) zs.length (cells8 zs) := ⟨h1, .inr ⟨g, cap, cur, rfl, hg, hh, hle, hm, hsz, hx⟩⟩
  have := hown.cellAt i (by omega)
  rw [Nat.zero_add, this]
  simp [cells8, List.getElem?_eq_getElem hi, List.getD]
end Go.Proofs.YtnabhdfodckpdacGreat
