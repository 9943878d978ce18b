/-
  The contracts of chars.Count and chars.View: loops over a list of bytes.
-/
import Derived.Test.YtnabhdfodckpdacLeaf
namespace Go.Proofs.Ytnabhdfodckpdac
open Go.RowKit

def seesC (seen by_ : Int) (x : Ch) : Bool := seesB x.by_ x.inn x.out x.gone seen by_
def cnt (l : List Ch) (seen by_ : Int) : Int := ((l.filter (seesC seen by_)).length : Int)

/-- The seven cells of a byte at a place of a block. -/
def At (w : World) (b o : Nat) (x : Ch) : Prop :=
  w.cell? ⟨b, o, none⟩ = some (.int .u8 x.c) ∧ w.cell? ⟨b, o + 1, none⟩ = some (.int .i64 x.by_) ∧ w.cell? ⟨b, o + 2, none⟩ = some (.int .i64 x.no) ∧
  w.cell? ⟨b, o + 3, none⟩ = some (.int .i64 x.k) ∧ w.cell? ⟨b, o + 4, none⟩ = some (.int .i64 x.inn) ∧ w.cell? ⟨b, o + 5, none⟩ = some (.int .i64 x.out) ∧
  w.cell? ⟨b, o + 6, none⟩ = some (.int .i64 x.gone)

/-- A list of bytes that lies in memory from a place on. -/
structure Row (w : World) (b off : Nat) (l : List Ch) : Prop where
  lt : b < w.heap.size
  at_ : ∀ i (h : i < l.length), At w b (off + i * 7) l[i]

theorem Row.below {w wr : World} {b off : Nat} {l : List Ch} (h : Row w b off l) (hb : Below w.heap.size w wr) : Row wr b off l := by
  refine ⟨Nat.lt_of_lt_of_le h.lt hb.size, fun i hi => ?_⟩
  have hc := (bcell hb).1
  have hx := h.at_ i hi
  unfold At at hx ⊢
  simp only [hc _ _ h.lt]
  exact hx

theorem take_snoc {α : Type} (l : List α) (k : Nat) (h : k < l.length) : l.take (k + 1) = l.take k ++ [l[k]] :=
  List.take_succ_eq_append_getElem h

theorem cnt_snoc (l : List Ch) (x : Ch) (seen by_ : Int) : cnt (l ++ [x]) seen by_ = cnt l seen by_ + if seesC seen by_ x = true then 1 else 0 := by
  unfold cnt
  rw [List.filter_append]
  by_cases h : seesC seen by_ x = true <;> simp [h]

theorem cnt_bd (l : List Ch) (seen by_ : Int) : 0 ≤ cnt l seen by_ ∧ cnt l seen by_ ≤ l.length := by
  unfold cnt
  have := List.length_filter_le (seesC seen by_) l
  omega

set_option maxRecDepth 20000 in
set_option maxHeartbeats 400000 in
theorem count_some (b off len cap : Nat) (l : List Ch) (seen by_ : Int) (w : World) (hl : l.length = len) (hm : len ≤ 281474976710656) (hr : Row w b off l) :
    Calls Try.prog 106 #[.slice (some ⟨b, off, none⟩) len cap, .int .i64 seen, .int .i64 by_] w fun e w' => e = .returned (.int .i64 (cnt l seen by_)) ∧ Below w.heap.size w w' := by
  have HR : Hid (Row w b off l) := hr
  have HL : Hid (l.length = len) := hl
  have hb := hr.lt
  clear hr hl
  go_enter Try.func106, Try.ntmps106
  go_wp2
  go_loopw [7, 12] (fun n i wr => ∃ k : Nat, k ≤ len ∧ i = .int .i64 k ∧ n = .int .i64 (cnt (l.take k) seen by_) ∧ Below w.heap.size w wr) (fun _ i _ => len - (intOf i).toNat)
  case atStart => exact ⟨0, Nat.zero_le _, rfl, rfl, Below.refl _ _⟩
  case round =>
    obtain ⟨k, hk, rfl, rfl, hbel⟩ := hrel
    by_cases hlt : k < len
    · have hkl : k < l.length := by rw [HL.out]; exact hlt
      have hd := cnt_bd (l.take k) seen by_
      have hle : (l.take k).length ≤ k := List.length_take_le _ _
      have HN : Hid (cnt (l.take (k + 1)) seen by_ = cnt (l.take k) seen by_ + if seesC seen by_ l[k] = true then 1 else 0) := by rw [take_snoc l k hkl]; exact cnt_snoc _ _ _ _
      obtain ⟨h0, h1, h2, h3, h4, h5, h6⟩ := (HR.out.below hbel).at_ k hkl
      generalize l[k] = x at h0 h1 h2 h3 h4 h5 h6 HN
      generalize cnt (l.take k) seen by_ = n at *
      go_wp2_with fail
      refine (sees_any x _ _ _).mono ?_
      rintro e w1 ⟨rfl, hb1⟩
      have hb2 : Below w.heap.size w w1 := below_after (hbel.alloc (by have := hbel.size; omega) _) hb1
      have HN' : Hid (cnt (l.take (k + 1)) seen by_ = n + if seesB x.by_ x.inn x.out x.gone seen by_ = true then 1 else 0) := HN
      clear h0 h1 h2 h3 h4 h5 h6 hb1 HN
      cases hs : seesB x.by_ x.inn x.out x.gone seen by_
      all_goals
        rw [hs] at HN'
        go_wp2
        go_roundw
        case rel => exact ⟨k + 1, by omega, by go_num, by rw [HN'.out]; simp, hb2⟩
        case measure => simp [intOf]; omega
    · go_wp2
      go_ret
      obtain rfl : k = len := by omega
      exact ⟨ret_int (by rw [← HL.out, List.take_length]), hbel⟩

theorem Try.infoByte : (Try.prog.info? 5).map (fun i => (i.zero, i.size, i.bytes)) = some (some (.int .u8 0), 1, 1) := by kernel_rfl

def vw (l : List Ch) (seen by_ : Int) : List Int := (l.filter (seesC seen by_)).map (·.c)
def cells8 (zs : List Int) : List Value := zs.map (Value.int .u8)

theorem vw_snoc (l : List Ch) (x : Ch) (seen by_ : Int) : vw (l ++ [x]) seen by_ = vw l seen by_ ++ if seesC seen by_ x = true then [x.c] else [] := by
  unfold vw
  rw [List.filter_append]
  by_cases h : seesC seen by_ x = true <;> simp [h]

theorem vw_le (l : List Ch) (seen by_ : Int) : (vw l seen by_).length ≤ l.length := by
  unfold vw
  have := List.length_filter_le (seesC seen by_) l
  simpa using this

theorem owns_below {w w' : World} {base : Nat} {e : TypeId} {size : Nat} {v : Value} {n : Nat} {xs : List Value} (h : w.ownsRow base e size v n xs) (hb : Below w.heap.size w w') : w'.ownsRow base e size v n xs :=
  h.kept (row := none) ⟨hb.os, hb.tape, hb.output, hb.size, fun k hk _ => hb.block k hk⟩ (by cases h' : v.ownBlock <;> simp)

theorem rel_view {w wr w1 w2 : World} {o o' : Obj} {v : Value} {n : Nat} {xs : List Value} (hbel : Below w.heap.size w wr) (hb1 : Below (wr.alloc o).heap.size (wr.alloc o) w1)
    (hown : w1.ownsRow w.heap.size 5 1 v n xs) (hg : (w1.alloc o').grownBy w2 v.ownBlock) : Below w.heap.size w w2 := by
  have h1 : Below w.heap.size w w1 := below_after (hbel.alloc (by have := hbel.size; omega) _) hb1
  have h2 : Below w.heap.size w (w1.alloc o') := h1.alloc (by have := h1.size; omega) _
  exact h2.grown hg (by have := h2.size; omega) (fun k hk => (hown.lt k hk).1)

set_option maxRecDepth 20000 in
set_option maxHeartbeats 400000 in
theorem view_some (b off len cap : Nat) (l : List Ch) (seen by_ : Int) (w : World) (hl : l.length = len) (hm : len ≤ 1099511627776) (hr : Row w b off l) :
    Calls Try.prog 42 #[.slice (some ⟨b, off, none⟩) len cap, .int .i64 seen, .int .i64 by_] w fun e w' =>
      ∃ v, e = .returned v ∧ w'.ownsRow w.heap.size 5 1 v (vw l seen by_).length (cells8 (vw l seen by_)) ∧ Below w.heap.size w w' := by
  have HR : Hid (Row w b off l) := hr
  have HL : Hid (l.length = len) := hl
  have hb := hr.lt
  clear hr hl
  obtain ⟨i0, hi, hz0, hz1, hz2⟩ := info_parts Try.infoByte
  go_enter Try.func42, Try.ntmps42
  go_wp2
  go_loopw [7, 12] (fun v i wr => ∃ k : Nat, k ≤ len ∧ i = .int .i64 k ∧ wr.ownsRow w.heap.size 5 1 v (vw (l.take k) seen by_).length (cells8 (vw (l.take k) seen by_)) ∧ Below w.heap.size w wr) (fun _ i _ => len - (intOf i).toNat)
  case atStart => exact ⟨0, Nat.zero_le _, rfl, World.ownsRow_nil _ _ _ _, Below.refl _ _⟩
  case round =>
    obtain ⟨k, hk, rfl, hown, hbel⟩ := hrel
    by_cases hlt : k < len
    · have hkl : k < l.length := by rw [HL.out]; exact hlt
      have hd := vw_le (l.take k) seen by_
      have hle : (l.take k).length ≤ k := List.length_take_le _ _
      have HN : Hid (vw (l.take (k + 1)) seen by_ = vw (l.take k) seen by_ ++ if seesC seen by_ l[k] = true then [l[k].c] else []) := by rw [take_snoc l k hkl]; exact vw_snoc _ _ _ _
      obtain ⟨h0, h1, h2, h3, h4, h5, h6⟩ := (HR.out.below hbel).at_ k hkl
      generalize l[k] = x at h0 h1 h2 h3 h4 h5 h6 HN
      generalize vw (l.take k) seen by_ = zs at *
      have hzs : zs.length ≤ 1099511627775 := by omega
      clear hd hle
      go_wp2_with fail
      refine (sees_any x _ _ _).mono ?_
      rintro e w1 ⟨rfl, hb1⟩
      have HN' : Hid (vw (l.take (k + 1)) seen by_ = zs ++ if seesB x.by_ x.inn x.out x.gone seen by_ = true then [x.c] else []) := HN
      have hown1 := owns_below (hown.alloc (.cells #[.int .u8 x.c, .int .i64 x.by_, .int .i64 x.no, .int .i64 x.k, .int .i64 x.inn, .int .i64 x.out, .int .i64 x.gone] 98)) hb1
      clear h0 h1 h2 h3 h4 h5 h6 HN hown
      cases hs : seesB x.by_ x.inn x.out x.gone seen by_
      · rw [hs] at HN'
        have hb2 : Below w.heap.size w w1 := below_after (hbel.alloc (by have := hbel.size; omega) _) hb1
        clear hb1 hbel
        go_wp2
        go_roundw
        case rel => exact ⟨k + 1, by omega, by go_num, by rw [HN'.out]; simpa using hown1, hb2⟩
        case measure => simp [intOf]; omega
      · rw [hs] at HN'
        obtain ⟨hc, hf⟩ := bcell hb1
        go_wp2_with (at_builtin; refine wpList_append_own _ rfl (.tmp 20) (.tmp 23) 84 rfl w.heap.size 5 i0 (.int .u8 0) 1 1 Try.underlying84 hi hz0 hz1 hz2 rfl (by decide) _ _ _ rfl (hown1.alloc _) ⟨w1.heap.size, 0, none⟩ 1 1 [.int .u8 x.c] rfl rfl ?c1 ?c2 ?c3 ?c4 ?c5 ?_)
        case c1 =>
          intro j u hj
          match j, hj with
          | 0, hj => simp at hj; subst hj; simp [Addr.add]
        case c2 => intro u hu; simp at hu; subst hu; rfl
        case c3 => unfold maxLen; omega
        case c4 => omega
        case c5 => have := hb1.size; have := hbel.size; simp at *; omega
        · intro v' w2 hown' hgrow _
          have hb2 := rel_view hbel hb1 hown1 hgrow
          clear hgrow hown1 hbel hb1 hc hf
          go_wp2
          go_roundw
          case rel => exact ⟨k + 1, by omega, by go_num, by rw [HN'.out]; simpa [cells8] using hown', hb2⟩
          case measure => simp [intOf]; omega
    · go_wp2
      go_ret
      obtain rfl : k = len := by omega
      exact ⟨_, rfl, by rw [← HL.out, List.take_length] at hown; exact hown, hbel⟩

end Go.Proofs.Ytnabhdfodckpdac

/-
  The contract of slices.IndexFunc over a list of bytes, whatever closure is handed to it; chars.Behind and chars.Find by it.
-/
namespace Go.Proofs.Ytnabhdfodckpdac
open Go.RowKit

structure Step (F : Nat) (caps : Array Value) (b off : Nat) (l : List Ch) (I : Nat → World → Prop) (hit : Nat → Bool) : Prop where
  row : ∀ k w, I k w → Row w b off l
  step : ∀ k (h : k < l.length) w, I k w → Calls Try.prog F (#[chV l[k]] ++ caps) w fun e w' => e = .returned (.bool (hit k)) ∧ I (k + 1) w'

theorem no_step (hit : Nat → Bool) (k : Nat) (h : ∀ j, j < k → hit j = false) (hk : hit k = false) : ∀ j, j < k + 1 → hit j = false := by
  intro j hj
  by_cases e : j = k
  · rw [e]; exact hk
  · exact h j (by omega)

set_option maxRecDepth 20000 in
set_option maxHeartbeats 400000 in
theorem indexFunc_some (F : Nat) (caps : Array Value) (b off len cap : Nat) (l : List Ch) (I : Nat → World → Prop) (hit : Nat → Bool) (w : World) (hl : l.length = len) (hm : len ≤ 281474976710656)
    (hcall : ∀ args w, Sem.run Try.prog (callFunc F args) w = .ok (.enter F args) w) (hS : Step F caps b off l I hit) (h0 : I 0 w) :
    Calls Try.prog 91 #[.slice (some ⟨b, off, none⟩) len cap, .func (Fn.func F) #[] caps] w fun e w' =>
      (∃ k, k < len ∧ (∀ j, j < k → hit j = false) ∧ hit k = true ∧ e = .returned (.int .i64 k) ∧ I (k + 1) w') ∨ ((∀ j, j < len → hit j = false) ∧ e = .returned (.int .i64 (-1)) ∧ I len w') := by
  have HL : Hid (l.length = len) := hl
  have HI : Hid (I 0 w) := h0
  clear hl h0
  go_enter Try.func91, Try.ntmps91
  go_wp2
  go_loopw [8] (fun i wr => ∃ k : Nat, k ≤ len ∧ i = .int .i64 k ∧ (∀ j, j < k → hit j = false) ∧ Hid (I k wr)) (fun i _ => len - (intOf i).toNat)
  case atStart => exact ⟨0, Nat.zero_le _, rfl, fun j hj => absurd hj (Nat.not_lt_zero _), HI⟩
  case round =>
    obtain ⟨k, hk, rfl, hno, hik⟩ := hrel
    have HNO : Hid (∀ j, j < k → hit j = false) := hno
    clear hno
    by_cases hlt : k < len
    · have hkl : k < l.length := by rw [HL.out]; exact hlt
      obtain ⟨h0, h1, h2, h3, h4, h5, h6⟩ := (hS.row k wr hik.out).at_ k hkl
      have HST := hS.step k hkl wr hik.out
      have HST' : Hid (Calls Try.prog F (#[chV l[k]] ++ caps) wr fun e w' => e = .returned (.bool (hit k)) ∧ I (k + 1) w') := HST
      clear HST
      generalize l[k] = x at h0 h1 h2 h3 h4 h5 h6 HST'
      go_wp2_with fail
      refine HST'.out.mono ?_
      rintro e w1 ⟨rfl, hi1⟩
      have HI1 : Hid (I (k + 1) w1) := hi1
      clear hi1 hik h0 h1 h2 h3 h4 h5 h6 HST' hcall hS
      cases hh : hit k
      · go_wp2
        go_roundw
        case rel => exact ⟨k + 1, by omega, by go_num, no_step hit k HNO.out hh, HI1⟩
        case measure => simp [intOf]; omega
      · go_wp2
        go_ret
        exact .inl ⟨k, hlt, HNO.out, hh, rfl, HI1.out⟩
    · obtain rfl : k = len := by omega
      clear hS hcall
      go_wp2
      go_ret
      exact .inr ⟨HNO.out, rfl, hik.out⟩

end Go.Proofs.Ytnabhdfodckpdac

/-
  The contract of chars.Behind: the place behind the n-th byte that one sees.
-/
namespace Go.Proofs.Ytnabhdfodckpdac
open Go.RowKit

structure BInv (W : World) (seen by_ nn met : Int) (w : World) : Prop where
  below : Below W.heap.size W w
  size : W.heap.size + 4 ≤ w.heap.size
  c0 : w.cell? ⟨W.heap.size, 0, none⟩ = some (.int .i64 seen)
  c1 : w.cell? ⟨W.heap.size + 1, 0, none⟩ = some (.int .i64 by_)
  c2 : w.cell? ⟨W.heap.size + 2, 0, none⟩ = some (.int .i64 nn)
  c3 : w.cell? ⟨W.heap.size + 3, 0, none⟩ = some (.int .i64 met)
  f3 : w.frozen? ⟨W.heap.size + 3, 0, none⟩ = false

theorem BInv.after {W w w' : World} {seen by_ nn met : Int} (h : BInv W seen by_ nn met w) (hb : Below w.heap.size w w') : BInv W seen by_ nn met w' := by
  have hs := h.size
  obtain ⟨hc, hf⟩ := bcell hb
  refine ⟨h.below.trans (hb.mono (by omega)), Nat.le_trans hs hb.size, ?_, ?_, ?_, ?_, ?_⟩
  · rw [hc _ _ (by omega)]; exact h.c0
  · rw [hc _ _ (by omega)]; exact h.c1
  · rw [hc _ _ (by omega)]; exact h.c2
  · rw [hc _ _ (by omega)]; exact h.c3
  · rw [hf _ _ (by omega)]; exact h.f3

theorem BInv.store {W w : World} {seen by_ nn met : Int} (h : BInv W seen by_ nn met w) (m : Int) : BInv W seen by_ nn m (w.setCell ⟨W.heap.size + 3, 0, none⟩ (.int .i64 m)) := by
  have hs := h.size
  refine ⟨h.below.setCell (by simp) _, by simpa [World.setCell] using hs, ?_, ?_, ?_, ?_, ?_⟩
  · rw [World.cell?_of_block (w := w) (Below.heap_setCell _ _ _ _ (by simp))]; exact h.c0
  · rw [World.cell?_of_block (w := w) (Below.heap_setCell _ _ _ _ (by simp))]; exact h.c1
  · rw [World.cell?_of_block (w := w) (Below.heap_setCell _ _ _ _ (by simp))]; exact h.c2
  · have := h.c3
    simp [go_sem, this]
  · have := h.f3
    simp [go_sem, this]

def stepM (seen by_ : Int) (x : Ch) (met : Int) : Int := if seesC seen by_ x = true then met + 1 else met
def stepH (seen by_ : Int) (x : Ch) (met nn : Int) : Bool := seesC seen by_ x && (met + 1 == nn)

set_option maxRecDepth 20000 in
set_option maxHeartbeats 400000 in
theorem behind1_any (x : Ch) (W : World) (seen by_ nn met : Int) (w : World) (h : BInv W seen by_ nn met w) (h0 : 0 ≤ met) (h1 : met ≤ 281474976710656) :
    Calls Try.prog 125 (#[chV x] ++ #[.pointer (some ⟨W.heap.size, 0, none⟩), .pointer (some ⟨W.heap.size + 1, 0, none⟩), .pointer (some ⟨W.heap.size + 3, 0, none⟩), .pointer (some ⟨W.heap.size + 2, 0, none⟩)]) w
      fun e w' => e = .returned (.bool (stepH seen by_ x met nn)) ∧ BInv W seen by_ nn (stepM seen by_ x met) w' := by
  have H : Hid (BInv W seen by_ nn met w) := h
  have hs := h.size
  have c0 : ∀ o, (w.alloc o).cell? ⟨W.heap.size, 0, none⟩ = some (.int .i64 seen) := fun o => by rw [World.cell?_alloc_past _ _ _ (show W.heap.size < w.heap.size by omega)]; exact h.c0
  have c1 : ∀ o, (w.alloc o).cell? ⟨W.heap.size + 1, 0, none⟩ = some (.int .i64 by_) := fun o => by rw [World.cell?_alloc_past _ _ _ (show W.heap.size + 1 < w.heap.size by omega)]; exact h.c1
  clear h
  go_enter Try.func125, Try.ntmps125
  go_wp2_with fail
  refine (sees_any x _ _ _).mono ?_
  rintro e w1 ⟨rfl, hb1⟩
  have hb2 : Below w.heap.size w w1 := below_after ((Below.refl _ _).alloc (Nat.le_refl _) _) hb1
  have H1 : Hid (BInv W seen by_ nn met w1) := H.out.after hb2
  have g2 := H1.out.c2
  have g3 := H1.out.c3
  have gf := H1.out.f3
  clear c0 c1 hb1 hb2 H
  cases hc : seesB x.by_ x.inn x.out x.gone seen by_
  · go_wp2
    go_ret
    have hx : seesC seen by_ x = false := hc
    exact ⟨ret_b (by simp [stepH, hx]), by simp only [stepM, hx]; exact H1.out⟩
  · have H2 : Hid (BInv W seen by_ nn (met + 1) (w1.setCell ⟨W.heap.size + 3, 0, none⟩ (.int .i64 (met + 1)))) := H1.out.store _
    have k2 := H2.out.c2
    have k3 := H2.out.c3
    go_wp2
    go_ret
    have hx : seesC seen by_ x = true := hc
    exact ⟨ret_b (by simp [stepH, hx]), by simp only [stepM, hx]; exact H2.out⟩

def hitAt (l : List Ch) (seen by_ nn : Int) (k : Nat) : Bool :=
  match l[k]? with
  | some x => stepH seen by_ x (cnt (l.take k) seen by_) nn
  | none => false

/-- What chars.Behind answers. -/
def BehindIs (l : List Ch) (seen by_ nn r : Int) : Prop :=
  (nn = 0 ∧ r = 0) ∨ (nn ≠ 0 ∧ ((∃ k : Nat, k < l.length ∧ (∀ j, j < k → hitAt l seen by_ nn j = false) ∧ hitAt l seen by_ nn k = true ∧ r = k + 1) ∨ ((∀ j, j < l.length → hitAt l seen by_ nn j = false) ∧ r = -1)))

theorem stepM_take (l : List Ch) (seen by_ : Int) (k : Nat) (h : k < l.length) : stepM seen by_ l[k] (cnt (l.take k) seen by_) = cnt (l.take (k + 1)) seen by_ := by
  rw [take_snoc l k h, cnt_snoc]
  unfold stepM
  split <;> omega

theorem behind_step (W : World) (b off : Nat) (l : List Ch) (seen by_ nn : Int) (hl : l.length ≤ 281474976710656) (hr : Row W b off l) :
    Step 125 #[.pointer (some ⟨W.heap.size, 0, none⟩), .pointer (some ⟨W.heap.size + 1, 0, none⟩), .pointer (some ⟨W.heap.size + 3, 0, none⟩), .pointer (some ⟨W.heap.size + 2, 0, none⟩)] b off l
      (fun k w => BInv W seen by_ nn (cnt (l.take k) seen by_) w) (hitAt l seen by_ nn) := by
  refine ⟨fun k w h => hr.below h.below, fun k hk w h => ?_⟩
  have hb := cnt_bd (l.take k) seen by_
  have hle : (l.take k).length ≤ l.length := by simp; omega
  refine (behind1_any l[k] W seen by_ nn (cnt (l.take k) seen by_) w h hb.1 (by omega)).mono ?_
  rintro e w' ⟨rfl, h'⟩
  rw [stepM_take l seen by_ k hk] at h'
  refine ⟨ret_b ?_, h'⟩
  unfold hitAt
  rw [List.getElem?_eq_getElem hk]

theorem binv_start (w : World) (seen by_ nn : Int) : BInv w seen by_ nn 0 ((((w.alloc (.cells #[.int .i64 seen] 3)).alloc (.cells #[.int .i64 by_] 3)).alloc (.cells #[.int .i64 nn] 3)).alloc (.cells #[.int .i64 0] 3)) := by
  refine ⟨?_, by simp, ?_, ?_, ?_, ?_, ?_⟩
  · exact ((((Below.refl _ _).alloc (Nat.le_refl _) _).alloc (by simp) _).alloc (by simp; omega) _).alloc (by simp; omega) _
  · simp [go_sem, World.cell?_alloc_past]
  · simp [go_sem, World.cell?_alloc_past]
  · simp [go_sem, World.cell?_alloc_past]
  · simp [go_sem]
  · simp [go_sem]

theorem callBehind1 : ∀ args w, Sem.run Try.prog (callFunc 125 args) w = .ok (.enter 125 args) w := fun _ _ => by kernel_rfl

set_option maxRecDepth 20000 in
set_option maxHeartbeats 400000 in
theorem behind_some (b off len cap : Nat) (l : List Ch) (seen by_ n : Int) (w : World) (hl : l.length = len) (hm : len ≤ 281474976710656) (hr : Row w b off l) :
    Calls Try.prog 107 #[.slice (some ⟨b, off, none⟩) len cap, .int .i64 seen, .int .i64 by_, .int .i64 n] w fun e w' =>
      ∃ r, e = .returned (.int .i64 r) ∧ BehindIs l seen by_ n r ∧ Below w.heap.size w w' := by
  by_cases h0 : n = 0
  · have h0' : (n == 0) = true := by simp [h0]
    have H0 : Hid (n = 0) := h0
    clear h0
    go_enter Try.func107, Try.ntmps107
    go_wp2
    go_ret
    exact ⟨0, rfl, .inl ⟨H0.out, rfl⟩, (((Below.refl _ _).alloc (Nat.le_refl _) _).alloc (by simp) _).alloc (by simp; omega) _⟩
  · have h0' : (n == 0) = false := by simp [h0]
    have H0 : Hid (n ≠ 0) := h0
    have HL : Hid (l.length = len) := hl
    have HS : Hid _ := binv_start w seen by_ n
    have HT : Hid _ := behind_step w b off l seen by_ n (by omega) hr
    clear h0 hl hr
    have hmf : ∀ (fn : Fn) (first cap : Array Value) (w : World), (Instr.makeFunc fn first cap).run Try.prog w = .ok (.func fn first cap) w := fun _ _ _ _ => rfl
    go_enter Try.func107, Try.ntmps107
    go_wp2_with fail
    rw [show w.heap.size + 1 + 1 + 1 = w.heap.size + 3 from rfl, show w.heap.size + 1 + 1 = w.heap.size + 2 from rfl]
    refine (indexFunc_some 125 #[.pointer (some ⟨w.heap.size, 0, none⟩), .pointer (some ⟨w.heap.size + 1, 0, none⟩), .pointer (some ⟨w.heap.size + 3, 0, none⟩), .pointer (some ⟨w.heap.size + 2, 0, none⟩)] b off len cap l _ _ _ HL.out hm callBehind1 HT.out HS.out).mono ?_
    intro e w1 hres
    have H1 : Hid _ := hres
    clear hres HT HS
    rcases H1.out with ⟨k, hk, hno, hyes, rfl, hI⟩ | ⟨hno, rfl, hI⟩
    · have H2 : Hid _ := hno
      have H3 : Hid _ := hyes
      have H4 : Hid _ := hI
      clear H1 hno hyes hI
      go_wp2
      go_ret
      exact ⟨(k : Int) + 1, rfl, .inr ⟨H0.out, .inl ⟨k, by rw [HL.out]; exact hk, H2.out, H3.out, rfl⟩⟩, H4.out.below⟩
    · have H2 : Hid _ := hno
      have H4 : Hid _ := hI
      clear H1 hno hI
      go_wp2
      go_ret
      exact ⟨-1, rfl, .inr ⟨H0.out, .inr ⟨by rw [HL.out]; exact H2.out, rfl⟩⟩, H4.out.below⟩

end Go.Proofs.Ytnabhdfodckpdac

/-
  The contracts of chars.Same and chars.Find.
-/
namespace Go.Proofs.Ytnabhdfodckpdac
open Go.RowKit

def sameB (a b : Ch) : Bool := decide (a.by_ = b.by_ ∧ a.no = b.no ∧ a.k = b.k)

set_option maxRecDepth 20000 in
set_option maxHeartbeats 400000 in
theorem same_any (x y : Ch) (w : World) :
    Calls Try.prog 115 #[chV x, chV y] w fun e w' => e = .returned (.bool (sameB x y)) ∧ Below w.heap.size w w' := by
  obtain ⟨c, b, no, k, i, o, g⟩ := x
  obtain ⟨c', b', no', k', i', o', g'⟩ := y
  cases h1 : (b == b')
  · go_enter Try.func115, Try.ntmps115
    go_wp2
    go_ret
    refine ⟨ret_b ?_, ((Below.refl _ _).alloc (Nat.le_refl _) _).alloc (by simp) _⟩
    simp only [beq_eq_false_iff_ne] at h1
    simp [sameB, h1]
  · cases h2 : (no == no')
    · go_enter Try.func115, Try.ntmps115
      go_wp2
      go_ret
      refine ⟨ret_b ?_, ((Below.refl _ _).alloc (Nat.le_refl _) _).alloc (by simp) _⟩
      simp only [beq_eq_false_iff_ne] at h2
      simp [sameB, h2]
    · cases h3 : (k == k')
      all_goals
        go_enter Try.func115, Try.ntmps115
        go_wp2
        go_ret
        refine ⟨ret_b ?_, ((Below.refl _ _).alloc (Nat.le_refl _) _).alloc (by simp) _⟩
        simp only [beq_eq_false_iff_ne, beq_iff_eq] at h1 h2 h3
        simp [sameB, h1, h2, h3]

structure FInv (W : World) (y : Ch) (w : World) : Prop where
  below : Below W.heap.size W w
  size : W.heap.size + 1 ≤ w.heap.size
  at_ : At w W.heap.size 0 y

theorem FInv.after {W w w' : World} {y : Ch} (h : FInv W y w) (hb : Below w.heap.size w w') : FInv W y w' := by
  have hs := h.size
  obtain ⟨hc, hf⟩ := bcell hb
  refine ⟨h.below.trans (hb.mono (by omega)), Nat.le_trans hs hb.size, ?_⟩
  have hx := h.at_
  unfold At at hx ⊢
  simp only [hc _ _ (show W.heap.size < w.heap.size by omega)]
  exact hx

set_option maxRecDepth 20000 in
set_option maxHeartbeats 400000 in
theorem find1_any (x y : Ch) (W w : World) (h : FInv W y w) :
    Calls Try.prog 114 (#[chV x] ++ #[.pointer (some ⟨W.heap.size, 0, none⟩)]) w
      fun e w' => e = .returned (.bool (sameB x y)) ∧ FInv W y w' := by
  have H : Hid (FInv W y w) := h
  have hs := h.size
  have ha : ∀ o j v, w.cell? ⟨W.heap.size, j, none⟩ = some v → (w.alloc o).cell? ⟨W.heap.size, j, none⟩ = some v := fun o j v hv => by
    rw [World.cell?_alloc_past _ _ _ (show W.heap.size < w.heap.size by omega)]; exact hv
  obtain ⟨a0, a1, a2, a3, a4, a5, a6⟩ := h.at_
  have c0 := fun o => ha o _ _ a0
  have c1 := fun o => ha o _ _ a1
  have c2 := fun o => ha o _ _ a2
  have c3 := fun o => ha o _ _ a3
  have c4 := fun o => ha o _ _ a4
  have c5 := fun o => ha o _ _ a5
  have c6 := fun o => ha o _ _ a6
  simp only [Nat.zero_add] at c1 c2 c3 c4 c5 c6
  clear h ha a0 a1 a2 a3 a4 a5 a6
  go_enter Try.func114, Try.ntmps114
  go_wp2_with fail
  refine (same_any x y _).mono ?_
  rintro e w1 ⟨rfl, hb1⟩
  have hb2 : Below w.heap.size w w1 := below_after ((Below.refl _ _).alloc (Nat.le_refl _) _) hb1
  have H1 : Hid (FInv W y w1) := H.out.after hb2
  clear c0 c1 c2 c3 c4 c5 c6 hb1 hb2 H
  go_wp2
  go_ret
  exact ⟨rfl, H1.out⟩

def sameAt (l : List Ch) (y : Ch) (k : Nat) : Bool :=
  match l[k]? with
  | some x => sameB x y
  | none => false

/-- What chars.Find answers. -/
def FindIs (l : List Ch) (y : Ch) (r : Int) : Prop :=
  (∃ k : Nat, k < l.length ∧ (∀ j, j < k → sameAt l y j = false) ∧ sameAt l y k = true ∧ r = k) ∨ ((∀ j, j < l.length → sameAt l y j = false) ∧ r = -1)

theorem find_step (W : World) (b off : Nat) (l : List Ch) (y : Ch) (hr : Row W b off l) :
    Step 114 #[.pointer (some ⟨W.heap.size, 0, none⟩)] b off l (fun _ w => FInv W y w) (sameAt l y) := by
  refine ⟨fun k w h => hr.below h.below, fun k hk w h => ?_⟩
  refine (find1_any l[k] y W w h).mono ?_
  rintro e w' ⟨rfl, h'⟩
  refine ⟨ret_b ?_, h'⟩
  unfold sameAt
  rw [List.getElem?_eq_getElem hk]

theorem finv_start (w : World) (y : Ch) : FInv w y (w.alloc (.cells #[.int .u8 y.c, .int .i64 y.by_, .int .i64 y.no, .int .i64 y.k, .int .i64 y.inn, .int .i64 y.out, .int .i64 y.gone] 98)) := by
  refine ⟨(Below.refl _ _).alloc (Nat.le_refl _) _, by simp, ?_⟩
  unfold At
  simp [go_sem]

theorem callFind1 : ∀ args w, Sem.run Try.prog (callFunc 114 args) w = .ok (.enter 114 args) w := fun _ _ => by kernel_rfl

set_option maxRecDepth 20000 in
set_option maxHeartbeats 400000 in
theorem find_some (b off len cap : Nat) (l : List Ch) (y : Ch) (w : World) (hl : l.length = len) (hm : len ≤ 281474976710656) (hr : Row w b off l) :
    Calls Try.prog 90 #[.slice (some ⟨b, off, none⟩) len cap, chV y] w fun e w' =>
      ∃ r, e = .returned (.int .i64 r) ∧ FindIs l y r ∧ Below w.heap.size w w' := by
  have HL : Hid (l.length = len) := hl
  have HS : Hid _ := finv_start w y
  have HT : Hid _ := find_step w b off l y hr
  clear hl hr
  have hmf : ∀ (fn : Fn) (first cap : Array Value) (w : World), (Instr.makeFunc fn first cap).run Try.prog w = .ok (.func fn first cap) w := fun _ _ _ _ => rfl
  go_enter Try.func90, Try.ntmps90
  go_wp2_with fail
  refine (indexFunc_some 114 #[.pointer (some ⟨w.heap.size, 0, none⟩)] b off len cap l _ _ _ HL.out hm callFind1 HT.out HS.out).mono ?_
  intro e w1 hres
  have H1 : Hid _ := hres
  clear hres HT HS
  rcases H1.out with ⟨k, hk, hno, hyes, rfl, hI⟩ | ⟨hno, rfl, hI⟩
  · have H2 : Hid _ := hno
    have H3 : Hid _ := hyes
    have H4 : Hid _ := hI
    clear H1 hno hyes hI
    go_wp2
    go_ret
    exact ⟨(k : Int), rfl, .inl ⟨k, by rw [HL.out]; exact hk, H2.out, H3.out, rfl⟩, H4.out.below⟩
  · have H2 : Hid _ := hno
    have H4 : Hid _ := hI
    clear H1 hno hI
    go_wp2
    go_ret
    exact ⟨-1, rfl, .inr ⟨by rw [HL.out]; exact H2.out, rfl⟩, H4.out.below⟩

end Go.Proofs.Ytnabhdfodckpdac
