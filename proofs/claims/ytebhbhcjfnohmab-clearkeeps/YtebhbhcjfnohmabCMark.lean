/-
  The contracts of marks: follows, Place, At, behindLast, Slide.
-/
import Derived.Test.YtebhbhcjfnohmabCLeaf
import Derived.Test.YtebhbhcjfnohmabFSame
namespace Go.Proofs.Ytebhbhcjfnohmab
open Go.RowKit

set_option maxRecDepth 20000 in
set_option maxHeartbeats 400000 in
theorem follows_any (m : Mk) (x : Ch) (w : World) :
    Calls Try.prog 72 #[mkV m, chV x] w fun e w' => e = .returned (.bool (hitM m x)) ∧ Below w.heap.size w w' := by
  obtain ⟨s, mb, mn, mk⟩ := m
  obtain ⟨c, b, no, k, i, o, g⟩ := x
  have HB : Hid (∀ o p, Below w.heap.size w ((w.alloc o).alloc p)) := below2 w
  go_enter Try.func72, Try.ntmps72
  go_wp2
  generalize hw0 : ((w.alloc _).alloc _) = w0
  have HM : Hid (MBox ⟨s, mb, mn, mk⟩ w.heap.size w0) := by
    rw [← hw0]; exact (mbox_start w ⟨s, mb, mn, mk⟩).after (below1 _ _)
  have HX : Hid (At w0 (w.heap.size + 1) 0 ⟨c, b, no, k, i, o, g⟩ ∧ w.heap.size + 1 < w0.heap.size) := by
    rw [← hw0]
    exact ⟨by unfold At; simp [go_sem], by simp⟩
  have HW : Hid (Below w.heap.size w w0) := by rw [← hw0]; exact HB.out _ _
  clear hw0 HB
  refine wp_region_quiet (C := fun wk => Below w0.heap.size w0 wk) (by kernel_rfl) (by kernel_rfl) (Below.refl _ _).drew ?_
  refine wpQuiet_step (fun K hK => ?_)
  go_simp
  refine ⟨mkV ⟨s, mb, mn, mk⟩, fun wk hwk => ?_, hK _ ?_⟩
  · obtain ⟨_, g0, g1, g2, g3⟩ := HM.out.after hwk
    go_simp
  clear hK K
  refine wpQuiet_step (fun K hK => ?_)
  go_simp
  refine ⟨chV ⟨c, b, no, k, i, o, g⟩, fun wk hwk => ?_, hK _ ?_⟩
  · obtain ⟨hc, _⟩ := bcell hwk
    obtain ⟨g0, g1, g2, g3, g4, g5, g6⟩ := HX.out.1
    rw [← hc _ _ HX.out.2] at g0 g1 g2 g3 g4 g5 g6
    simp only [Nat.zero_add] at g0 g1 g2 g3 g4 g5 g6
    clear hc
    go_simp
  clear hK K
  refine wpQuiet_step (fun K hK => ?_)
  go_simp
  refine ⟨_, fun wk hwk => (mkBehind_any ⟨c, b, no, k, i, o, g⟩ wk).mono (fun _ _ ⟨he, hb⟩ => ⟨he, below_after hwk hb⟩), hK _ ?_⟩
  clear hK K
  refine wpQuiet_step (fun K hK => ?_)
  go_simp
  refine ⟨.bool (hitM ⟨s, mb, mn, mk⟩ ⟨c, b, no, k, i, o, g⟩), fun wk hwk => ?_, hK _ ?_⟩
  · by_cases h0 : s = false <;> by_cases h1 : mb = b <;> by_cases h2 : mn = no <;> by_cases h3 : mk = k <;> simp [hitM, mkOf, h0, h1, h2, h3]
  clear hK K
  refine wpQuiet_step (fun K hK => ?_)
  go_simp
  refine ⟨_, fun _ _ => rfl, hK _ ?_⟩
  clear hK K
  refine wpQuiet_nil ?_
  intro w4 hw4
  have HK4 : Hid (Below w.heap.size w w4) := below_after HW.out hw4
  clear hw4
  go_wp2
  go_ret
  exact ⟨rfl, HK4.out⟩

theorem callFollows : ∀ args w, Sem.run Try.prog (callFunc 72 args) w = .ok (.enter 72 args) w := fun _ _ => by kernel_rfl

def hitAtM (m : Mk) (l : List Ch) (k : Nat) : Bool :=
  match l[k]? with
  | some x => hitM m x
  | none => false

set_option maxRecDepth 20000 in
set_option maxHeartbeats 400000 in
/-- The search for the byte that a mark stands behind. -/
theorem indexMark_some (m : Mk) (b off len cap : Nat) (l : List Ch) (w : World) (hl : l.length = len) (hm : len ≤ 281474976710656) (hr : Row w b off l) :
    Calls Try.prog 71 #[.slice (some ⟨b, off, none⟩) len cap, .func (Fn.func 72) #[mkV m] #[]] w fun e w' =>
      (∃ k, k < len ∧ (∀ j, j < k → hitAtM m l j = false) ∧ hitAtM m l k = true ∧ e = .returned (.int .i64 k) ∧ Below w.heap.size w w') ∨ ((∀ j, j < len → hitAtM m l j = false) ∧ e = .returned (.int .i64 (-1)) ∧ Below w.heap.size w w') := by
  have HL : Hid (l.length = len) := hl
  have HR : Hid (Row w b off l) := hr
  have hcall := callFollows
  clear hl hr
  go_enter Try.func71, Try.ntmps71
  go_wp2
  go_loopw [8] (fun i wr => ∃ k : Nat, k ≤ len ∧ i = .int .i64 k ∧ Hid (∀ j, j < k → hitAtM m l j = false) ∧ Hid (Below w.heap.size w wr)) (fun i _ => len - (intOf i).toNat)
  case atStart => exact ⟨0, Nat.zero_le _, rfl, fun j hj => absurd hj (Nat.not_lt_zero _), Below.refl _ _⟩
  case round =>
    obtain ⟨k, hk, rfl, HNO, HI⟩ := hrel
    by_cases hlt : k < len
    · have hkl : k < l.length := by rw [HL.out]; exact hlt
      obtain ⟨h0, h1, h2, h3, h4, h5, h6⟩ := (HR.out.below HI.out).at_ k hkl
      have HH : Hid (hitAtM m l k = hitM m l[k]) := by
        show hitAtM m l k = _
        rw [hitAtM, List.getElem?_eq_getElem hkl]
      generalize l[k] = x at h0 h1 h2 h3 h4 h5 h6 HH
      go_wp2_with fail
      refine (follows_any m x wr).mono ?_
      rintro e w1 ⟨rfl, hi1⟩
      have HI1 : Hid (Below w.heap.size w w1) := below_after HI.out hi1
      clear hi1 HI h0 h1 h2 h3 h4 h5 h6 hcall
      cases hh : hitM m x
      · rw [hh] at HH
        go_wp2
        go_roundw
        case rel => exact ⟨k + 1, by omega, by go_num, no_step (hitAtM m l) k HNO.out HH.out, HI1⟩
        case measure => simp [intOf]; omega
      · rw [hh] at HH
        go_wp2
        go_ret
        exact .inl ⟨k, hlt, HNO.out, HH.out, rfl, HI1.out⟩
    · obtain rfl : k = len := by omega
      clear hcall
      go_wp2
      go_ret
      exact .inr ⟨HNO.out, rfl, HI.out⟩

theorem find_of_hit {m : Mk} {l : List Ch} {k : Nat} (hk : k < l.length) (h1 : ∀ j, j < k → hitAtM m l j = false) (h2 : hitAtM m l k = true) : findM m l = some k := by
  unfold findM
  rw [List.findIdx?_eq_some_iff_getElem]
  refine ⟨hk, ?_, fun j hj => ?_⟩
  · rw [hitAtM, List.getElem?_eq_getElem hk] at h2; exact h2
  · have := h1 j hj
    rw [hitAtM, List.getElem?_eq_getElem (by omega)] at this
    simpa using this
theorem find_of_none {m : Mk} {l : List Ch} (h1 : ∀ j, j < l.length → hitAtM m l j = false) : findM m l = none := by
  unfold findM
  rw [List.findIdx?_eq_none_iff]
  intro x hx
  obtain ⟨j, hj, rfl⟩ := List.mem_iff_getElem.1 hx
  have := h1 j hj
  rw [hitAtM, List.getElem?_eq_getElem hj] at this
  exact this

/-- The search, of a list that is empty or not: at -1, or where the mark stands. -/
theorem indexMark_lst {w : World} {v : Value} {l : List Ch} (m : Mk) (h : Lst w v l) (hl : l.length ≤ 1000) :
    Calls Try.prog 71 #[v, .func (Fn.func 72) #[mkV m] #[]] w fun e w' =>
      ((∃ k : Nat, findM m l = some k ∧ k < l.length ∧ e = .returned (.int .i64 k)) ∨ (findM m l = none ∧ e = .returned (.int .i64 (-1)))) ∧ Below w.heap.size w w' := by
  obtain ⟨a, len, cap, rfl, h1, h2, h3⟩ := h
  rcases h3 with rfl | ⟨b, off, rfl, hr⟩
  · obtain rfl : l = [] := List.length_eq_zero_iff.1 h1
    refine (indexFunc_empty a cap _ w).mono ?_
    rintro e w' ⟨rfl, hb⟩
    exact ⟨.inr ⟨rfl, rfl⟩, hb⟩
  · refine (indexMark_some m b off len cap l w h1 (by omega) hr).mono ?_
    rintro e w' (⟨k, hk, hno, hy, rfl, hb⟩ | ⟨hno, rfl, hb⟩)
    · exact ⟨.inl ⟨k, find_of_hit (by omega) hno hy, by omega, rfl⟩, hb⟩
    · exact ⟨.inr ⟨find_of_none (by rw [h1]; exact hno), rfl⟩, hb⟩

theorem place_of (l : List Ch) (m : Mk) : placeM l m = if decide (m = mkStart) = true then 0 else match findM m l with | some k => (k : Int) + 1 | none => -1 := by
  unfold placeM
  by_cases h : m = mkStart
  · simp [h]
  · rw [if_neg h, if_neg (by simp [h])]
    cases findM m l <;> rfl

set_option maxRecDepth 20000 in
set_option maxHeartbeats 400000 in
theorem place_lst {w : World} {v : Value} {l : List Ch} (m : Mk) (h : Lst w v l) (hl : l.length ≤ 1000) :
    Calls Try.prog 44 #[v, mkV m] w fun e w' => e = .returned (.int .i64 (placeM l m)) ∧ Below w.heap.size w w' := by
  have HL : Hid (Lst w v l) := h
  have HP : Hid _ := place_of l m
  have hmf : ∀ (fn : Fn) (first cap : Array Value) (w : World), (Instr.makeFunc fn first cap).run Try.prog w = .ok (.func fn first cap) w := fun _ _ _ _ => rfl
  have HM : Hid _ := mbox_start w m
  have HB : Hid (∀ o, Below w.heap.size w (w.alloc o)) := below1 w
  obtain ⟨s, mb, mn, mk⟩ := m
  simp only at HM
  clear h
  go_enter Try.func44, Try.ntmps44
  go_wp2
  generalize hw0 : (w.alloc _) = w0 at *
  have HW : Hid (Below w.heap.size w w0) := by rw [← hw0]; exact HB.out _
  clear hw0 HB
  refine wp_region_quiet (C := fun wk => Below w0.heap.size w0 wk) (by kernel_rfl) (by kernel_rfl) (Below.refl _ _).drew ?_
  refine wpQuiet_step (fun K hK => ?_)
  go_simp
  refine ⟨mkV ⟨s, mb, mn, mk⟩, fun wk hwk => ?_, hK _ ?_⟩
  · obtain ⟨_, g0, g1, g2, g3⟩ := HM.out.after hwk
    go_simp
  clear hK K
  refine wpQuiet_step (fun K hK => ?_)
  go_simp
  refine ⟨_, fun wk hwk => (start_any wk).mono (fun _ _ ⟨he, hb⟩ => ⟨he, below_after hwk hb⟩), hK _ ?_⟩
  clear hK K
  refine wpQuiet_step (fun K hK => ?_)
  go_simp
  refine ⟨.bool (decide ((⟨s, mb, mn, mk⟩ : Mk) = mkStart)), fun wk hwk => ?_, hK _ ?_⟩
  · by_cases h0 : s = true <;> by_cases h1 : mb = 0 <;> by_cases h2 : mn = 0 <;> by_cases h3 : mk = 0 <;> simp [mkStart, h0, h1, h2, h3]
  clear hK K
  refine wpQuiet_nil ?_
  intro w4 hw4
  have HM4 : Hid _ := HM.out.after hw4
  have HL4 : Hid _ := (HL.out.below HW.out).below hw4
  have HK4 : Hid (Below w.heap.size w w4) := below_after HW.out hw4
  clear hw4 HL HM HW
  generalize decide ((⟨s, mb, mn, mk⟩ : Mk) = mkStart) = q at *
  cases q
  · obtain ⟨_, g0, g1, g2, g3⟩ := HM4.out
    simp only at g0 g1 g2 g3
    go_wp2_with fail
    refine (indexMark_lst ⟨s, mb, mn, mk⟩ HL4.out hl).mono ?_
    rintro e w5 ⟨hres, hb⟩
    have HK5 : Hid (Below w.heap.size w w5) := below_after HK4.out hb
    have H5 : Hid _ := hres
    clear hb hres g0 g1 g2 g3 HM4 HL4 HK4
    rcases H5.out with ⟨k, hf, hk, rfl⟩ | ⟨hf, rfl⟩
    · have HF : Hid _ := hf
      clear H5 hf
      go_wp2
      go_ret
      exact ⟨ret_int (by rw [HP.out, HF.out]; simp), HK5.out⟩
    · have HF : Hid _ := hf
      clear H5 hf
      go_wp2
      go_ret
      exact ⟨ret_int (by rw [HP.out, HF.out]; simp), HK5.out⟩
  · go_wp2
    go_ret
    exact ⟨ret_int (by rw [HP.out]; simp), HK4.out⟩

/-- What At answers: the mark, and whether there is such a place. -/
def atZ (l : List Ch) (p : Int) : Mk := if 0 ≤ p ∧ p ≤ l.length then atM l p.toNat else mkZero
def hasB (l : List Ch) (p : Int) : Bool := decide (0 ≤ p ∧ p ≤ l.length)

theorem results_cell_tmp2' {fn : Func} {p u : Tmp} {ty : TypeId} (h : fn.results = #[.cell p ty, .tmp u]) (tmps : Array Value) (P : Program) (w : World) :
    (results fn tmps).run P w = ((asAddr (tmps.getD p undef)).run P w).andThen fun a w₁ => ((loadVar ty a).run P w₁).andThen fun v w₂ => .ok (.tuple #[v, tmps.getD u undef]) w₂ := by
  simp only [results, h]
  simp [Sem.run_bind, Result.andThen]

theorem load_mark {w : World} {B : Nat} {m : Mk} (h : MBox m B w) : (loadVar 69 ⟨B, 0, none⟩).run Try.prog w = .ok (mkV m) w := by
  obtain ⟨_, c0, c1, c2, c3⟩ := h
  simp [go_sem, loadVar, loadCells, loadCellsFrom, Sem.run_bind, Try.isAgg69, Try.sizeOf69, c0, c1, c2, c3]

/-- The end of a function whose results are a mark and something else. -/
theorem mark_end2 {fn : Func} {p u : Tmp} {R : Ending → World → Prop} {a : Act} {w : World} {B : Nat} {m : Mk} {x : Value} (hf : fn.results = #[.cell p 69, .tmp u]) (h : MBox m B w) (h2 : a.tmps.getD u undef = x) (h3 : a.tmps.getD p undef = .pointer (some ⟨B, 0, none⟩)) (hd : a.defers = [])
    (hR : R (.returned (.tuple #[mkV m, x])) w) : bodyPost Try.prog fn R Exit.ret a w := by
  refine bodyPost_ret ?_ hd hR
  rw [results_cell_tmp2' hf, h2, h3]
  simp [asAddr, load_mark h]

/-- A mark is stored into a box that nobody has frozen. -/
theorem MBox.set {w : World} {B : Nat} {m0 : Mk} (h : MBox m0 B w) (m : Mk) : MBox m B ((((w.setCell ⟨B, 0, none⟩ (.bool m.start)).setCell ⟨B, 1, none⟩ (.int .i64 m.by_)).setCell ⟨B, 2, none⟩ (.int .i64 m.no)).setCell ⟨B, 3, none⟩ (.int .i64 m.k)) := by
  obtain ⟨h0, c0, c1, c2, c3⟩ := h
  refine ⟨by simpa using h0, ?_, ?_, ?_, ?_⟩ <;> simp [go_sem, c0, c1, c2, c3]

theorem ret_two {a b : Mk} {x y : Bool} (h : a = b) (hx : x = y) : Ending.returned (.tuple #[mkV a, .bool x]) = .returned (.tuple #[mkV b, .bool y]) := by rw [h, hx]

abbrev mObj (m : Mk) : Obj := .cells #[.bool m.start, .int .i64 m.by_, .int .i64 m.no, .int .i64 m.k] 69

/-- A mark in a box of the call's own. -/
structure OBox (W : World) (m : Mk) (B : Nat) (w : World) : Prop where
  box : MBox m B w
  f0 : w.frozen? ⟨B, 0, none⟩ = false
  f1 : w.frozen? ⟨B, 1, none⟩ = false
  f2 : w.frozen? ⟨B, 2, none⟩ = false
  f3 : w.frozen? ⟨B, 3, none⟩ = false
  below : Below W.heap.size W w ∧ W.heap.size ≤ B

theorem OBox.after {W w w' : World} {m : Mk} {B : Nat} (h : OBox W m B w) (hb : Below w.heap.size w w') : OBox W m B w' := by
  obtain ⟨_, hf⟩ := bcell hb
  have hl := h.box.lt
  exact ⟨h.box.after hb, by rw [hf _ _ hl]; exact h.f0, by rw [hf _ _ hl]; exact h.f1, by rw [hf _ _ hl]; exact h.f2, by rw [hf _ _ hl]; exact h.f3, below_after h.below.1 hb, h.below.2⟩

theorem obox_start (w : World) (m : Mk) : OBox w m w.heap.size (w.alloc (mObj m)) := by
  refine ⟨mbox_start w m, ?_, ?_, ?_, ?_, below1 _ _, Nat.le_refl _⟩ <;> simp [go_sem]

theorem OBox.set {W w : World} {B : Nat} {m0 : Mk} (h : OBox W m0 B w) (m : Mk) : OBox W m B ((((w.setCell ⟨B, 0, none⟩ (.bool m.start)).setCell ⟨B, 1, none⟩ (.int .i64 m.by_)).setCell ⟨B, 2, none⟩ (.int .i64 m.no)).setCell ⟨B, 3, none⟩ (.int .i64 m.k)) := by
  have hg := h.below.2
  refine ⟨h.box.set m, ?_, ?_, ?_, ?_, ((((h.below.1.setCell (p := ⟨B, _, none⟩) hg _).setCell (p := ⟨B, _, none⟩) hg _).setCell (p := ⟨B, _, none⟩) hg _).setCell (p := ⟨B, _, none⟩) hg _), hg⟩ <;> simp [go_sem, h.f0, h.f1, h.f2, h.f3]

set_option maxRecDepth 20000 in
set_option maxHeartbeats 400000 in
theorem at_lst {w : World} {v : Value} {l : List Ch} (p : Int) (h : Lst w v l) (hl : l.length ≤ 1000) :
    Calls Try.prog 64 #[v, .int .i64 p] w fun e w' => e = .returned (.tuple #[mkV (atZ l p), .bool (hasB l p)]) ∧ Below w.heap.size w w' := by
  have HL : Hid (Lst w v l) := h
  have HZ : Hid _ := mbox_start w mkZero
  have HO : Hid (OBox w mkZero w.heap.size (w.alloc (mObj mkZero))) := obox_start w mkZero
  have HB : Hid (∀ o, Below w.heap.size w (w.alloc o)) := below1 w
  obtain ⟨ad, cap, rfl, _⟩ := h.len
  clear h
  unfold mkZero at HZ HO
  by_cases h0 : p < 0
  · have HA : Hid (atZ l p = mkZero ∧ hasB l p = false) := ⟨by rw [atZ, if_neg (by omega)], by rw [hasB, decide_eq_false (by omega)]⟩
    go_enter Try.func64, Try.ntmps64
    go_wp2
    exact mark_end2 rfl HZ.out rfl rfl rfl ⟨ret_two HA.out.1.symm HA.out.2.symm, HB.out _⟩
  · by_cases h1 : (l.length : Int) < p
    · have HA : Hid (atZ l p = mkZero ∧ hasB l p = false) := ⟨by rw [atZ, if_neg (by omega)], by rw [hasB, decide_eq_false (by omega)]⟩
      go_enter Try.func64, Try.ntmps64
      go_wp2
      exact mark_end2 rfl HZ.out rfl rfl rfl ⟨ret_two HA.out.1.symm HA.out.2.symm, HB.out _⟩
    · obtain ⟨k, rfl⟩ := Int.eq_ofNat_of_zero_le (show 0 ≤ p by omega)
      cases k with
      | zero =>
        have HA : Hid (atZ l (0 : Nat) = mkStart ∧ hasB l (0 : Nat) = true) := ⟨by rw [atZ, if_pos (by omega)]; rfl, by rw [hasB, decide_eq_true (by omega)]⟩
        go_enter Try.func64, Try.ntmps64
        go_wp2_with fail
        refine (start_any _).mono ?_
        rintro e w1 ⟨rfl, hb⟩
        have HS : Hid _ := (HO.out.after hb).set mkStart
        obtain ⟨⟨_, c0, c1, c2, c3⟩, f0, f1, f2, f3, hbel⟩ := HO.out.after hb
        unfold mkStart at HS ⊢
        have HW : Hid _ := hbel
        clear hb hbel HZ HO
        go_wp2
        exact mark_end2 rfl HS.out.box rfl rfl rfl ⟨ret_two HA.out.1.symm HA.out.2.symm, HS.out.below.1⟩
      | succ k =>
        have hk : k < l.length := by omega
        have HA : Hid (atZ l (k + 1 : Nat) = mkOf l[k] ∧ hasB l (k + 1 : Nat) = true) := ⟨by rw [atZ, if_pos (by omega), Int.toNat_natCast, atM, List.getElem?_eq_getElem hk], by rw [hasB, decide_eq_true (by omega)]⟩
        obtain ⟨b, off, rfl, _, hr⟩ := (HL.out.below (HB.out (mObj ⟨false, 0, 0, 0⟩))).row (by omega)
        obtain ⟨g0, g1, g2, g3, g4, g5, g6⟩ := hr.at_ k hk
        have hkI : (k : Int) < (l.length : Int) := by omega
        generalize l[k] = x at *
        clear hr
        go_enter Try.func64, Try.ntmps64
        go_wp2_with fail
        refine (mkBehind_any x _).mono ?_
        rintro e w1 ⟨rfl, hb⟩
        have HS : Hid _ := (HO.out.after hb).set (mkOf x)
        obtain ⟨⟨_, c0, c1, c2, c3⟩, f0, f1, f2, f3, hbel⟩ := HO.out.after hb
        generalize mkOf x = m at *
        obtain ⟨ms, mb, mn, mk⟩ := m
        have HW : Hid _ := hbel
        clear hb hbel HZ HO g0 g1 g2 g3 g4 g5 g6
        go_wp2
        exact mark_end2 rfl HS.out.box rfl rfl rfl ⟨ret_two HA.out.1.symm HA.out.2.symm, HS.out.below.1⟩

end Go.Proofs.Ytebhbhcjfnohmab
