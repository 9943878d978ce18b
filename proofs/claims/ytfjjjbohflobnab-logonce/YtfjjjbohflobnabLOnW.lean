/-
  The walk of LogOnce.
-/
import Derived.Test.YtfjjjbohflobnabLRun
import Derived.Test.YtfjjjbohflobnabLNth
namespace Go.Proofs.Ytfjjjbohflobnab
open Go.RowKit

/-- Of each writer a number, in memory. -/
structure Four (w : World) (B : Nat) (f : Int → Int) : Prop where
  lt : B < w.heap.size
  c : ∀ j, j < 4 → w.cell? ⟨B, j, none⟩ = some (.int .i64 (f j))
  f : ∀ j, j < 4 → w.frozen? ⟨B, j, none⟩ = false

theorem four_start (w : World) : Four (w.alloc (.cells #[.int .i64 0, .int .i64 0, .int .i64 0, .int .i64 0] 25)) w.heap.size (fun _ => 0) := by
  refine ⟨by simp, fun j hj => ?_, fun j hj => ?_⟩ <;> rcases (show j = 0 ∨ j = 1 ∨ j = 2 ∨ j = 3 by omega) with rfl | rfl | rfl | rfl <;> simp [go_sem]

theorem Four.below {w w' : World} {B : Nat} {f : Int → Int} (h : Four w B f) (hb : Below w.heap.size w w') : Four w' B f := by
  obtain ⟨hc, hf⟩ := bcell hb
  exact ⟨by have := hb.size; have := h.lt; omega, fun j hj => by rw [hc _ _ h.lt]; exact h.c j hj, fun j hj => by rw [hf _ _ h.lt]; exact h.f j hj⟩

theorem Four.set {w : World} {B : Nat} {f : Int → Int} (h : Four w B f) (k : Nat) (x : Int) : Four (w.setCell ⟨B, k, none⟩ (.int .i64 x)) B (setF f k x) := by
  refine ⟨by simpa using h.lt, fun j hj => ?_, fun j hj => ?_⟩
  · have c1 := h.c j hj
    by_cases e : k = j
    · subst e
      simp [go_sem, c1, setF]
    · have e' : ¬ (j : Int) = (k : Int) := by omega
      simp [go_sem, c1, setF, e']
  · simpa [go_sem] using h.f j hj

theorem Four.other {w : World} {B B' o : Nat} {f : Int → Int} (h : Four w B f) (hne : B ≠ B') (u : Value) : Four (w.setCell ⟨B', o, none⟩ u) B f := by
  have hb : (w.setCell ⟨B', o, none⟩ u).heap[B]? = w.heap[B]? := Below.heap_setCell _ _ _ _ hne
  exact ⟨by simpa using h.lt, fun j hj => by rw [World.cell?_of_block (w := w) (a := ⟨B, j, none⟩) hb]; exact h.c j hj, fun j hj => by rw [World.frozen?_of_block (w := w) (a := ⟨B, j, none⟩) hb]; exact h.f j hj⟩

/-- In the middle of the law's second loop. -/
structure OI (w0 : World) (A1 A2 : Nat) (f1 f2 : Int → Int) (wq : World) : Prop where
  below : Below w0.heap.size w0 wq
  lo1 : w0.heap.size ≤ A1
  lo2 : w0.heap.size ≤ A2
  ne : A1 ≠ A2
  one : Four wq A1 f1
  two : Four wq A2 f2

theorem OI.after {w0 wq w' : World} {A1 A2 : Nat} {f1 f2 : Int → Int} (h : OI w0 A1 A2 f1 f2 wq) (hb : Below wq.heap.size wq w') : OI w0 A1 A2 f1 f2 w' := ⟨below_after h.below hb, h.lo1, h.lo2, h.ne, h.one.below hb, h.two.below hb⟩

theorem OI.set {w0 wq : World} {A1 A2 : Nat} {f1 f2 : Int → Int} (h : OI w0 A1 A2 f1 f2 wq) (k : Nat) (x y : Int) : OI w0 A1 A2 (setF f1 k x) (setF f2 k y) ((wq.setCell ⟨A1, k, none⟩ (.int .i64 x)).setCell ⟨A2, k, none⟩ (.int .i64 y)) :=
  ⟨(h.below.setCell (p := ⟨A1, k, none⟩) h.lo1 _).setCell (p := ⟨A2, k, none⟩) h.lo2 _, h.lo1, h.lo2, h.ne, (h.one.set k x).other h.ne _, (h.two.other (Ne.symm h.ne) _).set k y⟩

theorem oi_start (w0 : World) : OI w0 w0.heap.size (w0.heap.size + 1) (lastAt []) (seenAt []) ((w0.alloc (.cells #[.int .i64 0, .int .i64 0, .int .i64 0, .int .i64 0] 25)).alloc (.cells #[.int .i64 0, .int .i64 0, .int .i64 0, .int .i64 0] 25)) := by
  refine ⟨((Below.refl _ _).alloc (Nat.le_refl _) _).alloc (by simp) _, Nat.le_refl _, by omega, by omega, (four_start w0).below ((Below.refl _ _).alloc (Nat.le_refl _) _), ?_⟩
  have h := four_start (w0.alloc (.cells #[.int .i64 0, .int .i64 0, .int .i64 0, .int .i64 0] 25))
  have e : (w0.alloc (.cells #[.int .i64 0, .int .i64 0, .int .i64 0, .int .i64 0] 25)).heap.size = w0.heap.size + 1 := by simp
  rw [e] at h
  exact h

theorem once_facts {b : Bk} (h : Good b) {j : Nat} (hj : j < b.ds.length) :
    wrB b.ds[j].by_ = true ∧ b.ds[j].no = lastAt (b.ds.take j) b.ds[j].by_ + 1 ∧ b.ds[j].seen ≤ j ∧ seenAt (b.ds.take j) b.ds[j].by_ ≤ b.ds[j].seen ∧ 0 ≤ lastAt (b.ds.take j) b.ds[j].by_ ∧ lastAt (b.ds.take j) b.ds[j].by_ ≤ 120 := by
  have e : b.ds[j]? = some b.ds[j] := List.getElem?_eq_getElem hj
  obtain ⟨h1, h2, h3⟩ := h.ok j hj _ e
  have h4 := h.mono j _ e
  have h5 := last_bound j (by omega) (fun i hi => h.ok i (by omega)) b.ds[j].by_
  have := h.small
  exact ⟨h1, h2, h3, h4, h5.1, by omega⟩

theorem lastAt_next {b : Bk} {j : Nat} (hj : j < b.ds.length) : lastAt (b.ds.take (j + 1)) = setF (lastAt (b.ds.take j)) b.ds[j].by_ b.ds[j].no := by
  rw [take_snocD b.ds j hj, lastAt_snoc]
  rfl

theorem seenAt_next {b : Bk} {j : Nat} (hj : j < b.ds.length) : seenAt (b.ds.take (j + 1)) = setF (seenAt (b.ds.take j)) b.ds[j].by_ b.ds[j].seen := by
  rw [take_snocD b.ds j hj, seenAt_snoc]
  rfl

set_option maxRecDepth 20000 in
set_option maxHeartbeats 3200000 in
theorem logOnce_any (v : Value) (xs : List LStep) (w : World) (h : SLst w v xs) (hf : ∀ x ∈ xs, FitX x) :
    Calls Try.prog 6 #[v] w fun e w' => e = .returned (.bool true) ∧ Below w.heap.size w w' := by
  have HD : Hid (SLst w v xs) := h
  have HF : Hid (∀ x ∈ xs, FitX x) := hf
  obtain ⟨a, cap, rfl⟩ := h.len
  clear h hf
  go_enter Try.func6, Try.ntmps6
  go_wp2_with fail
  refine (lbegun_any _).mono ?_
  rintro e w1 ⟨rfl, hb1⟩
  have HB1 : Hid (Below w.heap.size w w1) := hb1
  clear hb1
  go_wp2_with fail
  refine (greatL_any _ xs _ (HD.out.below HB1.out)).mono ?_
  rintro e w2 ⟨gr, rfl, hgr, rfl⟩
  cases gr
  · obtain ⟨hl, _⟩ := hgr rfl
    clear hgr
    go_wp2_with fail
    refine (new_lg _).mono ?_
    rintro e w3 ⟨rfl, rfl⟩
    have HR0 : Hid (RI w w2.heap.size (w2.heap.size + 1) (runTo xs 0) ((w2.alloc (.cells logZero 71)).alloc (.cells bookZero 42))) := ri_start HB1.out
    clear HB1
    go_wp2
    generalize World.alloc _ _ = w4 at *
    generalize w2.heap.size + 1 = B at *
    generalize w2.heap.size = G at *
    go_loopw [5] (fun i wr => ∃ k : Nat, k ≤ xs.length ∧ i = .int .i64 k ∧ Hid (RI w G B (runTo xs k) wr)) (fun i _ => xs.length - (intOf i).toNat)
    case atStart => exact ⟨0, Nat.zero_le _, rfl, HR0⟩
    case round =>
      obtain ⟨k, hk, rfl, HR⟩ := hrel
      clear HR0
      by_cases hlt : k < xs.length
      · have HG : Hid (Good (runTo xs k)) := runTo_good xs k
        have hkl : k < xs.length := hlt
        obtain ⟨bb, off, rfl, hr⟩ := (HD.out.below HR.out.below).row (by omega)
        obtain ⟨_, c0, c1, c2, c3, c4, c5, c6, c7, c8, c9, c10⟩ := hr.at_ k hkl
        have HSU : Hid (runTo xs (k + 1) = stepB (runTo xs k) xs[k]) := runTo_succ hkl
        have HFX : Hid (FitX xs[k]) := HF.out _ (List.getElem_mem hkl)
        generalize xs[k] = x at c0 c1 c2 c3 c4 c5 c6 c7 c8 c9 c10 HSU HFX
        clear hr
        obtain ⟨do_, w_, n_, ⟨kind, by_, no, seen, at_, many, text⟩, right⟩ := x
        simp only at c0 c1 c2 c3 c4 c5 c6 c7 c8 c9 c10
        go_wp2_with fail
        clear c0 c1 c2 c3 c4 c5 c6 c7 c8 c9 c10
        refine (step_any HR.out.duo HG.out ⟨do_, w_, n_, ⟨kind, by_, no, seen, at_, many, text⟩, right⟩ HFX.out).mono ?_
        rintro e w7 ⟨rfl, hst⟩
        rw [← HSU.out] at hst
        have HR7 : Hid (RI w G B (runTo xs (k + 1)) w7) := HR.out.stepped hst
        clear hst HR HSU HFX HG
        go_wp2
        go_roundw
        case rel => exact ⟨k + 1, by omega, by go_num, HR7⟩
        case measure => simp [intOf]; omega
      · have HG : Hid (Good (runTo xs k)) := runTo_good xs k
        generalize runTo xs k = b1 at *
        clear HF HD
        go_wp2
        clear hlt hk
        have HO0 : Hid (OI wr wr.heap.size (wr.heap.size + 1) (lastAt (b1.ds.take 0)) (seenAt (b1.ds.take 0)) ((wr.alloc (.cells #[.int .i64 0, .int .i64 0, .int .i64 0, .int .i64 0] 25)).alloc (.cells #[.int .i64 0, .int .i64 0, .int .i64 0, .int .i64 0] 25))) := oi_start wr
        generalize World.alloc _ _ = wq0 at *
        generalize hA2 : wr.heap.size + 1 = A2 at *
        generalize hA1 : wr.heap.size = A1 at *
        clear hA1 hA2
        go_loopw [8] (fun n wq => ∃ j : Nat, j ≤ b1.ds.length ∧ n = .int .i64 ((j : Int) + 1) ∧ Hid (OI wr A1 A2 (lastAt (b1.ds.take j)) (seenAt (b1.ds.take j)) wq)) (fun n _ => b1.ds.length + 1 - (intOf n).toNat)
        case atStart => exact ⟨0, Nat.zero_le _, rfl, HO0⟩
        case round =>
          obtain ⟨j, hj, rfl, HO⟩ := hrel
          clear HO0
          have hsm := HG.out.small
          by_cases hlt : j < b1.ds.length
          · obtain ⟨h1, h2⟩ := nth_at hlt
            have H1 : Hid (nthD b1 ((j : Int) + 1) = b1.ds[j]) := h1
            have H2 : Hid (isD b1 ((j : Int) + 1) = true) := h2
            obtain ⟨q1, q2, q3, q4, q5, q6⟩ := once_facts HG.out hlt
            have HL : Hid (lastAt (b1.ds.take (j + 1)) = _) := lastAt_next hlt
            have HS : Hid (seenAt (b1.ds.take (j + 1)) = _) := seenAt_next hlt
            generalize b1.ds[j] = d at *
            clear h1 h2
            obtain ⟨kind, by_, no, seen, at_, many, text⟩ := d
            simp only at q1 q2 q3 q4 q5 q6 HL HS
            obtain ⟨i, rfl, hi⟩ := wr_nat q1
            have hi4 : (i : Int) < 4 := by omega
            have Q2 : Hid (no = lastAt (b1.ds.take j) (i : Int) + 1) := q2
            clear q2
            go_wp2_with (first | (go_at_call 21; refine (duo_len (HR.out.after HO.out.below).duo).mono ?_; rintro e wx ⟨rfl, rfl⟩) | (go_at_call 24; refine (duo_deed (HR.out.after HO.out.below).duo HG.out _).mono ?_; rintro e wy ⟨rfl, hby⟩; rw [H1.out, H2.out]; have HOy : Hid (OI wr A1 A2 (lastAt (b1.ds.take j)) (seenAt (b1.ds.take j)) (wy.alloc (dObj ⟨kind, (i : Int), no, seen, at_, many, text⟩))) := (HO.out.after hby).after ((Below.refl _ _).alloc (Nat.le_refl _) _); have HDy : Hid (DdAt (wy.alloc (dObj ⟨kind, (i : Int), no, seen, at_, many, text⟩)) wy.heap.size 0 ⟨kind, (i : Int), no, seen, at_, many, text⟩) := ddat_start wy ⟨kind, (i : Int), no, seen, at_, many, text⟩; have hAlt1 : A1 < wy.heap.size := (HO.out.one.below hby).lt; have hAlt2 : A2 < wy.heap.size := (HO.out.two.below hby).lt; clear hby))
            unfold dObj at HOy HDy
            generalize World.alloc _ _ = w5 at *
            generalize wy.heap.size = E at *
            obtain ⟨_, c0, c1, c2, c3, c4, c5, c6⟩ := HDy.out
            simp only [Nat.zero_add] at c0 c1 c2 c3 c4 c5 c6
            have l1 := HOy.out.one.c i hi
            have f1 := HOy.out.one.f i hi
            have l2 := HOy.out.two.c i hi
            have f2 := HOy.out.two.f i hi
            have hn1 : ¬ A1 = A2 := HOy.out.ne
            have hn2 : ¬ A2 = A1 := fun e => hn1 e.symm
            have hE1 : ¬ A1 = E := by omega
            have hE2 : ¬ A2 = E := by omega
            have hE3 : ¬ E = A1 := by omega
            have hE4 : ¬ E = A2 := by omega
            have HSET : Hid (∀ wz, OI wr A1 A2 (lastAt (b1.ds.take j)) (seenAt (b1.ds.take j)) wz → OI wr A1 A2 (lastAt (b1.ds.take (j + 1))) (seenAt (b1.ds.take (j + 1))) ((wz.setCell ⟨A1, i, none⟩ (.int .i64 no)).setCell ⟨A2, i, none⟩ (.int .i64 seen))) := fun wz hz => by rw [HL.out, HS.out]; exact hz.set i no seen
            generalize lastAt (b1.ds.take j) (i : Int) = lm at *
            generalize seenAt (b1.ds.take j) (i : Int) = sm at *
            have e1 : (no != lm + 1) = false := by have := Q2.out; simp; exact this
            have e2 : decide ((j : Int) + 1 ≤ seen) = false := decide_eq_false (by omega)
            have e3 : decide (seen < sm) = false := decide_eq_false (by omega)
            clear q3 q4
            go_quiet ((go_at_call 12; exact Calls.quiet_of_same (isWriter_any _ _)))
            go_wp2
            have HO6 : Hid (OI wr A1 A2 (lastAt (b1.ds.take j)) (seenAt (b1.ds.take j)) (w5.drewN nq)) := HOy.out.after (below_drewN (Below.refl _ _) _)
            go_region
            all_goals
              go_wp2
              go_roundw
              case rel => exact ⟨j + 1, by omega, by go_num, (HSET.out _ HO6.out).after (Below.refl _ _).drew⟩
              case measure => simp [intOf]; omega
          · go_wp2_with (go_at_call 21; refine (duo_len (HR.out.after HO.out.below).duo).mono ?_; rintro e wx ⟨rfl, rfl⟩)
            go_ret
            exact ⟨rfl, (HR.out.after HO.out.below).below⟩
  · go_wp2
    go_ret
    exact ⟨rfl, HB1.out⟩

/-- THE LAW. -/
theorem law_logonce (w : World) {v : Value} {xs : List LStep} (h : SLst w v xs) (hf : ∀ x ∈ xs, FitX x) :
    Calls Try.prog 6 #[v] w fun e w' => e = .returned (.bool true) ∧ Below w.heap.size w w' := logOnce_any v xs w h hf

end Go.Proofs.Ytfjjjbohflobnab
