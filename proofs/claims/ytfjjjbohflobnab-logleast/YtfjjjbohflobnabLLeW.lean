/-
  The walk of LogLeast.
-/
import Derived.Test.YtfjjjbohflobnabLRun
namespace Go.Proofs.Ytfjjjbohflobnab
open Go.RowKit

theorem nth_longer {b : Bk} {x : LStep} {d : Dd} (h : (stepB b x).ds = b.ds ++ [d]) : nthD (stepB b x) ((b.ds.length : Int) + 1) = d ∧ isD (stepB b x) ((b.ds.length : Int) + 1) = true := by
  have hl : (stepB b x).len = (b.ds.length : Int) + 1 := by
    show ((stepB b x).ds.length : Int) = _
    rw [h, List.length_append]
    rfl
  refine ⟨?_, by rw [isD, hl]; exact decide_eq_true (by omega)⟩
  rw [nthD, hl, if_pos (by omega), h, show ((b.ds.length : Int) + 1 - 1).toNat = b.ds.length by omega]
  simp

set_option maxRecDepth 20000 in
set_option maxHeartbeats 3200000 in
theorem logLeast_any (v : Value) (xs : List LStep) (w : World) (h : SLst w v xs) (hf : ∀ x ∈ xs, FitX x) :
    Calls Try.prog 7 #[v] w fun e w' => e = .returned (.bool true) ∧ Below w.heap.size w w' := by
  have HD : Hid (SLst w v xs) := h
  have HF : Hid (∀ x ∈ xs, FitX x) := hf
  obtain ⟨a, cap, rfl⟩ := h.len
  clear h hf
  go_enter Try.func7, Try.ntmps7
  go_wp2_with fail
  refine (lbegun_any _).mono ?_
  rintro e w1 ⟨rfl, hb1⟩
  have HB1 : Hid (Below w.heap.size w w1) := hb1
  clear hb1
  go_wp2_with fail
  refine (greatL_any _ xs _ (HD.out.below HB1.out)).mono ?_
  rintro e w2 ⟨gr, rfl, hgr, rfl⟩
  cases gr
  · obtain ⟨hl, _⟩ := hgr rfl
    clear hgr
    go_wp2_with fail
    refine (new_lg _).mono ?_
    rintro e w3 ⟨rfl, rfl⟩
    have HR0 : Hid (RI w w2.heap.size (w2.heap.size + 1) (runTo xs 0) ((w2.alloc (.cells logZero 71)).alloc (.cells bookZero 42))) := ri_start HB1.out
    clear HB1
    go_wp2
    generalize World.alloc _ _ = w4 at *
    generalize w2.heap.size + 1 = B at *
    generalize w2.heap.size = G at *
    go_loopw [5] (fun i wr => ∃ k : Nat, k ≤ xs.length ∧ i = .int .i64 k ∧ Hid (RI w G B (runTo xs k) wr)) (fun i _ => xs.length - (intOf i).toNat)
    case atStart => exact ⟨0, Nat.zero_le _, rfl, HR0⟩
    case round =>
      obtain ⟨k, hk, rfl, HR⟩ := hrel
      clear HR0
      have HG : Hid (Good (runTo xs k)) := runTo_good xs k
      have hsm := runTo_small xs k
      by_cases hlt : k < xs.length
      · go_wp2_with fail
        refine (duo_least HR.out.duo HG.out).mono ?_
        rintro e w5 ⟨rfl, hb5⟩
        have HR5 : Hid (RI w G B (runTo xs k) w5) := HR.out.after hb5
        clear hb5 HR
        go_wp2_with fail
        refine (duo_len HR5.out.duo).mono ?_
        rintro e w6 ⟨rfl, rfl⟩
        have hkl : k < xs.length := hlt
        obtain ⟨bb, off, rfl, hr⟩ := (HD.out.below HR5.out.below).row (by omega)
        obtain ⟨_, c0, c1, c2, c3, c4, c5, c6, c7, c8, c9, c10⟩ := hr.at_ k hkl
        have HSU : Hid (runTo xs (k + 1) = stepB (runTo xs k) xs[k]) := runTo_succ hkl
        have HFX : Hid (FitX xs[k]) := HF.out _ (List.getElem_mem hkl)
        generalize xs[k] = x at c0 c1 c2 c3 c4 c5 c6 c7 c8 c9 c10 HSU HFX
        clear hr
        have HG1 : Hid (Good (runTo xs (k + 1))) := runTo_good xs (k + 1)
        have hsm1 := runTo_small xs (k + 1)
        have hle : leastL (runTo xs k) ≤ leastL (runTo xs (k + 1)) := by rw [HSU.out]; exact least_step _ _
        have hll : leastL (runTo xs (k + 1)) ≤ ((runTo xs (k + 1)).ds.length : Int) := least_len _
        have HLO : Hid ((runTo xs k).ds.length < (runTo xs (k + 1)).ds.length → ∃ d, nthD (runTo xs (k + 1)) (((runTo xs k).ds.length : Int) + 1) = d ∧ isD (runTo xs (k + 1)) (((runTo xs k).ds.length : Int) + 1) = true ∧ leastL (runTo xs k) ≤ d.seen) := fun h => by
          rw [HSU.out] at h ⊢
          obtain ⟨d, h1, h2⟩ := longer_step h
          obtain ⟨h3, h4⟩ := nth_longer h1
          exact ⟨d, h3, h4, h2⟩
        obtain ⟨do_, w_, n_, ⟨kind, by_, no, seen, at_, many, text⟩, right⟩ := x
        simp only at c0 c1 c2 c3 c4 c5 c6 c7 c8 c9 c10
        go_wp2_with fail
        clear c0 c1 c2 c3 c4 c5 c6 c7 c8 c9 c10
        refine (step_any HR5.out.duo HG.out ⟨do_, w_, n_, ⟨kind, by_, no, seen, at_, many, text⟩, right⟩ HFX.out).mono ?_
        rintro e w7 ⟨rfl, hst⟩
        rw [← HSU.out] at hst
        have HR7 : Hid (RI w G B (runTo xs (k + 1)) w7) := HR5.out.stepped hst
        clear hst HR5 HSU HFX HG
        generalize hbe : runTo xs (k + 1) = b1 at *
        have HBE : Hid (runTo xs (k + 1) = b1) := hbe
        clear hbe
        generalize runTo xs k = b0 at *
        generalize leastL b0 = l0 at *
        generalize hL1 : leastL b1 = l1 at *
        have HL1 : Hid (leastL b1 = l1) := hL1
        clear hL1
        go_wp2_with fail
        refine (duo_least HR7.out.duo HG1.out).mono ?_
        rintro e w8 ⟨rfl, hb8⟩
        rw [HL1.out]
        have HR8 : Hid (RI w G B b1 w8) := HR7.out.after hb8
        clear hb8 HR7
        go_wp2_with fail
        refine (duo_least HR8.out.duo HG1.out).mono ?_
        rintro e w9 ⟨rfl, hb9⟩
        rw [HL1.out]
        have HR9 : Hid (RI w G B b1 w9) := HR8.out.after hb9
        clear hb9 HR8
        by_cases hlo : b0.ds.length < b1.ds.length
        · obtain ⟨d, h1, h2, h3⟩ := HLO.out hlo
          have H1 : Hid (nthD b1 ((b0.ds.length : Int) + 1) = d) := h1
          have H2 : Hid (isD b1 ((b0.ds.length : Int) + 1) = true) := h2
          obtain ⟨kind, by_, no, seen, at_, many, text⟩ := d
          simp only at h3
          clear h1 h2 HLO
          go_wp2_with (first | (go_at_call 21; refine (duo_len HR9.out.duo).mono ?_; rintro e wx ⟨rfl, rfl⟩) | (go_at_call 24; refine (duo_deed HR9.out.duo HG1.out _).mono ?_; rintro e wy ⟨rfl, hby⟩; rw [H1.out, H2.out]; have HRy : Hid (RI w G B b1 wy) := HR9.out.after hby; clear hby))
          go_roundw
          case rel => exact ⟨k + 1, by omega, by go_num, by rw [HBE.out]; exact HRy.out.after ((Below.refl _ _).alloc (Nat.le_refl _) _)⟩
          case measure => simp [intOf]; omega
        · go_wp2_with (go_at_call 21; refine (duo_len HR9.out.duo).mono ?_; rintro e wx ⟨rfl, rfl⟩)
          go_roundw
          case rel => exact ⟨k + 1, by omega, by go_num, by rw [HBE.out]; exact HR9⟩
          case measure => simp [intOf]; omega
      · go_wp2
        go_ret
        exact ⟨rfl, HR.out.below⟩
  · go_wp2
    go_ret
    exact ⟨rfl, HB1.out⟩

/-- THE LAW. -/
theorem law_logleast (w : World) {v : Value} {xs : List LStep} (h : SLst w v xs) (hf : ∀ x ∈ xs, FitX x) :
    Calls Try.prog 7 #[v] w fun e w' => e = .returned (.bool true) ∧ Below w.heap.size w w' := logLeast_any v xs w h hf

end Go.Proofs.Ytfjjjbohflobnab
