/-
  The walk of LogRefuses.
-/
import Derived.Test.YtfjjjbohflobnabLRun
import Derived.Test.YtfjjjbohflobnabLNth
namespace Go.Proofs.Ytfjjjbohflobnab
open Go.RowKit

theorem Lst.of_block {w w' : World} {v : Value} {l : List Ch} (h : Lst w v l) (hs : w.heap.size ≤ w'.heap.size) (hb : ∀ k, v.ownBlock = some k → w'.heap[k]? = w.heap[k]?) : Lst w' v l := by
  obtain ⟨a, len, cap, rfl, h1, h2, h3⟩ := h
  refine ⟨a, len, cap, rfl, h1, h2, ?_⟩
  rcases h3 with h3 | ⟨b, off, rfl, hr⟩
  · exact .inl h3
  · refine .inr ⟨b, off, rfl, ⟨Nat.lt_of_lt_of_le hr.lt hs, fun i hi => ?_⟩⟩
    have hc : ∀ o, w'.cell? ⟨b, o, none⟩ = w.cell? ⟨b, o, none⟩ := fun o => World.cell?_of_block (a := ⟨b, o, none⟩) (hb b rfl)
    have := hr.at_ i hi
    unfold At at this ⊢
    simp only [hc]
    exact this

/-- Who is there, in memory. -/
structure Hers (w : World) (H : Nat) (b : Bk) : Prop where
  lt : H < w.heap.size
  c : ∀ j, j < 4 → w.cell? ⟨H, j, none⟩ = some (.bool (b.isHere j))

theorem hers_start (w : World) (b : Bk) : Hers (w.alloc (.cells #[.bool (b.isHere 0), .bool (b.isHere 1), .bool (b.isHere 2), .bool (b.isHere 3)] 40)) w.heap.size b := by
  refine ⟨by simp, fun j hj => ?_⟩
  rcases (show j = 0 ∨ j = 1 ∨ j = 2 ∨ j = 3 by omega) with rfl | rfl | rfl | rfl <;> simp [go_sem]

theorem Hers.of_block {w w' : World} {H : Nat} {b : Bk} (h : Hers w H b) (hs : w.heap.size ≤ w'.heap.size) (hb : w'.heap[H]? = w.heap[H]?) : Hers w' H b :=
  ⟨Nat.lt_of_lt_of_le h.lt hs, fun j hj => by rw [World.cell?_of_block (w := w) (a := ⟨H, j, none⟩) hb]; exact h.c j hj⟩

/-- Behind what was refused: all is as it was. -/
structure RE (w : World) (G B H : Nat) (b : Bk) (va : Value) (wk : World) : Prop where
  ri : RI w G B b wk
  hers : Hers wk H b
  was : Lst wk va b.chars

theorem RE.after {w wk w' : World} {G B H : Nat} {b : Bk} {va : Value} (h : RE w G B H b va wk) (hb : Below wk.heap.size wk w') : RE w G B H b va w' :=
  ⟨h.ri.after hb, h.hers.of_block hb.size (hb.block _ h.hers.lt), h.was.below hb⟩

/-- Ahead of the step: what is asked of behind it. -/
theorem re_step {w wr wk : World} {G B H : Nat} {b : Bk} {va : Value} (hr : RI w G B b wr) (hb : Below wr.heap.size wr wk) (hh : Hers wk H b) (hH : wr.heap.size ≤ H) (ho : Own wk wr.heap.size va b.chars) :
    ∃ LL dv lv, LogAt wk w.heap.size LL G dv lv b ∧ ∀ g' w', LogTo wk w.heap.size LL G g' w' → Below w.heap.size w w' ∧ (g' = b → RE w G B H b va w') := by
  have hd : Duo w.heap.size G B (fun k => wr.heap.size ≤ k ∧ k < wk.heap.size) b b wk := hr.duo.add hb (fun k e => .inr e)
  obtain ⟨LL, dv, lv, hL, hs⟩ := hd.log
  refine ⟨LL, dv, lv, hL, fun g' w' ht => ?_⟩
  obtain ⟨h1, h2, h3⟩ := hs g' w' ht
  have hbel : Below w.heap.size w w' := (below_after hr.below hb).trans h3
  refine ⟨hbel, fun e => ?_⟩
  subst e
  obtain ⟨LL', LB', d1, d2, d3, q1, q2, q3, q4⟩ := h1
  exact ⟨⟨⟨LL', LB', d1, d2, d3, q1, q2, q3, fun k e => e.elim⟩, hbel⟩, hh.of_block h3.size (h2 _ ⟨hH, hh.lt⟩), ho.lst.of_block h3.size (fun k e => h2 k ⟨(World.ownsRow.lt ho k e).1, (World.ownsRow.lt ho k e).2⟩)⟩

set_option maxRecDepth 20000 in
set_option maxHeartbeats 6400000 in
theorem logRefuses_any (v : Value) (xs : List LStep) (x : LStep) (w00 : World) (h : SLst w00 v xs) (hf : ∀ x ∈ xs, FitX x) :
    Calls Try.prog 8 #[v, lsV x] w00 fun e w' => e = .returned (.bool true) ∧ Below w00.heap.size w00 w' := by
  have HD0 : Hid (SLst (w00.alloc (.cells (lsCells x) 45)) v xs) := h.below ((Below.refl _ _).alloc (Nat.le_refl _) _)
  have HF : Hid (∀ x ∈ xs, FitX x) := hf
  have HX0 : Hid (LsAt (w00.alloc (.cells (lsCells x) 45)) w00.heap.size 0 x) := lsat_start w00 x
  have HW0 : Hid (∀ wk, Below (w00.alloc (.cells (lsCells x) 45)).heap.size (w00.alloc (.cells (lsCells x) 45)) wk → Below w00.heap.size w00 wk) := fun wk hb => below_after ((Below.refl _ _).alloc (Nat.le_refl _) _) hb
  obtain ⟨a, cap, rfl⟩ := h.len
  clear h hf
  obtain ⟨do_, w_, n_, ⟨kind, by_, no, seen, at_, many, text⟩, right⟩ := x
  go_enter Try.func8, Try.ntmps8
  go_wp2_with fail
  unfold lsCells at HD0 HX0 HW0
  generalize World.alloc _ _ = w at *
  have HD := HD0
  refine (lbegun_any _).mono ?_
  rintro e w1 ⟨rfl, hb1⟩
  have HB1 : Hid (Below w.heap.size w w1) := hb1
  clear hb1 HD0
  go_wp2_with fail
  refine (greatL_any _ xs _ (HD.out.below HB1.out)).mono ?_
  rintro e w2 ⟨gr, rfl, hgr, rfl⟩
  cases gr
  · obtain ⟨hl, _⟩ := hgr rfl
    clear hgr
    obtain ⟨_, x0, x1, x2, x3, x4, x5, x6, x7, x8, x9, x10⟩ := HX0.out.below HB1.out
    simp only [Nat.zero_add] at x0 x1 x2 x3 x4 x5 x6 x7 x8 x9 x10
    by_cases htx : 100 < text.size
    · go_wp2
      go_ret
      exact ⟨rfl, HW0.out _ HB1.out⟩
    go_wp2_with fail
    refine (new_lg _).mono ?_
    rintro e w3 ⟨rfl, rfl⟩
    have HR0 : Hid (RI w w2.heap.size (w2.heap.size + 1) (runTo xs 0) ((w2.alloc (.cells logZero 71)).alloc (.cells bookZero 42))) := ri_start HB1.out
    clear HB1 x0 x1 x2 x3 x4 x5 x6 x7 x8 x9 x10
    go_wp2
    generalize World.alloc _ _ = w4 at *
    generalize w2.heap.size + 1 = B at *
    generalize w2.heap.size = G at *
    go_loopw [7] (fun i wr => ∃ k : Nat, k ≤ xs.length ∧ i = .int .i64 k ∧ Hid (RI w G B (runTo xs k) wr)) (fun i _ => xs.length - (intOf i).toNat)
    case atStart => exact ⟨0, Nat.zero_le _, rfl, HR0⟩
    case round =>
      obtain ⟨k, hk, rfl, HR⟩ := hrel
      clear HR0
      by_cases hlt : k < xs.length
      · have HG : Hid (Good (runTo xs k)) := runTo_good xs k
        have hkl : k < xs.length := hlt
        obtain ⟨bb, off, rfl, hr⟩ := (HD.out.below HR.out.below).row (by omega)
        obtain ⟨_, c0, c1, c2, c3, c4, c5, c6, c7, c8, c9, c10⟩ := hr.at_ k hkl
        have HSU : Hid (runTo xs (k + 1) = stepB (runTo xs k) xs[k]) := runTo_succ hkl
        have HFX : Hid (FitX xs[k]) := HF.out _ (List.getElem_mem hkl)
        generalize xs[k] = x at c0 c1 c2 c3 c4 c5 c6 c7 c8 c9 c10 HSU HFX
        clear hr
        obtain ⟨do_, w_, n_, ⟨kind, by_, no, seen, at_, many, text⟩, right⟩ := x
        simp only at c0 c1 c2 c3 c4 c5 c6 c7 c8 c9 c10
        go_wp2_with fail
        clear c0 c1 c2 c3 c4 c5 c6 c7 c8 c9 c10
        refine (step_any HR.out.duo HG.out ⟨do_, w_, n_, ⟨kind, by_, no, seen, at_, many, text⟩, right⟩ HFX.out).mono ?_
        rintro e w7 ⟨rfl, hst⟩
        rw [← HSU.out] at hst
        have HR7 : Hid (RI w G B (runTo xs (k + 1)) w7) := HR.out.stepped hst
        clear hst HR HSU HFX HG
        go_wp2
        go_roundw
        case rel => exact ⟨k + 1, by omega, by go_num, HR7⟩
        case measure => simp [intOf]; omega
      · have HG : Hid (Good (runTo xs k)) := runTo_good xs k
        generalize runTo xs k = b1 at *
        clear HF HD
        go_wp2_with fail
        clear hlt hk
        refine (duo_len HR.out.duo).mono ?_
        rintro e wx ⟨rfl, rfl⟩
        go_wp2_with fail
        refine (duo_least HR.out.duo HG.out).mono ?_
        rintro e w5 ⟨rfl, hb5⟩
        generalize hls : leastL b1 = ls at *
        have HLS : Hid (leastL b1 = ls) := hls
        clear hls
        have HR5 : Hid (RI w G B b1 w5) := HR.out.after hb5
        have HB5 : Hid (Below wx.heap.size wx w5) := hb5
        clear hb5
        go_wp2_with fail
        refine (duo_chars HR5.out.duo).mono ?_
        rintro e w6 ⟨vw, rfl, ho6, hb6⟩
        have HR6 : Hid (RI w G B b1 w6) := HR5.out.after hb6
        have HB6 : Hid (Below wx.heap.size wx w6) := below_after HB5.out hb6
        have HV6 : Hid (Own w6 wx.heap.size vw b1.chars) := ho6.mono HB5.out.size
        have HCS : Hid (b1.chars.length ≤ 1000) := by have := small_chars (b := b1); show _ ≤ _; omega
        have HRH : Hid (∀ o, RI w G B b1 (w6.alloc o)) := fun o => HR6.out.after ((Below.refl _ _).alloc (Nat.le_refl _) _)
        obtain ⟨aw, capw, rfl, _⟩ := HV6.out.lst.len
        clear hb6 ho6 HR5 HB5
        go_wp2
        refine wp_loop_rounds 5 ?_
        rw [rounds_succ]
        go_wp2_with (go_at_call 22; refine (duo_here (HRH.out _).duo _).mono ?_; rintro e wh0 ⟨rfl, rfl⟩)
        rw [rounds_succ]
        go_wp2_with (go_at_call 22; refine (duo_here (HRH.out _).duo _).mono ?_; rintro e wh1 ⟨rfl, rfl⟩)
        rw [rounds_succ]
        go_wp2_with (go_at_call 22; refine (duo_here (HRH.out _).duo _).mono ?_; rintro e wh2 ⟨rfl, rfl⟩)
        rw [rounds_succ]
        go_wp2_with (go_at_call 22; refine (duo_here (HRH.out _).duo _).mono ?_; rintro e wh3 ⟨rfl, rfl⟩)
        rw [rounds_succ]
        have HH8 : Hid (Hers (w6.alloc (.cells #[.bool (b1.isHere 0), .bool (b1.isHere 1), .bool (b1.isHere 2), .bool (b1.isHere 3)] 40)) w6.heap.size b1) := hers_start w6 b1
        have HB8 : Hid (Below wx.heap.size wx (w6.alloc (.cells #[.bool (b1.isHere 0), .bool (b1.isHere 1), .bool (b1.isHere 2), .bool (b1.isHere 3)] 40))) := HB6.out.alloc HB6.out.size _
        have HV8 : Hid (Own (w6.alloc (.cells #[.bool (b1.isHere 0), .bool (b1.isHere 1), .bool (b1.isHere 2), .bool (b1.isHere 3)] 40)) wx.heap.size (.slice aw b1.chars.length capw) b1.chars) := HV6.out.below ((Below.refl _ _).alloc (Nat.le_refl _) _)
        have HHlo : Hid (wx.heap.size ≤ w6.heap.size) := HB6.out.size
        have HX8 : Hid (LsAt (w6.alloc (.cells #[.bool (b1.isHere 0), .bool (b1.isHere 1), .bool (b1.isHere 2), .bool (b1.isHere 3)] 40)) w00.heap.size 0 ⟨do_, w_, n_, ⟨kind, by_, no, seen, at_, many, text⟩, right⟩) := HX0.out.below (HRH.out _).below
        generalize World.alloc _ _ = w8 at *
        generalize w6.heap.size = H at *
        clear HB6 HV6 HRH HR6
        obtain ⟨_, x0, x1, x2, x3, x4, x5, x6, x7, x8, x9, x10⟩ := HX8.out
        simp only [Nat.zero_add] at x0 x1 x2 x3 x4 x5 x6 x7 x8 x9 x10
        by_cases d0 : do_ = 0
        · have e0 : (do_ == 0) = true := by simp [d0]
          clear d0
          go_wp2_with fail
          obtain ⟨LL, dv, lv, hL, hs⟩ := re_step HR.out HB8.out HH8.out HHlo.out HV8.out
          refine (join_lg hL HG.out w_).mono ?_
          rintro e w9 ⟨rfl, hto⟩
          obtain ⟨hbl, hre⟩ := hs _ _ hto
          have HBL : Hid (Below w.heap.size w w9) := hbl
          have HRE : Hid (joinC b1 w_ ≠ 0 → RE w G B H b1 (.slice aw b1.chars.length capw) w9) := fun hc => hre (join_no hc)
          clear hL hs hto hbl hre x0 x1 x2 x3 x4 x5 x6 x7 x8 x9 x10
          generalize joinC b1 w_ = cc at *
          generalize joinN b1 w_ = jn at *
          by_cases hc : cc = 0
          · have hc' : (cc == 0) = true := by simp [hc]
            clear hc
            go_wp2
            go_ret
            exact ⟨rfl, HW0.out _ HBL.out⟩
          · have HE9 : Hid (RE w G B H b1 (.slice aw b1.chars.length capw) w9) := HRE.out hc
            have hc' : (cc == 0) = false := by simp [hc]
            clear hc HRE HBL
            go_wp2
            go_loopw [14] (fun i wq => ∃ j : Nat, j ≤ 4 ∧ i = .int .i64 j ∧ Hid (RE w G B H b1 (.slice aw b1.chars.length capw) wq)) (fun i _ => 4 - (intOf i).toNat)
            case atStart => exact ⟨0, by omega, rfl, HE9⟩
            case round =>
              obtain ⟨j, hj, rfl, HE⟩ := hrel
              clear HE9
              by_cases hlt : j < 4
              · have hc := HE.out.hers.c j hlt
                have hlt4 : (j : Int) < 4 := by omega
                have hHl := HE.out.hers.lt
                generalize hhb : b1.isHere j = hb at *
                have HHB : Hid (b1.isHere j = hb) := hhb
                clear hhb
                have hbb : (hb != hb) = false := by simp
                go_wp2
                refine wp_region_quiet (C := fun wk => RE w G B H b1 (.slice aw b1.chars.length capw) wk) (by kernel_rfl) (by kernel_rfl) (HE.out.after (Below.refl _ _).drew) ?_
                refine wpQuiet_step (fun K hK => ?_)
                go_simp
                refine ⟨_, fun _ _ => rfl, hK _ ?_⟩
                clear hK K
                refine wpQuiet_step (fun K hK => ?_)
                go_simp
                refine ⟨.pointer (some ⟨H, j, none⟩), fun wk hwk => ?_, hK _ ?_⟩
                · go_simp
                clear hK K
                refine wpQuiet_step (fun K hK => ?_)
                go_simp
                refine ⟨.bool hb, fun wk hwk => ?_, hK _ ?_⟩
                · have hc := hwk.hers.c j hlt
                  rw [HHB.out] at hc
                  go_simp
                clear hK K
                refine wpQuiet_step (fun K hK => ?_)
                go_simp
                refine ⟨_, fun _ _ => rfl, hK _ ?_⟩
                clear hK K
                refine wpQuiet_step (fun K hK => ?_)
                go_simp
                refine ⟨_, fun _ _ => rfl, hK _ ?_⟩
                clear hK K
                refine wpQuiet_step (fun K hK => ?_)
                go_simp
                refine ⟨.bool hb, fun wk hwk => (duo_here hwk.ri.duo _).mono (fun _ _ ⟨he, hw⟩ => by subst hw; exact ⟨by rw [he, HHB.out], hwk⟩), hK _ ?_⟩
                clear hK K
                refine wpQuiet_step (fun K hK => ?_)
                go_simp
                refine ⟨.bool false, fun wk hwk => ?_, hK _ ?_⟩
                · go_simp
                clear hK K
                refine wpQuiet_nil ?_
                intro w9 hw9
                have HE9 : Hid (RE w G B H b1 (.slice aw b1.chars.length capw) w9) := hw9
                clear hw9
                go_wp2
                go_roundw
                case rel => exact ⟨j + 1, by omega, by go_num, HE9⟩
                case measure => simp [intOf]; omega
              · have HL1 : Hid (leastL b1 = ls) := HLS.out
                go_wp2_with fail
                refine (duo_len HE.out.ri.duo).mono ?_
                rintro e wx ⟨rfl, rfl⟩
                go_wp2_with fail
                refine (duo_least HE.out.ri.duo HG.out).mono ?_
                rintro e wy ⟨rfl, hby⟩
                rw [HL1.out]
                have HEy : Hid (RE w G B H b1 (.slice aw b1.chars.length capw) wy) := HE.out.after hby
                clear hby HE
                go_wp2_with fail
                refine (duo_chars HEy.out.ri.duo).mono ?_
                rintro e wz ⟨vz, rfl, hoz, hbz⟩
                have HEz : Hid (RE w G B H b1 (.slice aw b1.chars.length capw) wz) := HEy.out.after hbz
                have HOz : Hid (Lst wz vz b1.chars) := hoz.lst
                clear hbz hoz HEy
                go_wp2_with fail
                refine (same_eq HEz.out.was HOz.out HCS.out).mono ?_
                rintro e wf ⟨rfl, hbf⟩
                have HBF : Hid (Below w.heap.size w wf) := (HEz.out.after hbf).ri.below
                clear hbf HEz HOz
                go_wp2
                go_ret
                exact ⟨rfl, HW0.out _ HBF.out⟩
        have e0 : (do_ == 0) = false := by simp [d0]
        clear d0
        by_cases d1 : do_ = 1
        · have e1 : (do_ == 1) = true := by simp [d1]
          clear d1
          go_wp2_with fail
          obtain ⟨LL, dv, lv, hL, hs⟩ := re_step HR.out HB8.out HH8.out HHlo.out HV8.out
          refine (leave_lg hL w_).mono ?_
          rintro e w9 ⟨rfl, hto⟩
          obtain ⟨hbl, hre⟩ := hs _ _ hto
          have HBL : Hid (Below w.heap.size w w9) := hbl
          have HRE : Hid (leaveC b1 w_ ≠ 0 → RE w G B H b1 (.slice aw b1.chars.length capw) w9) := fun hc => hre (leave_no hc)
          clear hL hs hto hbl hre x0 x1 x2 x3 x4 x5 x6 x7 x8 x9 x10
          generalize leaveC b1 w_ = cc at *
          by_cases hc : cc = 0
          · have hc' : (cc == 0) = true := by simp [hc]
            clear hc
            go_wp2
            go_ret
            exact ⟨rfl, HW0.out _ HBL.out⟩
          · have HE9 : Hid (RE w G B H b1 (.slice aw b1.chars.length capw) w9) := HRE.out hc
            have hc' : (cc == 0) = false := by simp [hc]
            clear hc HRE HBL
            go_wp2
            go_loopw [14] (fun i wq => ∃ j : Nat, j ≤ 4 ∧ i = .int .i64 j ∧ Hid (RE w G B H b1 (.slice aw b1.chars.length capw) wq)) (fun i _ => 4 - (intOf i).toNat)
            case atStart => exact ⟨0, by omega, rfl, HE9⟩
            case round =>
              obtain ⟨j, hj, rfl, HE⟩ := hrel
              clear HE9
              by_cases hlt : j < 4
              · have hc := HE.out.hers.c j hlt
                have hlt4 : (j : Int) < 4 := by omega
                have hHl := HE.out.hers.lt
                generalize hhb : b1.isHere j = hb at *
                have HHB : Hid (b1.isHere j = hb) := hhb
                clear hhb
                have hbb : (hb != hb) = false := by simp
                go_wp2
                refine wp_region_quiet (C := fun wk => RE w G B H b1 (.slice aw b1.chars.length capw) wk) (by kernel_rfl) (by kernel_rfl) (HE.out.after (Below.refl _ _).drew) ?_
                refine wpQuiet_step (fun K hK => ?_)
                go_simp
                refine ⟨_, fun _ _ => rfl, hK _ ?_⟩
                clear hK K
                refine wpQuiet_step (fun K hK => ?_)
                go_simp
                refine ⟨.pointer (some ⟨H, j, none⟩), fun wk hwk => ?_, hK _ ?_⟩
                · go_simp
                clear hK K
                refine wpQuiet_step (fun K hK => ?_)
                go_simp
                refine ⟨.bool hb, fun wk hwk => ?_, hK _ ?_⟩
                · have hc := hwk.hers.c j hlt
                  rw [HHB.out] at hc
                  go_simp
                clear hK K
                refine wpQuiet_step (fun K hK => ?_)
                go_simp
                refine ⟨_, fun _ _ => rfl, hK _ ?_⟩
                clear hK K
                refine wpQuiet_step (fun K hK => ?_)
                go_simp
                refine ⟨_, fun _ _ => rfl, hK _ ?_⟩
                clear hK K
                refine wpQuiet_step (fun K hK => ?_)
                go_simp
                refine ⟨.bool hb, fun wk hwk => (duo_here hwk.ri.duo _).mono (fun _ _ ⟨he, hw⟩ => by subst hw; exact ⟨by rw [he, HHB.out], hwk⟩), hK _ ?_⟩
                clear hK K
                refine wpQuiet_step (fun K hK => ?_)
                go_simp
                refine ⟨.bool false, fun wk hwk => ?_, hK _ ?_⟩
                · go_simp
                clear hK K
                refine wpQuiet_nil ?_
                intro w9 hw9
                have HE9 : Hid (RE w G B H b1 (.slice aw b1.chars.length capw) w9) := hw9
                clear hw9
                go_wp2
                go_roundw
                case rel => exact ⟨j + 1, by omega, by go_num, HE9⟩
                case measure => simp [intOf]; omega
              · have HL1 : Hid (leastL b1 = ls) := HLS.out
                go_wp2_with fail
                refine (duo_len HE.out.ri.duo).mono ?_
                rintro e wx ⟨rfl, rfl⟩
                go_wp2_with fail
                refine (duo_least HE.out.ri.duo HG.out).mono ?_
                rintro e wy ⟨rfl, hby⟩
                rw [HL1.out]
                have HEy : Hid (RE w G B H b1 (.slice aw b1.chars.length capw) wy) := HE.out.after hby
                clear hby HE
                go_wp2_with fail
                refine (duo_chars HEy.out.ri.duo).mono ?_
                rintro e wz ⟨vz, rfl, hoz, hbz⟩
                have HEz : Hid (RE w G B H b1 (.slice aw b1.chars.length capw) wz) := HEy.out.after hbz
                have HOz : Hid (Lst wz vz b1.chars) := hoz.lst
                clear hbz hoz HEy
                go_wp2_with fail
                refine (same_eq HEz.out.was HOz.out HCS.out).mono ?_
                rintro e wf ⟨rfl, hbf⟩
                have HBF : Hid (Below w.heap.size w wf) := (HEz.out.after hbf).ri.below
                clear hbf HEz HOz
                go_wp2
                go_ret
                exact ⟨rfl, HW0.out _ HBF.out⟩
        have e1 : (do_ == 1) = false := by simp [d1]
        clear d1
        by_cases d2 : do_ = 2
        · have e2 : (do_ == 2) = true := by simp [d2]
          clear d2
          go_wp2_with fail
          obtain ⟨LL, dv, lv, hL, hs⟩ := re_step HR.out HB8.out HH8.out HHlo.out HV8.out
          refine (take_lg hL HG.out ⟨kind, by_, no, seen, at_, many, text⟩).mono ?_
          rintro e w9 ⟨rfl, hto⟩
          obtain ⟨hbl, hre⟩ := hs _ _ hto
          have HBL : Hid (Below w.heap.size w w9) := hbl
          have HRE : Hid (comesC b1 ⟨kind, by_, no, seen, at_, many, text⟩ ≠ 0 → RE w G B H b1 (.slice aw b1.chars.length capw) w9) := fun hc => hre (comes_no hc)
          clear hL hs hto hbl hre x0 x1 x2 x3 x4 x5 x6 x7 x8 x9 x10
          generalize comesC b1 ⟨kind, by_, no, seen, at_, many, text⟩ = cc at *
          generalize comesN b1 ⟨kind, by_, no, seen, at_, many, text⟩ = jn at *
          by_cases hc : cc = 0
          · have hc' : (cc == 0) = true := by simp [hc]
            clear hc
            go_wp2
            go_ret
            exact ⟨rfl, HW0.out _ HBL.out⟩
          · have HE9 : Hid (RE w G B H b1 (.slice aw b1.chars.length capw) w9) := HRE.out hc
            have hc' : (cc == 0) = false := by simp [hc]
            clear hc HRE HBL
            go_wp2
            go_loopw [14] (fun i wq => ∃ j : Nat, j ≤ 4 ∧ i = .int .i64 j ∧ Hid (RE w G B H b1 (.slice aw b1.chars.length capw) wq)) (fun i _ => 4 - (intOf i).toNat)
            case atStart => exact ⟨0, by omega, rfl, HE9⟩
            case round =>
              obtain ⟨j, hj, rfl, HE⟩ := hrel
              clear HE9
              by_cases hlt : j < 4
              · have hc := HE.out.hers.c j hlt
                have hlt4 : (j : Int) < 4 := by omega
                have hHl := HE.out.hers.lt
                generalize hhb : b1.isHere j = hb at *
                have HHB : Hid (b1.isHere j = hb) := hhb
                clear hhb
                have hbb : (hb != hb) = false := by simp
                go_wp2
                refine wp_region_quiet (C := fun wk => RE w G B H b1 (.slice aw b1.chars.length capw) wk) (by kernel_rfl) (by kernel_rfl) (HE.out.after (Below.refl _ _).drew) ?_
                refine wpQuiet_step (fun K hK => ?_)
                go_simp
                refine ⟨_, fun _ _ => rfl, hK _ ?_⟩
                clear hK K
                refine wpQuiet_step (fun K hK => ?_)
                go_simp
                refine ⟨.pointer (some ⟨H, j, none⟩), fun wk hwk => ?_, hK _ ?_⟩
                · go_simp
                clear hK K
                refine wpQuiet_step (fun K hK => ?_)
                go_simp
                refine ⟨.bool hb, fun wk hwk => ?_, hK _ ?_⟩
                · have hc := hwk.hers.c j hlt
                  rw [HHB.out] at hc
                  go_simp
                clear hK K
                refine wpQuiet_step (fun K hK => ?_)
                go_simp
                refine ⟨_, fun _ _ => rfl, hK _ ?_⟩
                clear hK K
                refine wpQuiet_step (fun K hK => ?_)
                go_simp
                refine ⟨_, fun _ _ => rfl, hK _ ?_⟩
                clear hK K
                refine wpQuiet_step (fun K hK => ?_)
                go_simp
                refine ⟨.bool hb, fun wk hwk => (duo_here hwk.ri.duo _).mono (fun _ _ ⟨he, hw⟩ => by subst hw; exact ⟨by rw [he, HHB.out], hwk⟩), hK _ ?_⟩
                clear hK K
                refine wpQuiet_step (fun K hK => ?_)
                go_simp
                refine ⟨.bool false, fun wk hwk => ?_, hK _ ?_⟩
                · go_simp
                clear hK K
                refine wpQuiet_nil ?_
                intro w9 hw9
                have HE9 : Hid (RE w G B H b1 (.slice aw b1.chars.length capw) w9) := hw9
                clear hw9
                go_wp2
                go_roundw
                case rel => exact ⟨j + 1, by omega, by go_num, HE9⟩
                case measure => simp [intOf]; omega
              · have HL1 : Hid (leastL b1 = ls) := HLS.out
                go_wp2_with fail
                refine (duo_len HE.out.ri.duo).mono ?_
                rintro e wx ⟨rfl, rfl⟩
                go_wp2_with fail
                refine (duo_least HE.out.ri.duo HG.out).mono ?_
                rintro e wy ⟨rfl, hby⟩
                rw [HL1.out]
                have HEy : Hid (RE w G B H b1 (.slice aw b1.chars.length capw) wy) := HE.out.after hby
                clear hby HE
                go_wp2_with fail
                refine (duo_chars HEy.out.ri.duo).mono ?_
                rintro e wz ⟨vz, rfl, hoz, hbz⟩
                have HEz : Hid (RE w G B H b1 (.slice aw b1.chars.length capw) wz) := HEy.out.after hbz
                have HOz : Hid (Lst wz vz b1.chars) := hoz.lst
                clear hbz hoz HEy
                go_wp2_with fail
                refine (same_eq HEz.out.was HOz.out HCS.out).mono ?_
                rintro e wf ⟨rfl, hbf⟩
                have HBF : Hid (Below w.heap.size w wf) := (HEz.out.after hbf).ri.below
                clear hbf HEz HOz
                go_wp2
                go_ret
                exact ⟨rfl, HW0.out _ HBF.out⟩
        have e2 : (do_ == 2) = false := by simp [d2]
        clear d2
        by_cases d3 : do_ = 3
        · have e3 : (do_ == 3) = true := by simp [d3]
          clear d3
          go_wp2_with fail
          obtain ⟨LL, dv, lv, hL, hs⟩ := re_step HR.out HB8.out HH8.out HHlo.out HV8.out
          refine (says_lg hL w_ n_).mono ?_
          rintro e w9 ⟨rfl, hto⟩
          obtain ⟨hbl, hre⟩ := hs _ _ hto
          have HBL : Hid (Below w.heap.size w w9) := hbl
          have HRE : Hid (saysC b1 w_ n_ ≠ 0 → RE w G B H b1 (.slice aw b1.chars.length capw) w9) := fun hc => hre (says_no hc)
          clear hL hs hto hbl hre x0 x1 x2 x3 x4 x5 x6 x7 x8 x9 x10
          generalize saysC b1 w_ n_ = cc at *
          by_cases hc : cc = 0
          · have hc' : (cc == 0) = true := by simp [hc]
            clear hc
            go_wp2
            go_ret
            exact ⟨rfl, HW0.out _ HBL.out⟩
          · have HE9 : Hid (RE w G B H b1 (.slice aw b1.chars.length capw) w9) := HRE.out hc
            have hc' : (cc == 0) = false := by simp [hc]
            clear hc HRE HBL
            go_wp2
            go_loopw [14] (fun i wq => ∃ j : Nat, j ≤ 4 ∧ i = .int .i64 j ∧ Hid (RE w G B H b1 (.slice aw b1.chars.length capw) wq)) (fun i _ => 4 - (intOf i).toNat)
            case atStart => exact ⟨0, by omega, rfl, HE9⟩
            case round =>
              obtain ⟨j, hj, rfl, HE⟩ := hrel
              clear HE9
              by_cases hlt : j < 4
              · have hc := HE.out.hers.c j hlt
                have hlt4 : (j : Int) < 4 := by omega
                have hHl := HE.out.hers.lt
                generalize hhb : b1.isHere j = hb at *
                have HHB : Hid (b1.isHere j = hb) := hhb
                clear hhb
                have hbb : (hb != hb) = false := by simp
                go_wp2
                refine wp_region_quiet (C := fun wk => RE w G B H b1 (.slice aw b1.chars.length capw) wk) (by kernel_rfl) (by kernel_rfl) (HE.out.after (Below.refl _ _).drew) ?_
                refine wpQuiet_step (fun K hK => ?_)
                go_simp
                refine ⟨_, fun _ _ => rfl, hK _ ?_⟩
                clear hK K
                refine wpQuiet_step (fun K hK => ?_)
                go_simp
                refine ⟨.pointer (some ⟨H, j, none⟩), fun wk hwk => ?_, hK _ ?_⟩
                · go_simp
                clear hK K
                refine wpQuiet_step (fun K hK => ?_)
                go_simp
                refine ⟨.bool hb, fun wk hwk => ?_, hK _ ?_⟩
                · have hc := hwk.hers.c j hlt
                  rw [HHB.out] at hc
                  go_simp
                clear hK K
                refine wpQuiet_step (fun K hK => ?_)
                go_simp
                refine ⟨_, fun _ _ => rfl, hK _ ?_⟩
                clear hK K
                refine wpQuiet_step (fun K hK => ?_)
                go_simp
                refine ⟨_, fun _ _ => rfl, hK _ ?_⟩
                clear hK K
                refine wpQuiet_step (fun K hK => ?_)
                go_simp
                refine ⟨.bool hb, fun wk hwk => (duo_here hwk.ri.duo _).mono (fun _ _ ⟨he, hw⟩ => by subst hw; exact ⟨by rw [he, HHB.out], hwk⟩), hK _ ?_⟩
                clear hK K
                refine wpQuiet_step (fun K hK => ?_)
                go_simp
                refine ⟨.bool false, fun wk hwk => ?_, hK _ ?_⟩
                · go_simp
                clear hK K
                refine wpQuiet_nil ?_
                intro w9 hw9
                have HE9 : Hid (RE w G B H b1 (.slice aw b1.chars.length capw) w9) := hw9
                clear hw9
                go_wp2
                go_roundw
                case rel => exact ⟨j + 1, by omega, by go_num, HE9⟩
                case measure => simp [intOf]; omega
              · have HL1 : Hid (leastL b1 = ls) := HLS.out
                go_wp2_with fail
                refine (duo_len HE.out.ri.duo).mono ?_
                rintro e wx ⟨rfl, rfl⟩
                go_wp2_with fail
                refine (duo_least HE.out.ri.duo HG.out).mono ?_
                rintro e wy ⟨rfl, hby⟩
                rw [HL1.out]
                have HEy : Hid (RE w G B H b1 (.slice aw b1.chars.length capw) wy) := HE.out.after hby
                clear hby HE
                go_wp2_with fail
                refine (duo_chars HEy.out.ri.duo).mono ?_
                rintro e wz ⟨vz, rfl, hoz, hbz⟩
                have HEz : Hid (RE w G B H b1 (.slice aw b1.chars.length capw) wz) := HEy.out.after hbz
                have HOz : Hid (Lst wz vz b1.chars) := hoz.lst
                clear hbz hoz HEy
                go_wp2_with fail
                refine (same_eq HEz.out.was HOz.out HCS.out).mono ?_
                rintro e wf ⟨rfl, hbf⟩
                have HBF : Hid (Below w.heap.size w wf) := (HEz.out.after hbf).ri.below
                clear hbf HEz HOz
                go_wp2
                go_ret
                exact ⟨rfl, HW0.out _ HBF.out⟩
        have e3 : (do_ == 3) = false := by simp [d3]
        clear d3
        go_wp2
        go_ret
        exact ⟨rfl, HW0.out _ (below_after HR.out.below HB8.out)⟩
  · go_wp2
    go_ret
    exact ⟨rfl, HW0.out _ HB1.out⟩

/-- THE LAW. -/
theorem law_logrefuses (w : World) {v : Value} {xs : List LStep} (h : SLst w v xs) (hf : ∀ x ∈ xs, FitX x) (x : LStep) (_ : FitX x) :
    Calls Try.prog 8 #[v, lsV x] w fun e w' => e = .returned (.bool true) ∧ Below w.heap.size w w' := logRefuses_any v xs x w h hf

end Go.Proofs.Ytfjjjbohflobnab
