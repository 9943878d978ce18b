/-
  A new log and a new book; the law's own example (logBegun); greatLog.
-/
import Derived.Test.YtfjjjbohflobnabLStT
import Derived.Test.YtfjjjbohflobnabFBegun
namespace Go.Proofs.Ytfjjjbohflobnab
open Go.RowKit

abbrev logZero : Array Value := #[.bool false, .int .i64 0, .int .i64 0, .bool false, .int .i64 0, .int .i64 0, .bool false, .int .i64 0, .int .i64 0, .bool false, .int .i64 0, .int .i64 0, .slice none 0 0, .slice none 0 0]
abbrev bookZero : Array Value := #[.slice none 0 0, .bool false, .bool false, .bool false, .bool false, .int .i64 0, .int .i64 0, .int .i64 0, .int .i64 0, .int .i64 0, .int .i64 0, .int .i64 0, .int .i64 0]

theorem logAt_new (w : World) {base : Nat} (hb : base ≤ w.heap.size) : LogAt (w.alloc (.cells logZero 71)) base (fun k => k = w.heap.size) w.heap.size (.slice none 0 0) (.slice none 0 0) Bk.empty := by
  refine ⟨fun k e => ⟨by omega, by simp; omega⟩, rfl, ⟨by simp, fun j hj => ?_, fun j hj => ?_, fun j hj => ?_, by simp [go_sem], by simp [go_sem], fun o ho => ?_⟩, ownD_nil _ _, own_nil _ _, fun k e => by simp [Value.ownBlock] at e, fun k e => by simp [Value.ownBlock] at e⟩
  · rcases (show j = 0 ∨ j = 1 ∨ j = 2 ∨ j = 3 by omega) with rfl | rfl | rfl | rfl <;> simp [go_sem, Bk.empty]
  · rcases (show j = 0 ∨ j = 1 ∨ j = 2 ∨ j = 3 by omega) with rfl | rfl | rfl | rfl <;> simp [go_sem, Bk.empty]
  · rcases (show j = 0 ∨ j = 1 ∨ j = 2 ∨ j = 3 by omega) with rfl | rfl | rfl | rfl <;> simp [go_sem, Bk.empty]
  · rcases (show o = 0 ∨ o = 1 ∨ o = 2 ∨ o = 3 ∨ o = 4 ∨ o = 5 ∨ o = 6 ∨ o = 7 ∨ o = 8 ∨ o = 9 ∨ o = 10 ∨ o = 11 ∨ o = 12 ∨ o = 13 by omega) with rfl | rfl | rfl | rfl | rfl | rfl | rfl | rfl | rfl | rfl | rfl | rfl | rfl | rfl <;> simp [go_sem]

theorem bookAt_new (w : World) {base : Nat} (hb : base ≤ w.heap.size) : BookAt (w.alloc (.cells bookZero 42)) base (fun k => k = w.heap.size) w.heap.size (.slice none 0 0) Bk.empty := by
  refine ⟨fun k e => ⟨by omega, by simp; omega⟩, rfl, ⟨by simp, by simp [go_sem], fun j hj => ?_, fun j hj => ?_, fun j hj => ?_, fun o ho => ?_⟩, ownD_nil _ _, fun k e => by simp [Value.ownBlock] at e⟩
  · rcases (show j = 0 ∨ j = 1 ∨ j = 2 ∨ j = 3 by omega) with rfl | rfl | rfl | rfl <;> simp [go_sem, Bk.empty]
  · rcases (show j = 0 ∨ j = 1 ∨ j = 2 ∨ j = 3 by omega) with rfl | rfl | rfl | rfl <;> simp [go_sem, Bk.empty]
  · rcases (show j = 0 ∨ j = 1 ∨ j = 2 ∨ j = 3 by omega) with rfl | rfl | rfl | rfl <;> simp [go_sem, Bk.empty]
  · rcases (show o = 0 ∨ o = 1 ∨ o = 2 ∨ o = 3 ∨ o = 4 ∨ o = 5 ∨ o = 6 ∨ o = 7 ∨ o = 8 ∨ o = 9 ∨ o = 10 ∨ o = 11 ∨ o = 12 by omega) with rfl | rfl | rfl | rfl | rfl | rfl | rfl | rfl | rfl | rfl | rfl | rfl | rfl <;> simp [go_sem]

theorem duo_start (w : World) {base : Nat} (hb : base ≤ w.heap.size) : Duo base w.heap.size (w.heap.size + 1) (fun _ => False) Bk.empty Bk.empty ((w.alloc (.cells logZero 71)).alloc (.cells bookZero 42)) := by
  have h1 := (logAt_new w hb).below ((Below.refl _ _).alloc (Nat.le_refl _) (.cells bookZero 42))
  have h2 := bookAt_new (w.alloc (.cells logZero 71)) (base := base) (by simp; omega)
  have e : (w.alloc (.cells logZero 71)).heap.size = w.heap.size + 1 := by simp
  rw [e] at h2
  exact ⟨_, _, _, _, _, h1, h2, fun k e1 e2 => by omega, fun k e => e.elim⟩

theorem new_lg (w : World) : Calls Try.prog 17 #[] w fun e w' => e = .returned (.pointer (some ⟨w.heap.size, 0, none⟩)) ∧ w' = w.alloc (.cells logZero 71) := by
  go_enter Try.func17, Try.ntmps17
  go_wp2
  go_ret
  exact ⟨rfl, rfl⟩

/-! The law's own example. -/

def begD : Dd := ⟨1, 1, 1, 0, 0, 0, ⟨#[97]⟩⟩
def begB1 : Bk := joinB Bk.empty 1
def begB2 : Bk := comesB begB1 begD

theorem beg_good1 : Good begB1 := good_join 1 good_empty
theorem beg_good2 : Good begB2 := good_comes begD beg_good1
theorem beg_jn : joinN Bk.empty 1 = 1 := by decide +kernel
theorem beg_jc : joinC Bk.empty 1 = 0 := by decide +kernel
theorem beg_tn : comesN begB1 begD = 1 := by decide +kernel
theorem beg_tc : comesC begB1 begD = 0 := by decide +kernel
theorem beg_oc : comesC begB2 begD = 7 := by decide +kernel
theorem beg_ob : comesB begB2 begD = begB2 := comes_no (by rw [beg_oc]; decide)
theorem beg_ds : begB2.ds = [begD] := by
  show (comesB begB1 begD).ds = _
  rw [comesB, if_pos beg_tc]
  rfl
theorem beg_len : begB2.ds.length = 1 := by rw [beg_ds]; rfl
theorem beg_nth : nthD begB2 1 = begD := by
  rw [nthD, if_pos (by show 1 ≤ (1 : Int) ∧ (1 : Int) ≤ (begB2.ds.length : Int); rw [beg_len]; decide), beg_ds]
  rfl
theorem beg_is : isD begB2 1 = true := by
  rw [isD]
  exact decide_eq_true (by show 1 ≤ (1 : Int) ∧ (1 : Int) ≤ (begB2.ds.length : Int); rw [beg_len]; decide)
theorem beg_text : textL begB2.chars = [97] := by decide +kernel
theorem beg_here : begB2.isHere 1 = true := by decide +kernel
theorem beg_least : leastL begB2 = 0 := by decide +kernel

set_option maxRecDepth 20000 in
set_option maxHeartbeats 1600000 in
theorem lbegun_any (w : World) :
    Calls Try.prog 15 #[] w fun e w' => e = .returned (.bool true) ∧ Below w.heap.size w w' := by
  go_enter Try.func15, Try.ntmps15
  go_wp2_with fail
  refine (new_lg _).mono ?_
  rintro e w1 ⟨rfl, hw1⟩
  have H1 : Hid (LogAt w1 w.heap.size (fun k => k = w.heap.size) w.heap.size (.slice none 0 0) (.slice none 0 0) Bk.empty) := by show LogAt _ _ _ _ _ _ _; rw [hw1]; exact logAt_new w (Nat.le_refl _)
  have HB1 : Hid (Below w.heap.size w w1) := by show Below _ _ _; rw [hw1]; exact (Below.refl _ _).alloc (Nat.le_refl _) _
  clear hw1
  generalize hG : w.heap.size = G at *
  have HGE : Hid (w.heap.size = G) := hG
  clear hG
  go_wp2_with fail
  refine (join_lg H1.out good_empty 1).mono ?_
  rintro e w2 ⟨rfl, hto⟩
  rw [beg_jn, beg_jc]
  obtain ⟨dv2, lv2, h2⟩ := hto.at_
  have H2 : Hid (LogAt w2 G _ G dv2 lv2 begB1) := h2
  have HB2 : Hid (Below G w w2) := HB1.out.trans (hto.kept.below (fun k e => (H1.out.lo k e).1) H1.out.base_le)
  clear hto h2 H1 HB1
  go_wp2_with fail
  refine (take_lg H2.out beg_good1 begD).mono ?_
  rintro e w3 ⟨rfl, hto⟩
  rw [beg_tn, beg_tc]
  obtain ⟨dv3, lv3, h3⟩ := hto.at_
  have H3 : Hid (LogAt w3 G _ G dv3 lv3 begB2) := h3
  have HB3 : Hid (Below G w w3) := HB2.out.trans (hto.kept.below (fun k e => (H2.out.lo k e).1) H2.out.base_le)
  clear hto h3 H2 HB2
  go_wp2_with fail
  refine (take_lg H3.out beg_good2 begD).mono ?_
  rintro e w4 ⟨rfl, hto⟩
  rw [beg_oc]
  generalize comesN begB2 begD = cn
  obtain ⟨dv4, lv4, h4⟩ := hto.at_
  rw [beg_ob] at h4
  have H4 : Hid (LogAt w4 G _ G dv4 lv4 begB2) := h4
  have HB4 : Hid (Below G w w4) := HB3.out.trans (hto.kept.below (fun k e => (H3.out.lo k e).1) H3.out.base_le)
  clear hto h4 H3 HB3
  go_wp2_with fail
  refine (deed_lg H4.out (by rw [beg_len]; decide) 1).mono ?_
  rintro e w5 ⟨rfl, hb5⟩
  rw [beg_nth, beg_is]
  have H5 : Hid (LogAt (w5.alloc (dObj begD)) G _ G dv4 lv4 begB2) := (H4.out.below hb5).below ((Below.refl _ _).alloc (Nat.le_refl _) _)
  have HB5 : Hid (Below G w (w5.alloc (dObj begD))) := (HB4.out.trans (hb5.mono H4.out.base_le)).alloc (by have := H4.out.base_le; have := hb5.size; omega) _
  clear hb5 H4 HB4
  unfold begD dObj at H5 HB5
  unfold begD
  go_wp2_with (first
    | (go_at_call 28; refine (text_lg H5.out).mono ?_; rintro e w6 ⟨rfl, hb6⟩; rw [beg_text, str_97]; have H6 : Hid (LogAt w6 G _ G dv4 lv4 begB2) := H5.out.below hb6; have HB6 : Hid (Below G w w6) := HB5.out.trans (hb6.mono H5.out.base_le); clear hb6)
    | (go_at_call 21; refine (len_lg H6.out).mono ?_; rintro e w7 ⟨rfl, rfl⟩; rw [beg_len])
    | (go_at_call 22; refine (here_lg H6.out.cells _).mono ?_; rintro e w8 ⟨rfl, rfl⟩; rw [beg_here])
    | (go_at_call 19; refine (least_lg H6.out beg_good2).mono ?_; rintro e w9 ⟨rfl, hb9⟩; rw [beg_least]; have HB9 : Hid (Below G w w9) := HB6.out.trans (hb9.mono H6.out.base_le); clear hb9))
  go_ret
  exact ⟨rfl, by rw [HGE.out]; exact HB9.out⟩

/-- What greatLog answers. -/
def GreatLIs (xs : List LStep) (w : World) (e : Ending) (w' : World) : Prop := ∃ g, e = .returned (.bool g) ∧ (g = false → xs.length ≤ 150 ∧ ∀ i (hi : i < xs.length), xs[i].d.text.size ≤ 100) ∧ w' = w

theorem greatL_yes (xs : List LStep) (w : World) : GreatLIs xs w (.returned (.bool true)) w := ⟨true, rfl, fun e => (by cases e), rfl⟩

set_option maxRecDepth 20000 in
set_option maxHeartbeats 800000 in
theorem greatL_any (v : Value) (xs : List LStep) (w : World) (h : SLst w v xs) :
    Calls Try.prog 16 #[v] w fun e w' => GreatLIs xs w e w' := by
  obtain ⟨a, cap, rfl⟩ := h.len
  have HD : Hid (SLst w (.slice a xs.length cap) xs) := h
  clear h
  go_enter Try.func16, Try.ntmps16
  go_wp2
  go_loop [3] (fun i => ∃ k : Nat, k ≤ xs.length ∧ k ≤ 200 ∧ i = .int .i64 k ∧ Hid (∀ i (hi : i < xs.length), i < k → xs[i].d.text.size ≤ 100)) (fun i => 200 - (intOf i).toNat)
  case atStart => exact ⟨0, Nat.zero_le _, by omega, rfl, fun i _ h => absurd h (Nat.not_lt_zero _)⟩
  case round =>
    obtain ⟨k, hk, hk2, rfl, HK⟩ := hrel
    by_cases hlt : k < xs.length
    · by_cases hlt2 : k < 200
      · obtain ⟨b, off, rfl, hr⟩ := HD.out.row (by omega)
        obtain ⟨_, c0, c1, c2, c3, c4, c5, c6, c7, c8, c9, c10⟩ := hr.at_ k hlt
        have HX : Hid (∃ x, x = xs[k]) := ⟨_, rfl⟩
        obtain ⟨x, hx⟩ := HX.out
        rw [← hx] at c9
        have HDK : Hid (x = xs[k]) := hx
        clear hr hx HX c0 c1 c2 c3 c4 c5 c6 c7 c8 c10
        by_cases ht : 100 < x.d.text.size
        · go_wp2
          go_ret
          exact greatL_yes xs w
        · go_wp2
          go_round
          case rel =>
            refine ⟨k + 1, by omega, by omega, by go_num, fun i hi hik => ?_⟩
            by_cases e : i = k
            · subst e; rw [← HDK.out]; omega
            · exact HK.out i hi (by omega)
          case measure => simp [intOf]; omega
      · go_wp2
        go_ret
        exact ⟨decide (150 < (xs.length : Int)), rfl, fun e => (by have := of_decide_eq_false e; omega), rfl⟩
    · go_wp2
      go_ret
      exact ⟨decide (150 < (xs.length : Int)), rfl, fun e => (by have := of_decide_eq_false e; exact ⟨by omega, fun i hi => HK.out i hi (by omega)⟩), rfl⟩

end Go.Proofs.Ytfjjjbohflobnab

/-
  What the laws of the log share: the two behind some steps; what is asked of the log.
-/
namespace Go.Proofs.Ytfjjjbohflobnab
open Go.RowKit

theorem duo_least {w : World} {base G B : Nat} {K : Nat → Prop} {g b : Bk} (h : Duo base G B K g b w) (hg : Good g) :
    Calls Try.prog 19 #[.pointer (some ⟨G, 0, none⟩)] w fun e w' => e = .returned (.int .i64 (leastL g)) ∧ Below w.heap.size w w' := by
  obtain ⟨_, _, _, hL, _⟩ := h.log
  exact least_lg hL hg

theorem duo_len {w : World} {base G B : Nat} {K : Nat → Prop} {g b : Bk} (h : Duo base G B K g b w) :
    Calls Try.prog 21 #[.pointer (some ⟨G, 0, none⟩)] w fun e w' => e = .returned (.int .i64 g.ds.length) ∧ w' = w := by
  obtain ⟨_, _, _, hL, _⟩ := h.log
  exact len_lg hL

theorem duo_here {w : World} {base G B : Nat} {K : Nat → Prop} {g b : Bk} (h : Duo base G B K g b w) (n : Int) :
    Calls Try.prog 22 #[.pointer (some ⟨G, 0, none⟩), .int .i64 n] w fun e w' => e = .returned (.bool (g.isHere n)) ∧ w' = w := by
  obtain ⟨_, _, _, hL, _⟩ := h.log
  exact here_lg hL.cells n

theorem duo_deed {w : World} {base G B : Nat} {K : Nat → Prop} {g b : Bk} (h : Duo base G B K g b w) (hg : Good g) (n : Int) :
    Calls Try.prog 24 #[.pointer (some ⟨G, 0, none⟩), .int .i64 n] w fun e w' => e = .returned (.tuple #[ddV (nthD g n), .bool (isD g n)]) ∧ Below w.heap.size w w' := by
  obtain ⟨_, _, _, hL, _⟩ := h.log
  exact deed_lg hL hg.small n

theorem duo_chars {w : World} {base G B : Nat} {K : Nat → Prop} {g b : Bk} (h : Duo base G B K g b w) :
    Calls Try.prog 27 #[.pointer (some ⟨G, 0, none⟩)] w fun e w' => ∃ v', e = .returned v' ∧ Own w' w.heap.size v' g.chars ∧ Below w.heap.size w w' := by
  obtain ⟨_, _, _, hL, _⟩ := h.log
  exact chars_lg hL

theorem duo_text {w : World} {base G B : Nat} {K : Nat → Prop} {g b : Bk} (h : Duo base G B K g b w) :
    Calls Try.prog 28 #[.pointer (some ⟨G, 0, none⟩)] w fun e w' => e = .returned (.string (strOfNums (textL g.chars))) ∧ Below w.heap.size w w' := by
  obtain ⟨_, _, _, hL, _⟩ := h.log
  exact text_lg hL

/-- The two, behind some steps; nothing that was there ahead of the law has turned. -/
structure RI (w : World) (G B : Nat) (b : Bk) (wk : World) : Prop where
  duo : Duo w.heap.size G B (fun _ => False) b b wk
  below : Below w.heap.size w wk

theorem RI.after {w wk w' : World} {G B : Nat} {b : Bk} (h : RI w G B b wk) (hb : Below wk.heap.size wk w') : RI w G B b w' := ⟨h.duo.after hb, below_after h.below hb⟩

theorem RI.stepped {w wk w' : World} {G B : Nat} {b b' : Bk} (h : RI w G B b wk) (hs : Stepped wk w.heap.size G B (fun _ => False) b' w') : RI w G B b' w' := ⟨hs.duo, h.below.trans hs.below⟩

theorem ri_start {w w1 : World} (h : Below w.heap.size w w1) : RI w w1.heap.size (w1.heap.size + 1) Bk.empty ((w1.alloc (.cells logZero 71)).alloc (.cells bookZero 42)) :=
  ⟨duo_start w1 h.size, (h.alloc h.size _).alloc (by have := h.size; simp; omega) _⟩

/-- The state behind the first k steps. -/
def runTo (xs : List LStep) (k : Nat) : Bk := runB (xs.take k)

theorem runTo_zero (xs : List LStep) : runTo xs 0 = Bk.empty := rfl
theorem runTo_succ {xs : List LStep} {k : Nat} (h : k < xs.length) : runTo xs (k + 1) = stepB (runTo xs k) xs[k] := by
  unfold runTo
  rw [List.take_succ_eq_append_getElem h, runB_snoc]
theorem runTo_good (xs : List LStep) (k : Nat) : Good (runTo xs k) := good_run _
theorem runTo_small (xs : List LStep) (k : Nat) : (runTo xs k).ds.length ≤ 120 := (runTo_good xs k).small

end Go.Proofs.Ytfjjjbohflobnab
