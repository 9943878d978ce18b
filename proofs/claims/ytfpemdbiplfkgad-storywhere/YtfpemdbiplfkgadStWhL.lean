/-
  The law StoryWhere: A BYTE STANDS AT ONE PLACE.
-/
import Derived.Test.YtfpemdbiplfkgadStBeg
import Derived.BigQuiet
namespace Go.Proofs.Ytfpemdbiplfkgad
open Go Go.RowKit

/-- Has it come, is it gone, in the first k texts? -/
structure CameG (b : Bk) (x : Ch) (k : Nat) (ca go : Bool) : Prop where
  came : ca = true ↔ ∃ i, i < k ∧ 0 ≤ whS (thenL b.chars (i : Int)) x
  gone : go = true ↔ ∃ i j, i ≤ j ∧ j < k ∧ 0 ≤ whS (thenL b.chars (i : Int)) x ∧ whS (thenL b.chars (j : Int)) x < 0

theorem cameG_start (b : Bk) (x : Ch) : CameG b x 0 false false :=
  ⟨⟨fun e => (by cases e), fun ⟨_, h, _⟩ => absurd h (Nat.not_lt_zero _)⟩, ⟨fun e => (by cases e), fun ⟨_, _, _, h, _⟩ => absurd h (Nat.not_lt_zero _)⟩⟩

theorem CameG.here {b : Bk} (hg : Good b) {x : Ch} {k : Nat} {ca go : Bool} (h : CameG b x k ca go) (hk : k ≤ b.ds.length) (hw : 0 ≤ whS (thenL b.chars (k : Int)) x) : go = false ∧ CameG b x (k + 1) true go := by
  have hgo : go = false := by
    cases go with
    | false => rfl
    | true =>
      obtain ⟨i, j, h1, h2, h3, h4⟩ := h.gone.1 rfl
      have := wh_never hg h1 (Nat.le_of_lt h2) hk h3 h4
      omega
  refine ⟨hgo, ⟨fun _ => ⟨k, by omega, hw⟩, fun _ => rfl⟩, ⟨fun e => (by rw [hgo] at e; cases e), ?_⟩⟩
  rintro ⟨i, j, h1, h2, h3, h4⟩
  by_cases c : j = k
  · subst c; omega
  · exact h.gone.2 ⟨i, j, h1, by omega, h3, h4⟩

theorem CameG.away {b : Bk} {x : Ch} {k : Nat} {ca go : Bool} (h : CameG b x k ca go) (hw : whS (thenL b.chars (k : Int)) x < 0) : CameG b x (k + 1) ca (if ca then true else go) := by
  have hc : ca = true ↔ ∃ i, i < k + 1 ∧ 0 ≤ whS (thenL b.chars (i : Int)) x := by
    rw [h.came]
    constructor
    · rintro ⟨i, h1, h2⟩; exact ⟨i, by omega, h2⟩
    · rintro ⟨i, h1, h2⟩
      by_cases c : i = k
      · subst c; omega
      · exact ⟨i, by omega, h2⟩
  refine ⟨hc, ?_⟩
  cases hca : ca with
  | true =>
    refine ⟨fun _ => ?_, fun _ => rfl⟩
    obtain ⟨i, h1, h2⟩ := h.came.1 hca
    exact ⟨i, k, by omega, by omega, h2, hw⟩
  | false =>
    show go = true ↔ _
    rw [h.gone]
    constructor
    · rintro ⟨i, j, h1, h2, h3⟩; exact ⟨i, j, h1, by omega, h3⟩
    · rintro ⟨i, j, h1, h2, h3, h4⟩
      by_cases c : j = k
      · subst c
        have hn : ¬ (∃ i, i < j ∧ 0 ≤ whS (thenL b.chars (i : Int)) x) := fun e => by
          have := h.came.2 e
          rw [hca] at this
          cases this
        by_cases c : i = j
        · subst c; omega
        · exact absurd ⟨i, by omega, h3⟩ hn
      · exact ⟨i, j, h1, by omega, h3, h4⟩

theorem thS_out {b : Bk} {n : Int} (h : ¬ (0 ≤ n ∧ n ≤ b.ds.length)) : thS b n = [] := if_neg h
theorem wh_nil (x : Ch) : whS [] x = -1 := rfl

/-- A story, and a byte in a box. -/
structure WhI (w : World) (x : Ch) (lo P : Nat) (b : Bk) (wk : World) : Prop where
  box : FInv w x wk
  st : StTo wk lo P b
theorem WhI.after {w wk w' : World} {x : Ch} {lo P : Nat} {b : Bk} (h : WhI w x lo P b wk) (hb : Below wk.heap.size wk w') : WhI w x lo P b w' := ⟨h.box.after hb, h.st.below hb⟩

set_option maxRecDepth 20000 in
set_option maxHeartbeats 6400000 in
theorem storyWhere_any (v : Value) (xs : List Tst) (x : Ch) (w : World) (h : TLst w v xs) :
    Calls Try.prog 3 #[v, chV x] w fun e w' => e = .returned (.bool true) ∧ Below w.heap.size w w' := by
  have HX : Hid (TLst w v xs) := h
  obtain ⟨a, cap, rfl⟩ := h.len
  obtain ⟨c, by_, no, k_, inn, out, gone⟩ := x
  have HF : Hid (FInv w ⟨c, by_, no, k_, inn, out, gone⟩ (w.alloc (.cells #[.int .u8 c, .int .i64 by_, .int .i64 no, .int .i64 k_, .int .i64 inn, .int .i64 out, .int .i64 gone] 24))) := finv_start w ⟨c, by_, no, k_, inn, out, gone⟩
  clear h
  go_enter Try.func3, Try.ntmps3
  go_wp2_with fail
  refine (sbegun_any _).mono ?_
  rintro e w0 ⟨rfl, hb0⟩
  have HF0 : Hid (FInv w ⟨c, by_, no, k_, inn, out, gone⟩ w0) := HF.out.after hb0
  clear hb0 HF
  go_wp2_with fail
  refine (greatT_any _ xs _ (HX.out.below HF0.out.below)).mono ?_
  rintro e w1 ⟨gr, rfl, hgr, hw1⟩
  rw [hw1]
  clear hw1 w1
  cases gr
  · have hl := hgr rfl
    clear hgr
    go_wp2_with fail
    refine (played_any _ xs _ (HX.out.below HF0.out.below) hl).mono ?_
    rintro e w2 ⟨D, G, pw, t, rfl, hd⟩
    have H2 : Hid (DkAny w0.heap.size w0 (fun _ => False) D G pw t w2) := hd
    have g0 := hd.cells.book
    have hlt0 := hd.cells.lt
    clear hd
    go_wp2_with fail
    clear g0 hlt0
    refine (of_dk H2.out).mono ?_
    rintro e w3 ⟨P, rfl, hs, hb⟩
    have H3 : Hid (WhI w ⟨c, by_, no, k_, inn, out, gone⟩ w2.heap.size P t.b w3) := ⟨(HF0.out.after H2.out.below).after hb, hs⟩
    have HG : Hid (Good t.b) := H2.out.ti.good
    have hN : t.b.ds.length ≤ 120 := H2.out.ti.good.small
    clear hs hb H2 HF0
    generalize w2.heap.size = lo at *
    generalize t.b = b at *
    go_wp2_with fail
    go_loopw [7, 8, 9] (fun c7 c8 i wr => ∃ (k : Nat) (ca go : Bool), k ≤ b.ds.length + 1 ∧ c7 = .bool ca ∧ c8 = .bool go ∧ i = .int .i64 k ∧ Hid (CameG b ⟨c, by_, no, k_, inn, out, gone⟩ k ca go) ∧ Hid (WhI w ⟨c, by_, no, k_, inn, out, gone⟩ lo P b wr)) (fun _ _ i _ => b.ds.length + 1 - (intOf i).toNat)
    case atStart => exact ⟨0, false, false, Nat.zero_le _, rfl, rfl, rfl, cameG_start _ _, H3.out⟩
    case round =>
      obtain ⟨k, ca, go, hk, rfl, rfl, rfl, HC, HW⟩ := hrel
      clear H3
      by_cases hlt : k ≤ b.ds.length
      · have hlti : decide ((k : Int) < (b.ds.length : Int) + 1) = true := decide_eq_true (by omega)
        go_wp2_with fail
        refine (len_st HW.out.st hN).mono ?_
        rintro e w4 ⟨rfl, hw4⟩
        rw [hw4]
        clear hw4 w4
        go_wp2_with fail
        refine (text_st HW.out.st k).mono ?_
        rintro e w5 ⟨rfl, hb5⟩
        rw [inS_in hlt, thS_in hlt]
        have H5 : Hid (WhI w ⟨c, by_, no, k_, inn, out, gone⟩ lo P b w5) := HW.out.after hb5
        clear hb5 HW hlti
        obtain ⟨sa, hsa⟩ : ∃ sa, strOfNums ((thenL b.chars (k : Int)).map (·.c)) = sa := ⟨_, rfl⟩
        have hsz : (thenL b.chars (k : Int)).length = sa.size := by rw [← hsa, strOfNums_size, List.length_map]
        rw [hsa]
        clear hsa
        have HSZ : Hid ((thenL b.chars (k : Int)).length = sa.size) := hsz
        clear hsz
        go_wp2_with fail
        refine (by_st H5.out.st k).mono ?_
        rintro e w6 ⟨v6, rfl, hi, hb6⟩
        rw [inS_in hlt]
        rw [thS_in hlt] at hi
        have H6 : Hid (WhI w ⟨c, by_, no, k_, inn, out, gone⟩ lo P b w6) := H5.out.after hb6
        have HI : Hid (ILst w6 v6 ((thenL b.chars (k : Int)).map (·.by_))) := hi
        obtain ⟨pa, pc, rfl⟩ := hi.len
        rw [List.length_map, HSZ.out] at HI ⊢
        clear hb6 H5 hi
        obtain ⟨q0, q1, q2, q3, q4, q5, q6⟩ := H6.out.box.at_
        simp only [Nat.zero_add] at q1 q2 q3 q4 q5 q6
        have hbs := H6.out.box.size
        go_wp2_with fail
        clear q0 q1 q2 q3 q4 q5 q6 hbs
        refine (where_st H6.out.st k ⟨c, by_, no, k_, inn, out, gone⟩).mono ?_
        rintro e w7 ⟨rfl, hb7⟩
        rw [thS_in hlt]
        have H7 : Hid (WhI w ⟨c, by_, no, k_, inn, out, gone⟩ lo P b w7) := H6.out.after hb7
        have HI7 : Hid (ILst w7 (.slice pa sa.size pc) ((thenL b.chars (k : Int)).map (·.by_))) := HI.out.below hb7
        have hwl := wh_lt (thenL b.chars (k : Int)) ⟨c, by_, no, k_, inn, out, gone⟩
        rw [HSZ.out] at hwl
        clear hb7 H6 HI
        by_cases hat : 0 ≤ whS (thenL b.chars (k : Int)) ⟨c, by_, no, k_, inn, out, gone⟩
        · obtain ⟨hgo, hcg⟩ := HC.out.here HG.out hlt hat
          have HC2 : Hid (CameG b ⟨c, by_, no, k_, inn, out, gone⟩ (k + 1) true go) := hcg
          subst hgo
          obtain ⟨p, hp⟩ : ∃ p : Nat, whS (thenL b.chars (k : Int)) ⟨c, by_, no, k_, inn, out, gone⟩ = p := ⟨(whS (thenL b.chars (k : Int)) ⟨c, by_, no, k_, inn, out, gone⟩).toNat, by omega⟩
          obtain ⟨hpl, hby⟩ := wh_by hp
          rw [hp] at hwl ⊢
          have hpz : p < sa.size := by omega
          have hpi : (p : Int) < (sa.size : Int) := by omega
          obtain ⟨pb, po, rfl, hpb, hpc, hrow⟩ := HI7.out.row (by omega)
          have hcell := hrow p hpl
          rw [hby] at hcell
          have hlow : decide ((p : Int) < -1) = false := decide_eq_false (by omega)
          have hhigh : decide ((sa.size : Int) ≤ (p : Int)) = false := decide_eq_false (by omega)
          have hpos : decide ((0 : Int) ≤ (p : Int)) = true := decide_eq_true (by omega)
          obtain ⟨q0, q1, q2, q3, q4, q5, q6⟩ := H7.out.box.at_
          simp only [Nat.zero_add] at q1 q2 q3 q4 q5 q6
          have hbs := H7.out.box.size
          clear hrow hpl hby hp hat hcg HC hwl
          go_wp2_with fail
          go_big_quiet (fail)
          go_wp2_with fail
          go_roundw
          case rel => exact ⟨k + 1, true, false, by omega, rfl, rfl, by go_num, HC2.out, H7.out.after (below_drewN (Below.refl _ _) _)⟩
          case measure => simp [intOf]; omega
        · have hm1 : whS (thenL b.chars (k : Int)) ⟨c, by_, no, k_, inn, out, gone⟩ = -1 := by omega
          have HC2 : Hid (CameG b ⟨c, by_, no, k_, inn, out, gone⟩ (k + 1) ca (if ca then true else go)) := HC.out.away (by omega)
          rw [hm1]
          have hhigh : decide ((sa.size : Int) ≤ (-1 : Int)) = false := decide_eq_false (by omega)
          clear hwl hat hm1 HC
          cases ca
          · go_wp2_with fail
            go_big_quiet (fail)
            go_wp2_with fail
            go_roundw
            case rel => exact ⟨k + 1, false, go, by omega, rfl, rfl, by go_num, HC2.out, H7.out.after (below_drewN (Below.refl _ _) _)⟩
            case measure => simp [intOf]; omega
          · go_wp2_with fail
            go_big_quiet (fail)
            go_wp2_with fail
            go_roundw
            case rel => exact ⟨k + 1, true, true, by omega, rfl, rfl, by go_num, HC2.out, H7.out.after (below_drewN (Below.refl _ _) _)⟩
            case measure => simp [intOf]; omega
      · obtain rfl : k = b.ds.length + 1 := by omega
        have hlti : decide (((b.ds.length + 1 : Nat) : Int) < (b.ds.length : Int) + 1) = false := decide_eq_false (by omega)
        go_wp2_with fail
        refine (len_st HW.out.st hN).mono ?_
        rintro e w4 ⟨rfl, hw4⟩
        rw [hw4]
        clear hw4 w4 HC
        have HWN : Hid (∀ wk, WhI w ⟨c, by_, no, k_, inn, out, gone⟩ lo P b wk → Calls Try.prog 12 #[.pointer (some ⟨P, 0, none⟩), .int .i64 (-1), chV ⟨c, by_, no, k_, inn, out, gone⟩] wk fun e w' => e = .returned (.int .i64 (-1)) ∧ WhI w ⟨c, by_, no, k_, inn, out, gone⟩ lo P b w') := fun wk hwk => by
          refine (where_st hwk.st (-1) ⟨c, by_, no, k_, inn, out, gone⟩).mono ?_
          rintro e w' ⟨rfl, hb⟩
          rw [thS_out (by omega), wh_nil]
          exact ⟨rfl, hwk.after hb⟩
        have HWL : Hid (∀ wk, WhI w ⟨c, by_, no, k_, inn, out, gone⟩ lo P b wk → Calls Try.prog 12 #[.pointer (some ⟨P, 0, none⟩), .int .i64 ((b.ds.length : Int) + 1), chV ⟨c, by_, no, k_, inn, out, gone⟩] wk fun e w' => e = .returned (.int .i64 (-1)) ∧ WhI w ⟨c, by_, no, k_, inn, out, gone⟩ lo P b w') := fun wk hwk => by
          refine (where_st hwk.st ((b.ds.length : Int) + 1) ⟨c, by_, no, k_, inn, out, gone⟩).mono ?_
          rintro e w' ⟨rfl, hb⟩
          rw [thS_out (by omega), wh_nil]
          exact ⟨rfl, hwk.after hb⟩
        go_wp2_with fail
        clear hlti
        refine wp_region_quiet (C := fun wk => WhI w ⟨c, by_, no, k_, inn, out, gone⟩ lo P b wk) (by kernel_rfl) (by kernel_rfl) (HW.out.after (Below.refl _ _).drew) ?_
        refine wpQuiet_step (fun K hK => ?_)
        go_simp
        refine ⟨_, fun _ _ => rfl, hK _ ?_⟩
        clear hK K
        refine wpQuiet_step (fun K hK => ?_)
        go_simp
        refine ⟨chV ⟨c, by_, no, k_, inn, out, gone⟩, fun wk hwk => ?_, hK _ ?_⟩
        · obtain ⟨q0, q1, q2, q3, q4, q5, q6⟩ := hwk.box.at_
          simp only [Nat.zero_add] at q1 q2 q3 q4 q5 q6
          have hbs := hwk.box.size
          go_simp
        clear hK K
        refine wpQuiet_step (fun K hK => ?_)
        go_simp
        refine ⟨.int .i64 (-1), fun wk hwk => HWN.out wk hwk, hK _ ?_⟩
        clear hK K
        refine wpQuiet_step (fun K hK => ?_)
        go_simp
        refine ⟨_, fun _ _ => rfl, hK _ ?_⟩
        clear hK K
        refine wpQuiet_step (fun K hK => ?_)
        go_simp
        refine ⟨_, fun _ _ => rfl, hK _ ?_⟩
        clear hK K
        refine wpQuiet_step (fun K hK => ?_)
        go_simp
        refine ⟨_, fun _ _ => rfl, hK _ ?_⟩
        clear hK K
        refine wpQuiet_step (fun K hK => ?_)
        go_simp
        refine ⟨_, fun _ _ => rfl, hK _ ?_⟩
        clear hK K
        refine wpQuiet_step (fun K hK => ?_)
        go_simp
        refine ⟨.int .i64 ((b.ds.length : Int) + 1), fun wk hwk => (len_st hwk.st hN).mono (fun _ _ ⟨he, hb⟩ => ⟨he, by rw [hb]; exact hwk⟩), hK _ ?_⟩
        clear hK K
        refine wpQuiet_step (fun K hK => ?_)
        go_simp
        refine ⟨chV ⟨c, by_, no, k_, inn, out, gone⟩, fun wk hwk => ?_, hK _ ?_⟩
        · obtain ⟨q0, q1, q2, q3, q4, q5, q6⟩ := hwk.box.at_
          simp only [Nat.zero_add] at q1 q2 q3 q4 q5 q6
          have hbs := hwk.box.size
          go_simp
        clear hK K
        refine wpQuiet_step (fun K hK => ?_)
        go_simp
        refine ⟨.int .i64 (-1), fun wk hwk => HWL.out wk hwk, hK _ ?_⟩
        clear hK K
        refine wpQuiet_step (fun K hK => ?_)
        go_simp
        refine ⟨_, fun _ _ => rfl, hK _ ?_⟩
        clear hK K
        refine wpQuiet_step (fun K hK => ?_)
        go_simp
        refine ⟨_, fun _ _ => rfl, hK _ ?_⟩
        clear hK K
        refine wpQuiet_step (fun K hK => ?_)
        go_simp
        refine ⟨_, fun _ _ => rfl, hK _ ?_⟩
        clear hK K
        refine wpQuiet_nil ?_
        intro w9 hw9
        have H9 : Hid (WhI w ⟨c, by_, no, k_, inn, out, gone⟩ lo P b w9) := hw9
        clear hw9
        go_wp2_with fail
        go_ret
        exact ⟨rfl, H9.out.box.below⟩
  · go_wp2_with fail
    go_ret
    exact ⟨rfl, HF0.out.below⟩

theorem law_storywhere (w : World) {v : Value} {xs : List Tst} (h : TLst w v xs) (x : Ch) :
    Calls Try.prog 3 #[v, chV x] w fun e w' => e = .returned (.bool true) ∧ Below w.heap.size w w' := storyWhere_any v xs x w h

end Go.Proofs.Ytfpemdbiplfkgad
