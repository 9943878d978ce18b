/-
  The law StoryFirst: WHAT COMES LATER CHANGES NOTHING.
-/
import Derived.Test.YtfpemdbiplfkgadStBeg
namespace Go.Proofs.Ytfpemdbiplfkgad
open Go Go.RowKit

theorem first_eq {b b' : Bk} (hg : Good b) (hg' : Good b') {es : List Dd} (hds : b'.ds = b.ds ++ es) {n : Nat} (hn : n ≤ b.ds.length) : (thS b' n).map (·.c) = (thS b n).map (·.c) ∧ (thS b' n).map (·.by_) = (thS b n).map (·.by_) := by
  have hn' : n ≤ b'.ds.length := by rw [hds, List.length_append]; omega
  rw [thS_in hn, thS_in hn']
  have e1 := story_tx hg hn
  have e2 := story_tx hg' hn'
  have e3 := story_by hg hn
  have e4 := story_by hg' hn'
  rw [hds, visL_pre hn] at e2 e4
  exact ⟨e2.trans e1.symm, e4.trans e3.symm⟩

/-- Two stories in one world. -/
structure FiI (w : World) (lo P : Nat) (b : Bk) (lo2 P2 : Nat) (b2 : Bk) (wk : World) : Prop where
  below : Below w.heap.size w wk
  one : StTo wk lo P b
  two : StTo wk lo2 P2 b2
theorem FiI.after {w wk w' : World} {lo P lo2 P2 : Nat} {b b2 : Bk} (h : FiI w lo P b lo2 P2 b2 wk) (hb : Below wk.heap.size wk w') : FiI w lo P b lo2 P2 b2 w' := ⟨below_after h.below hb, h.one.below hb, h.two.below hb⟩

/-- Desks that go on behind a story. -/
def FiD (B0 : Nat) (w3 : World) (T : Nat → Prop) (D : Nat) (t : Twn) (wk : World) : Prop := ∃ G pw, DkAny B0 w3 T D G pw t wk

theorem FiD.below {B0 : Nat} {w w3 wk : World} {T : Nat → Prop} {D : Nat} {t : Twn} (h : FiD B0 w3 T D t wk) (hT : ∀ k, T k → B0 ≤ k) (hb : Below w.heap.size w w3) (h0 : w.heap.size ≤ B0) (h3 : B0 ≤ w3.heap.size) : Below w.heap.size w wk := by
  obtain ⟨G, pw, h⟩ := h
  exact hb.trans ((h.left.below hT h3).mono h0)

set_option maxRecDepth 20000 in
set_option maxHeartbeats 6400000 in
theorem storyFirst_any (v u : Value) (xs ys : List Tst) (w : World) (h : TLst w v xs) (h2 : TLst w u ys) :
    Calls Try.prog 4 #[v, u] w fun e w' => e = .returned (.bool true) ∧ Below w.heap.size w w' := by
  have HX : Hid (TLst w v xs) := h
  have HY : Hid (TLst w u ys) := h2
  obtain ⟨a, cap, rfl⟩ := h.len
  obtain ⟨a2, cap2, rfl⟩ := h2.len
  clear h h2
  go_enter Try.func4, Try.ntmps4
  go_wp2_with fail
  refine (sbegun_any _).mono ?_
  rintro e w0 ⟨rfl, hb0⟩
  have HB0 : Hid (Below w.heap.size w w0) := hb0
  clear hb0
  go_wp2_with fail
  refine (greatT_any _ xs _ (HX.out.below HB0.out)).mono ?_
  rintro e w1 ⟨gr, rfl, hgr, hw1⟩
  rw [hw1]
  clear hw1 w1
  cases gr
  · have hl := hgr rfl
    clear hgr
    go_wp2_with fail
    refine (greatT_any _ ys _ (HY.out.below HB0.out)).mono ?_
    rintro e w1 ⟨gr, rfl, hgr, hw1⟩
    rw [hw1]
    clear hw1 w1
    cases gr
    · have hl2 := hgr rfl
      clear hgr
      by_cases hsum : xs.length + ys.length ≤ 200
      · have hsb : decide ((200 : Int) < (xs.length : Int) + (ys.length : Int)) = false := decide_eq_false (by omega)
        go_wp2_with fail
        refine (played_any _ xs _ (HX.out.below HB0.out) hl).mono ?_
        rintro e w2 ⟨D, G, pw, t, rfl, hd⟩
        have H2 : Hid (DkAny w0.heap.size w0 (fun _ => False) D G pw t w2) := hd
        have g0 := hd.cells.book
        have hlt0 := hd.cells.lt
        clear hd hsb hsum
        go_wp2_with fail
        clear g0 hlt0
        refine (of_dk H2.out).mono ?_
        rintro e w3 ⟨P, rfl, hs, hb⟩
        obtain ⟨T, hT, hd3⟩ := H2.out.again hb
        have HT : Hid (∀ k, T k → w0.heap.size ≤ k ∧ k < w2.heap.size) := hT
        have HS3 : Hid (StTo w3 w2.heap.size P t.b) := hs
        have HB3 : Hid (Below w.heap.size w w3) := below_after (below_after HB0.out H2.out.below) hb
        have HLe : Hid (w.heap.size ≤ w0.heap.size ∧ w0.heap.size ≤ w3.heap.size) := ⟨HB0.out.size, Nat.le_trans H2.out.below.size hb.size⟩
        have HG : Hid (Good t.b) := H2.out.ti.good
        have H3 : Hid (FiD w0.heap.size w3 T D (playT t (ys.take 0)) w3) := ⟨_, _, hd3⟩
        clear hT hd3 hs hb H2
        generalize w2.heap.size = lo at *
        generalize w0.heap.size = B0 at *
        go_wp2_with fail
        go_loopw [7] (fun i wr => ∃ j : Nat, j ≤ ys.length ∧ i = .int .i64 j ∧ Hid (FiD B0 w3 T D (playT t (ys.take j)) wr)) (fun i _ => ys.length - (intOf i).toNat)
        case atStart => exact ⟨0, Nat.zero_le _, rfl, H3.out⟩
        case round =>
          obtain ⟨j, hj, rfl, HW⟩ := hrel
          clear H3
          have HBr : Hid (Below w.heap.size w wr) := HW.out.below (fun k e => (HT.out k e).1) HB3.out HLe.out.1 HLe.out.2
          by_cases hlt : j < ys.length
          · obtain ⟨G2, pw2, hd⟩ := HW.out
            have HN : Hid (playT t (ys.take (j + 1)) = (tDo (playT t (ys.take j)) ys[j]).2) := by
              show playT _ _ = _
              rw [List.take_succ_eq_append_getElem hlt, playT_snoc]
            obtain ⟨bb, off, rfl, hr⟩ := (HY.out.below HBr.out).row (by omega)
            obtain ⟨_, c0, c1, c2, c3, c4⟩ := hr.at_ j hlt
            generalize ys[j] = x at *
            obtain ⟨kind, w_, at_, many, text⟩ := x
            simp only at c0 c1 c2 c3 c4
            have H5 : Hid (DkAny B0 w3 T D G2 pw2 (playT t (ys.take j)) wr) := hd
            clear hr hd HW
            go_wp2_with fail
            refine (H5.out.does ⟨kind, w_, at_, many, text⟩).mono ?_
            rintro e w5 ⟨rfl, pw5, hd5, -⟩
            rw [← HN.out] at hd5
            have H6 : Hid (FiD B0 w3 T D (playT t (ys.take (j + 1))) w5) := ⟨_, _, hd5⟩
            clear hd5 H5 c0 c1 c2 c3 c4 HN HBr
            generalize (tDo _ _).1 = cq at *
            go_wp2_with fail
            go_roundw
            case rel => exact ⟨j + 1, by omega, by go_num, H6.out⟩
            case measure => simp [intOf]; omega
          · obtain rfl : j = ys.length := by omega
            obtain ⟨G2, pw2, hd⟩ := HW.out
            rw [List.take_length] at hd
            obtain ⟨es, hes⟩ := play_ds ys t
            generalize playT t ys = t2 at *
            have HDS : Hid (t2.b.ds = t.b.ds ++ es) := hes
            have H5 : Hid (DkAny B0 w3 T D G2 pw2 t2 wr) := hd
            have HS5 : Hid (StTo wr lo P t.b) := HS3.out.kept hd.left (fun k e => (HT.out k e).2)
            have HG2 : Hid (Good t2.b) := hd.ti.good
            have g0 := hd.cells.book
            have hlt0 := hd.cells.lt
            clear hd hes HW HS3
            go_wp2_with fail
            clear g0 hlt0
            refine (of_dk H5.out).mono ?_
            rintro e w6 ⟨P2, rfl, hs, hb⟩
            have H6 : Hid (FiI w lo P t.b wr.heap.size P2 t2.b w6) := ⟨below_after HBr.out hb, HS5.out.below hb, hs⟩
            have hN : t.b.ds.length ≤ 120 := HG.out.small
            have hN2 : t2.b.ds.length ≤ 120 := HG2.out.small
            have hNN : t.b.ds.length ≤ t2.b.ds.length := by rw [HDS.out, List.length_append]; omega
            have HEQ : Hid (∀ n : Nat, n ≤ t.b.ds.length → (thS t2.b n).map (·.c) = (thS t.b n).map (·.c) ∧ (thS t2.b n).map (·.by_) = (thS t.b n).map (·.by_)) := fun n hn => first_eq HG.out HG2.out HDS.out hn
            have HIN : Hid (∀ n : Nat, n ≤ t.b.ds.length → inS t.b n = true ∧ inS t2.b n = true) := fun n hn => ⟨inS_in hn, inS_in (by omega)⟩
            clear hs hb H5 HS5 HBr HB3 HDS HG HG2 HT HLe
            generalize wr.heap.size = lo2 at *
            generalize t.b = b at *
            generalize t2.b = b2 at *
            go_wp2_with fail
            refine (len_st H6.out.two hN2).mono ?_
            rintro e w7 ⟨rfl, hw7⟩
            rw [hw7]
            clear hw7 w7
            go_wp2_with fail
            refine (len_st H6.out.one hN).mono ?_
            rintro e w7 ⟨rfl, hw7⟩
            rw [hw7]
            clear hw7 w7
            have hcmp : decide ((b2.ds.length : Int) + 1 < (b.ds.length : Int) + 1) = false := decide_eq_false (by omega)
            have hcmp2 : decide ((b2.ds.length : Int) < (b.ds.length : Int)) = false := decide_eq_false (by omega)
            have hcmp3 : decide (b2.ds.length < b.ds.length) = false := decide_eq_false (by omega)
            go_wp2_with fail
            clear hcmp hcmp2 hcmp3
            go_loopw [9] (fun i wr => ∃ n : Nat, n ≤ b.ds.length + 1 ∧ i = .int .i64 n ∧ Hid (FiI w lo P b lo2 P2 b2 wr)) (fun i _ => b.ds.length + 1 - (intOf i).toNat)
            case atStart => exact ⟨0, Nat.zero_le _, rfl, H6.out⟩
            case round =>
              obtain ⟨n, hn, rfl, HW⟩ := hrel
              clear H6
              by_cases hlt : n ≤ b.ds.length
              · have hlti : decide ((n : Int) < (b.ds.length : Int) + 1) = true := decide_eq_true (by omega)
                go_wp2_with fail
                refine (len_st HW.out.one hN).mono ?_
                rintro e w7 ⟨rfl, hw7⟩
                rw [hw7]
                clear hw7 w7
                go_wp2_with fail
                refine (text_st HW.out.one n).mono ?_
                rintro e w8 ⟨rfl, hb8⟩
                rw [(HIN.out n hlt).1]
                have H8 : Hid (FiI w lo P b lo2 P2 b2 w8) := HW.out.after hb8
                clear hb8 HW hlti
                generalize hsa : strOfNums ((thS b n).map (·.c)) = sa
                have HSA : Hid (strOfNums ((thS b n).map (·.c)) = sa) := hsa
                clear hsa
                go_wp2_with fail
                refine (text_st H8.out.two n).mono ?_
                rintro e w9 ⟨rfl, hb9⟩
                rw [(HIN.out n hlt).2, (HEQ.out n hlt).1, HSA.out]
                have H9 : Hid (FiI w lo P b lo2 P2 b2 w9) := H8.out.after hb9
                clear hb9 H8
                go_wp2_with fail
                refine (by_st H9.out.one n).mono ?_
                rintro e w10 ⟨v10, rfl, hi, hb10⟩
                rw [(HIN.out n hlt).1]
                have H10 : Hid (FiI w lo P b lo2 P2 b2 w10) := H9.out.after hb10
                have HP : Hid (ILst w10 v10 ((thS b n).map (·.by_))) := hi
                clear hb10 H9 hi
                go_wp2_with fail
                refine (by_st H10.out.two n).mono ?_
                rintro e w11 ⟨v11, rfl, hi, hb11⟩
                rw [(HIN.out n hlt).2]
                rw [(HEQ.out n hlt).2] at hi
                have H11 : Hid (FiI w lo P b lo2 P2 b2 w11) := H10.out.after hb11
                have HP1 : Hid (ILst w11 v10 ((thS b n).map (·.by_))) := HP.out.below hb11
                have HQ1 : Hid (ILst w11 v11 ((thS b n).map (·.by_))) := hi
                have hle : ((thS b n).map (·.by_)).length ≤ 1000 := by
                  rw [List.length_map]
                  have := thS_le b n
                  have := small_chars (b := b)
                  omega
                clear hb11 H10 hi HP
                generalize (thS b n).map (·.by_) = zs at *
                go_wp2_with fail
                refine (sameInts_eq HP1.out HQ1.out hle).mono ?_
                rintro e w12 ⟨rfl, hb12⟩
                have H12 : Hid (FiI w lo P b lo2 P2 b2 w12) := H11.out.after hb12
                clear hb12 H11 HP1 HQ1
                go_wp2_with fail
                go_roundw
                case rel => exact ⟨n + 1, by omega, by go_num, H12.out⟩
                case measure => simp [intOf]; omega
              · have hlti : decide ((n : Int) < (b.ds.length : Int) + 1) = false := decide_eq_false (by omega)
                go_wp2_with fail
                refine (len_st HW.out.one hN).mono ?_
                rintro e w7 ⟨rfl, hw7⟩
                rw [hw7]
                clear hw7 w7
                go_wp2_with fail
                go_ret
                exact ⟨rfl, HW.out.below⟩
      · have hsb : decide ((200 : Int) < (xs.length : Int) + (ys.length : Int)) = true := decide_eq_true (by omega)
        go_wp2_with fail
        go_ret
        exact ⟨rfl, HB0.out⟩
    · go_wp2_with fail
      go_ret
      exact ⟨rfl, HB0.out⟩
  · go_wp2_with fail
    go_ret
    exact ⟨rfl, HB0.out⟩

theorem law_storyfirst (w : World) {v u : Value} {xs ys : List Tst} (h : TLst w v xs) (h2 : TLst w u ys) :
    Calls Try.prog 4 #[v, u] w fun e w' => e = .returned (.bool true) ∧ Below w.heap.size w w' := storyFirst_any v u xs ys w h h2

end Go.Proofs.Ytfpemdbiplfkgad
