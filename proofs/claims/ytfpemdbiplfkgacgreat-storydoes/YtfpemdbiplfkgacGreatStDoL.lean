/-
  The law StoryDoes: every Of, Len, Text, By and Where is as the document says.
-/
import Derived.Test.YtfpemdbiplfkgacGreatStW
namespace Go.Proofs.YtfpemdbiplfkgacGreat
open Go Go.RowKit

/-- Desks, whatever is kept of an elder world. -/
def DkE (D G : Nat) (t : Twn) (wk : World) : Prop := ∃ base w0 S pw, DkAny base w0 S D G pw t wk
theorem DkE.after {D G : Nat} {t : Twn} {wk w' : World} (h : DkE D G t wk) (hb : Below wk.heap.size wk w') : DkE D G t w' := by
  obtain ⟨base, w0, S, pw, h⟩ := h
  exact ⟨_, _, _, _, h.after hb⟩
theorem DkE.cells {D G : Nat} {t : Twn} {wk : World} (h : DkE D G t wk) : wk.cell? ⟨D, 0, none⟩ = some (.pointer (some ⟨G, 0, none⟩)) ∧ D < wk.heap.size := by
  obtain ⟨base, w0, S, pw, h⟩ := h
  exact ⟨h.cells.book, h.cells.lt⟩
theorem DkE.text {D G : Nat} {t : Twn} {wk : World} (h : DkE D G t wk) :
    Calls Tryz.prog 42 #[.pointer (some ⟨G, 0, none⟩)] wk fun e w' => e = .returned (.string (strOfNums (textL t.b.chars))) ∧ Below wk.heap.size wk w' := by
  obtain ⟨base, w0, S, pw, h⟩ := h
  exact h.text
theorem DkE.deeds {D G : Nat} {t : Twn} {wk : World} (h : DkE D G t wk) :
    Calls Tryz.prog 34 #[.pointer (some ⟨D, 0, none⟩)] wk fun e w' => ∃ v, e = .returned v ∧ DLst w' v t.b.ds ∧ Below wk.heap.size wk w' := by
  obtain ⟨base, w0, S, pw, h⟩ := h
  exact deedsOf_any h

/-- All that the law asks of. -/
structure DoI (w : World) (x : Ch) (D G : Nat) (t : Twn) (lo P : Nat) (wk : World) : Prop where
  box : FInv w x wk
  dk : DkE D G t wk
  st : StTo wk lo P t.b
theorem DoI.after {w wk w' : World} {x : Ch} {D G lo P : Nat} {t : Twn} (h : DoI w x D G t lo P wk) (hb : Below wk.heap.size wk w') : DoI w x D G t lo P w' := ⟨h.box.after hb, h.dk.after hb, h.st.below hb⟩
structure DoJ (w : World) (x : Ch) (D G : Nat) (t : Twn) (lo P : Nat) (dv bv rv : Value) (zs : List Int) (wk : World) : Prop where
  i : DoI w x D G t lo P wk
  ds : DLst wk dv t.b.ds
  b : ILst wk bv zs
  r : ILst wk rv zs
theorem DoJ.after {w wk w' : World} {x : Ch} {D G lo P : Nat} {t : Twn} {dv bv rv : Value} {zs : List Int} (h : DoJ w x D G t lo P dv bv rv zs wk) (hb : Below wk.heap.size wk w') : DoJ w x D G t lo P dv bv rv zs w' := ⟨h.i.after hb, h.ds.below hb, h.b.below hb, h.r.below hb⟩

theorem last_text {b : Bk} (hg : Good b) : (thS b (b.ds.length : Int)).map (·.c) = textL b.chars ∧ inS b (b.ds.length : Int) = true := by
  refine ⟨?_, inS_in (Nat.le_refl _)⟩
  rw [thS_in (Nat.le_refl _)]
  have := story_text hg (Nat.le_refl b.ds.length)
  rw [chars_all] at this
  exact this

set_option maxRecDepth 20000 in
set_option maxHeartbeats 6400000 in
theorem storyDoes_any (v : Value) (xs : List Tst) (n : Int) (x : Ch) (w : World) (h : TLst w v xs) :
    Calls Tryz.prog 5 #[v, .int .i64 n, chV x] w fun e w' => e = .returned (.bool true) ∧ Below w.heap.size w w' := by
  have HX : Hid (TLst w v xs) := h
  obtain ⟨a, cap, rfl⟩ := h.len
  obtain ⟨c, by_, no, k_, inn, out, gone⟩ := x
  have HF : Hid (FInv w ⟨c, by_, no, k_, inn, out, gone⟩ (w.alloc (.cells #[.int .u8 c, .int .i64 by_, .int .i64 no, .int .i64 k_, .int .i64 inn, .int .i64 out, .int .i64 gone] 71))) := finv_start w ⟨c, by_, no, k_, inn, out, gone⟩
  clear h
  go_enter Tryz.func5, Tryz.ntmps5
  go_wp2_with fail
  refine (sbegun_any _).mono ?_
  rintro e w0 ⟨rfl, hb0⟩
  have HF0 : Hid (FInv w ⟨c, by_, no, k_, inn, out, gone⟩ w0) := HF.out.after hb0
  clear hb0 HF
  go_wp2_with fail
  refine (greatT_any _ xs _ (HX.out.below HF0.out.below)).mono ?_
  rintro e w1 ⟨gr, rfl, hgr, hw1⟩
  rw [hw1]
  clear hw1 w1
  cases gr
  · have hl := hgr rfl
    clear hgr
    go_wp2_with fail
    refine (played_any _ xs _ (HX.out.below HF0.out.below) hl).mono ?_
    rintro e w2 ⟨D, G, pw, t, rfl, hd⟩
    have HF2 : Hid (FInv w ⟨c, by_, no, k_, inn, out, gone⟩ w2) := HF0.out.after hd.below
    have H2 : Hid (DkE D G t w2) := ⟨_, _, _, _, hd⟩
    have HG : Hid (Good t.b) := hd.ti.good
    have hN : t.b.ds.length ≤ 120 := hd.ti.good.small
    have g0 := hd.cells.book
    have hlt0 := hd.cells.lt
    clear hd HF0
    go_wp2_with fail
    clear g0 hlt0
    obtain ⟨base, wz, Sz, pwz, hdz⟩ := H2.out
    refine (of_dk hdz).mono ?_
    rintro e w3 ⟨P, rfl, hs, hb⟩
    have H3 : Hid (DoI w ⟨c, by_, no, k_, inn, out, gone⟩ D G t w2.heap.size P w3) := ⟨HF2.out.after hb, H2.out.after hb, hs⟩
    clear hs hb H2 HF2 hdz
    generalize w2.heap.size = lo at *
    go_wp2_with fail
    refine H3.out.dk.deeds.mono ?_
    rintro e w4 ⟨dv, rfl, hds, hb⟩
    have H4 : Hid (DoI w ⟨c, by_, no, k_, inn, out, gone⟩ D G t lo P w4) := H3.out.after hb
    have HD4 : Hid (DLst w4 dv t.b.ds) := hds
    obtain ⟨da, dc, rfl, hdc⟩ := dlst_len hds
    clear hds hb H3
    go_wp2_with fail
    refine (text_st H4.out.st n).mono ?_
    rintro e w5 ⟨rfl, hb⟩
    have H5 : Hid (DoI w ⟨c, by_, no, k_, inn, out, gone⟩ D G t lo P w5) := H4.out.after hb
    have HD5 : Hid (DLst w5 (.slice da t.b.ds.length dc) t.b.ds) := HD4.out.below hb
    clear hb H4 HD4
    obtain ⟨sa, hsa⟩ : ∃ sa, strOfNums ((thS t.b n).map (·.c)) = sa := ⟨_, rfl⟩
    have HSA : Hid (strOfNums ((thS t.b n).map (·.c)) = sa) := hsa
    obtain ⟨ok, hok⟩ : ∃ ok, inS t.b n = ok := ⟨_, rfl⟩
    have HOK : Hid (inS t.b n = ok) := hok
    rw [hsa, hok]
    clear hsa hok
    go_wp2_with fail
    refine (by_st H5.out.st n).mono ?_
    rintro e w6 ⟨bv, rfl, hi, hb⟩
    rw [HOK.out]
    have H6 : Hid (DoI w ⟨c, by_, no, k_, inn, out, gone⟩ D G t lo P w6) := H5.out.after hb
    have HD6 : Hid (DLst w6 (.slice da t.b.ds.length dc) t.b.ds) := HD5.out.below hb
    have HI6 : Hid (ILst w6 bv ((thS t.b n).map (·.by_))) := hi
    clear hb hi H5 HD5
    go_wp2_with fail
    refine (told_any HD6.out HG.out n).mono ?_
    rintro e w7 ⟨rv, rfl, hi, hb⟩
    rw [HSA.out, HOK.out]
    have hzl : ((thS t.b n).map (·.by_)).length ≤ 1000 := by
      rw [List.length_map]
      have := thS_le t.b n
      have := small_chars (b := t.b)
      omega
    obtain ⟨zs, hzs⟩ : ∃ zs, (thS t.b n).map (·.by_) = zs := ⟨_, rfl⟩
    rw [hzs] at hi HI6 hzl
    have H7 : Hid (DoJ w ⟨c, by_, no, k_, inn, out, gone⟩ D G t lo P (.slice da t.b.ds.length dc) bv rv zs w7) := ⟨H6.out.after hb, HD6.out.below hb, HI6.out.below hb, hi⟩
    clear hb hi H6 HD6 HI6 hzs
    obtain ⟨wh, hwh⟩ : ∃ wh, whS (thS t.b n) ⟨c, by_, no, k_, inn, out, gone⟩ = wh := ⟨_, rfl⟩
    have HWH : Hid (whS (thS t.b n) ⟨c, by_, no, k_, inn, out, gone⟩ = wh) := hwh
    clear hwh
    go_wp2_with fail
    refine wp_region_quiet (C := fun wk => DoJ w ⟨c, by_, no, k_, inn, out, gone⟩ D G t lo P (.slice da t.b.ds.length dc) bv rv zs wk) (by kernel_rfl) (by kernel_rfl) (H7.out.after (Below.refl _ _).drew) ?_
    refine wpQuiet_step (fun K hK => ?_)
    go_simp
    refine ⟨_, fun _ _ => rfl, hK _ ?_⟩
    clear hK K
    refine wpQuiet_step (fun K hK => ?_)
    go_simp
    refine ⟨.int .i64 ((t.b.ds.length : Int) + 1), fun wk hwk => (len_st hwk.i.st hN).mono (fun _ _ ⟨he, hb⟩ => ⟨he, by rw [hb]; exact hwk⟩), hK _ ?_⟩
    clear hK K
    refine wpQuiet_step (fun K hK => ?_)
    go_simp
    refine ⟨_, fun _ _ => rfl, hK _ ?_⟩
    clear hK K
    refine wpQuiet_step (fun K hK => ?_)
    go_simp
    refine ⟨.int .i64 (t.b.ds.length : Int), fun wk hwk => ?_, hK _ ?_⟩
    · go_simp
    clear hK K
    refine wpQuiet_step (fun K hK => ?_)
    go_simp
    refine ⟨.int .i64 ((t.b.ds.length : Int) + 1), fun wk hwk => ?_, hK _ ?_⟩
    · go_simp
      rw [IntKind.wrap_i64]
      omega
    clear hK K
    refine wpQuiet_step (fun K hK => ?_)
    go_simp
    refine ⟨.bool false, fun wk hwk => ?_, hK _ ?_⟩
    · go_simp
    clear hK K
    refine wpQuiet_step (fun K hK => ?_)
    go_simp
    refine ⟨_, fun _ _ => rfl, hK _ ?_⟩
    clear hK K
    refine wpQuiet_step (fun K hK => ?_)
    go_simp
    refine ⟨_, fun _ _ => rfl, hK _ ?_⟩
    clear hK K
    refine wpQuiet_step (fun K hK => ?_)
    go_simp
    refine ⟨_, fun _ _ => rfl, hK _ ?_⟩
    clear hK K
    refine wpQuiet_step (fun K hK => ?_)
    go_simp
    refine ⟨.bool false, fun wk hwk => ?_, hK _ ?_⟩
    · go_simp
    clear hK K
    refine wpQuiet_step (fun K hK => ?_)
    go_simp
    refine ⟨.bool false, fun wk hwk => ?_, hK _ ?_⟩
    · go_simp
    clear hK K
    refine wpQuiet_step (fun K hK => ?_)
    go_simp
    refine ⟨_, fun _ _ => rfl, hK _ ?_⟩
    clear hK K
    refine wpQuiet_step (fun K hK => ?_)
    go_simp
    refine ⟨_, fun _ _ => rfl, hK _ ?_⟩
    clear hK K
    refine wpQuiet_step (fun K hK => ?_)
    go_simp
    refine ⟨_, fun _ _ => rfl, hK _ ?_⟩
    clear hK K
    refine wpQuiet_step (fun K hK => ?_)
    go_simp
    refine ⟨.bool true, fun wk hwk => (sameInts_eq hwk.b hwk.r hzl).mono (fun _ _ ⟨he, hb⟩ => ⟨he, hwk.after hb⟩), hK _ ?_⟩
    clear hK K
    refine wpQuiet_step (fun K hK => ?_)
    go_simp
    refine ⟨.bool false, fun wk hwk => ?_, hK _ ?_⟩
    · go_simp
    clear hK K
    refine wpQuiet_step (fun K hK => ?_)
    go_simp
    refine ⟨.bool false, fun wk hwk => ?_, hK _ ?_⟩
    · go_simp
    clear hK K
    refine wpQuiet_step (fun K hK => ?_)
    go_simp
    refine ⟨_, fun _ _ => rfl, hK _ ?_⟩
    clear hK K
    refine wpQuiet_step (fun K hK => ?_)
    go_simp
    refine ⟨_, fun _ _ => rfl, hK _ ?_⟩
    clear hK K
    refine wpQuiet_step (fun K hK => ?_)
    go_simp
    refine ⟨_, fun _ _ => rfl, hK _ ?_⟩
    clear hK K
    refine wpQuiet_step (fun K hK => ?_)
    go_simp
    refine ⟨.bool false, fun wk hwk => ?_, hK _ ?_⟩
    · go_simp
    clear hK K
    refine wpQuiet_step (fun K hK => ?_)
    go_simp
    refine ⟨.bool false, fun wk hwk => ?_, hK _ ?_⟩
    · go_simp
    clear hK K
    refine wpQuiet_step (fun K hK => ?_)
    go_simp
    refine ⟨_, fun _ _ => rfl, hK _ ?_⟩
    clear hK K
    refine wpQuiet_step (fun K hK => ?_)
    go_simp
    refine ⟨_, fun _ _ => rfl, hK _ ?_⟩
    clear hK K
    refine wpQuiet_step (fun K hK => ?_)
    go_simp
    refine ⟨_, fun _ _ => rfl, hK _ ?_⟩
    clear hK K
    refine wpQuiet_step (fun K hK => ?_)
    go_simp
    refine ⟨.bool false, fun wk hwk => ?_, hK _ ?_⟩
    · go_simp
    clear hK K
    refine wpQuiet_step (fun K hK => ?_)
    go_simp
    refine ⟨.bool false, fun wk hwk => ?_, hK _ ?_⟩
    · go_simp
    clear hK K
    refine wpQuiet_step (fun K hK => ?_)
    go_simp
    refine ⟨_, fun _ _ => rfl, hK _ ?_⟩
    clear hK K
    refine wpQuiet_step (fun K hK => ?_)
    go_simp
    refine ⟨_, fun _ _ => rfl, hK _ ?_⟩
    clear hK K
    refine wpQuiet_step (fun K hK => ?_)
    go_simp
    refine ⟨_, fun _ _ => rfl, hK _ ?_⟩
    clear hK K
    refine wpQuiet_step (fun K hK => ?_)
    go_simp
    refine ⟨chV ⟨c, by_, no, k_, inn, out, gone⟩, fun wk hwk => ?_, hK _ ?_⟩
    · obtain ⟨q0, q1, q2, q3, q4, q5, q6⟩ := hwk.i.box.at_
      simp only [Nat.zero_add] at q1 q2 q3 q4 q5 q6
      have hbs := hwk.i.box.size
      go_simp
    clear hK K
    refine wpQuiet_step (fun K hK => ?_)
    go_simp
    refine ⟨.int .i64 wh, fun wk hwk => (where_st hwk.i.st n ⟨c, by_, no, k_, inn, out, gone⟩).mono (fun _ _ ⟨he, hb⟩ => ⟨by rw [he, HWH.out], hwk.after hb⟩), hK _ ?_⟩
    clear hK K
    refine wpQuiet_step (fun K hK => ?_)
    go_simp
    refine ⟨_, fun _ _ => rfl, hK _ ?_⟩
    clear hK K
    refine wpQuiet_step (fun K hK => ?_)
    go_simp
    refine ⟨_, fun _ _ => rfl, hK _ ?_⟩
    clear hK K
    refine wpQuiet_step (fun K hK => ?_)
    go_simp
    refine ⟨chV ⟨c, by_, no, k_, inn, out, gone⟩, fun wk hwk => ?_, hK _ ?_⟩
    · obtain ⟨q0, q1, q2, q3, q4, q5, q6⟩ := hwk.i.box.at_
      simp only [Nat.zero_add] at q1 q2 q3 q4 q5 q6
      have hbs := hwk.i.box.size
      go_simp
    clear hK K
    refine wpQuiet_step (fun K hK => ?_)
    go_simp
    refine ⟨.int .i64 wh, fun wk hwk => (whereIs_any hwk.ds HG.out n ⟨c, by_, no, k_, inn, out, gone⟩).mono (fun _ _ ⟨he, hb⟩ => ⟨by rw [he, HWH.out], hwk.after hb⟩), hK _ ?_⟩
    clear hK K
    refine wpQuiet_step (fun K hK => ?_)
    go_simp
    refine ⟨.bool false, fun wk hwk => ?_, hK _ ?_⟩
    · go_simp
    clear hK K
    refine wpQuiet_step (fun K hK => ?_)
    go_simp
    refine ⟨.bool false, fun wk hwk => ?_, hK _ ?_⟩
    · go_simp
    clear hK K
    refine wpQuiet_nil ?_
    intro w9 hw9
    have H9 : Hid (DoJ w ⟨c, by_, no, k_, inn, out, gone⟩ D G t lo P (.slice da t.b.ds.length dc) bv rv zs w9) := hw9
    clear hw9
    have H10 : Hid (DoI w ⟨c, by_, no, k_, inn, out, gone⟩ D G t lo P w9) := H9.out.i
    clear H9 H7
    go_wp2_with fail
    refine (text_st H10.out.st (t.b.ds.length : Int)).mono ?_
    rintro e w10 ⟨rfl, hb⟩
    rw [(last_text HG.out).1, (last_text HG.out).2]
    have H11 : Hid (DoI w ⟨c, by_, no, k_, inn, out, gone⟩ D G t lo P w10) := H10.out.after hb
    clear hb H10
    obtain ⟨sl, hsl⟩ : ∃ sl, strOfNums (textL t.b.chars) = sl := ⟨_, rfl⟩
    have HSL : Hid (strOfNums (textL t.b.chars) = sl) := hsl
    rw [hsl]
    clear hsl
    obtain ⟨g0, hlt0⟩ := H11.out.dk.cells
    go_wp2_with fail
    clear g0 hlt0
    refine H11.out.dk.text.mono ?_
    rintro e w11 ⟨rfl, hb⟩
    rw [HSL.out]
    have HBE : Hid (Below w.heap.size w w11) := (H11.out.after hb).box.below
    clear hb H11
    go_wp2_with fail
    go_ret
    exact ⟨rfl, HBE.out⟩
  · go_wp2_with fail
    go_ret
    exact ⟨rfl, HF0.out.below⟩

theorem law_storydoes (w : World) {v : Value} {xs : List Tst} (h : TLst w v xs) (n : Int) (x : Ch) :
    Calls Tryz.prog 5 #[v, .int .i64 n, chV x] w fun e w' => e = .returned (.bool true) ∧ Below w.heap.size w w' := storyDoes_any v xs n x w h

end Go.Proofs.YtfpemdbiplfkgacGreat
