/-
  The walk of the law ClearSlides.
-/
import Derived.Test.YtebhbhcjfnohmabCApart
namespace Go.Proofs.Ytebhbhcjfnohmab
open Go.RowKit

/-- In the law: the mark in its box, and the list. -/
structure CsInv (w : World) (m : Mk) (v : Value) (l : List Ch) (wk : World) : Prop where
  below : Below w.heap.size w wk
  box : MBox m w.heap.size wk
  lst : Lst wk v l

theorem CsInv.after {w wk w' : World} {m : Mk} {v : Value} {l : List Ch} (h : CsInv w m v l wk) (hb : Below wk.heap.size wk w') : CsInv w m v l w' :=
  ⟨below_after h.below hb, h.box.after hb, h.lst.below hb⟩

theorem csinv_start {w : World} (m : Mk) {v : Value} {l : List Ch} (h : Lst w v l) : CsInv w m v l (w.alloc (mObj m)) :=
  ⟨below1 _ _, mbox_start w m, h.below (below1 _ _)⟩

/-- At the end of the law: both lists. -/
structure CeInv (w : World) (v x : Value) (l xl : List Ch) (wk : World) : Prop where
  below : Below w.heap.size w wk
  lst : Lst wk v l
  lx : Lst wk x xl

theorem CeInv.after {w wk w' : World} {v x : Value} {l xl : List Ch} (h : CeInv w v x l xl wk) (hb : Below wk.heap.size wk w') : CeInv w v x l xl w' :=
  ⟨below_after h.below hb, h.lst.below hb, h.lx.below hb⟩

set_option maxRecDepth 20000 in
set_option maxHeartbeats 1600000 in
theorem law_clearSlides {w : World} {v : Value} {l : List Ch} (h : Lst w v l) (m : Mk) (least seen by_ : Int) :
    Calls Try.prog 11 #[v, mkV m, .int .i64 least, .int .i64 seen, .int .i64 by_] w fun e w' => e = .returned (.bool true) ∧ Below w.heap.size w w' := by
  have HI : Hid (CsInv _ _ _ _ _) := csinv_start m h
  obtain ⟨ad, cap, rfl, hcap⟩ := h.len
  obtain ⟨ms, mb, mn, mk⟩ := m
  unfold mObj at HI
  simp only at HI
  clear h
  by_cases h3 : 300 < l.length
  · have h3I : (300 : Int) < (l.length : Int) := by omega
    go_enter Try.func11, Try.ntmps11
    go_wp2_with fail
    refine (clearBegun_any _).mono ?_
    rintro e w1 ⟨rfl, hb⟩
    have HB : Hid _ := (HI.out.after hb).below
    clear hb HI
    go_wp2
    go_ret
    exact ⟨rfl, HB.out⟩
  have h3I : ¬ (300 : Int) < (l.length : Int) := by omega
  go_enter Try.func11, Try.ntmps11
  go_wp2_with fail
  refine (clearBegun_any _).mono ?_
  rintro e w1 ⟨rfl, hb⟩
  have HI1 : Hid (CsInv _ _ _ _ _) := HI.out.after hb
  clear hb HI
  go_wp2_with fail
  refine (apart_lst HI1.out.lst (by omega)).mono ?_
  rintro e w2 ⟨r, rfl, hr, hb⟩
  have HI2 : Hid (CsInv _ _ _ _ _) := HI1.out.after hb
  have HR : Hid _ := hr
  clear hb HI1 hr
  cases r with
  | false =>
    go_wp2
    go_ret
    exact ⟨rfl, HI2.out.below⟩
  | true =>
    have HA : Hid (Apart l) := HR.out rfl
    clear HR
    by_cases hsl : seen < least
    · go_wp2
      go_ret
      exact ⟨rfl, HI2.out.below⟩
    have HLS : Hid (least ≤ seen) := (show least ≤ seen by omega)
    obtain ⟨_, c0, c1, c2, c3⟩ := HI2.out.box
    simp only at c0 c1 c2 c3
    go_wp2_with fail
    refine (place_lst ⟨ms, mb, mn, mk⟩ HI2.out.lst (by omega)).mono ?_
    rintro e w3 ⟨rfl, hb⟩
    have HI3 : Hid (CsInv _ _ _ _ _) := HI2.out.after hb
    clear hb HI2 c0 c1 c2 c3
    obtain ⟨_, c0, c1, c2, c3⟩ := HI3.out.box
    simp only at c0 c1 c2 c3
    go_wp2_with fail
    refine (slide_lst ⟨ms, mb, mn, mk⟩ least HI3.out.lst (by omega)).mono ?_
    rintro e w4 ⟨rfl, hb⟩
    have HI4 : Hid (CsInv _ _ _ _ _) := HI3.out.after hb
    clear hb HI3 c0 c1 c2 c3
    by_cases hp : placeM l ⟨ms, mb, mn, mk⟩ < 0
    · have hpd : decide (0 ≤ placeM l ⟨ms, mb, mn, mk⟩) = false := decide_eq_false (by omega)
      rw [hpd, slide_no hp]
      have HI5 : Hid (Below w.heap.size w (w4.alloc (mObj mkZero))) := below_after HI4.out.below (below1 _ _)
      unfold mkZero mObj at *
      clear hpd HI4
      go_wp2
      go_ret
      exact ⟨rfl, HI5.out⟩
    · obtain ⟨p, hpp⟩ := Int.eq_ofNat_of_zero_le (show 0 ≤ placeM l ⟨ms, mb, mn, mk⟩ by omega)
      have hpl : p ≤ l.length := by have := (place_bd l ⟨ms, mb, mn, mk⟩).2; omega
      have hpd : decide (0 ≤ placeM l ⟨ms, mb, mn, mk⟩) = true := decide_eq_true (by omega)
      obtain ⟨t, ht1, ht2, ht3⟩ := slide_keeps by_ HA.out HLS.out hpl
      rw [hpd, slide_yes hpp, hpp]
      have HT2 : Hid _ := ht2
      have HT3 : Hid _ := ht3
      generalize atM l (slideN least l p) = q at *
      have HB4 : Hid (Below w.heap.size w (w4.alloc (mObj q))) := below_after HI4.out.below (below1 _ _)
      have HL4 : Hid (Lst (w4.alloc (mObj q)) _ l) := HI4.out.lst.below (below1 _ _)
      have HQ4 : Hid (MBox q w4.heap.size (w4.alloc (mObj q))) := mbox_start w4 q
      obtain ⟨qs, qb, qn, qk⟩ := q
      unfold mObj at *
      simp only at HB4 HL4 HQ4
      have hxl := ofL_le least l
      clear hpd hp hpp ht2 ht3 HI4 HA
      go_wp2_with fail
      refine (of_lst least HL4.out (by omega)).mono ?_
      rintro e w5 ⟨v5, rfl, ho, hb⟩
      have HB5 : Hid (Below w.heap.size w w5) := below_after HB4.out hb
      have HL5 : Hid (Lst w5 _ l) := HL4.out.below hb
      have HX5 : Hid (Lst w5 v5 (ofL least l)) := ho.lst
      have HQ5 : Hid _ := HQ4.out.after hb
      obtain ⟨ax, cx, rfl, hcx⟩ := ho.lst.len
      clear hb ho HB4 HL4 HQ4
      obtain ⟨_, c0, c1, c2, c3⟩ := HQ5.out
      simp only at c0 c1 c2 c3
      go_wp2_with fail
      refine (place_lst ⟨qs, qb, qn, qk⟩ HX5.out (by omega)).mono ?_
      rintro e w6 ⟨rfl, hb⟩
      rw [HT2.out]
      have HE : Hid (CeInv w (.slice ad l.length cap) (.slice ax (ofL least l).length cx) l (ofL least l) w6) := ⟨below_after HB5.out hb, HL5.out.below hb, HX5.out.below hb⟩
      have hpI : ¬ (l.length : Int) < (p : Int) := by omega
      have htI : ¬ ((ofL least l).length : Int) < (t : Int) := by omega
      clear hb HT2 HB5 HL5 HX5 HQ5 c0 c1 c2 c3
      obtain ⟨aa, na, ca, hva, hvl⟩ := taken_val (ad := ad) (cap := cap) hpl hcap
      obtain ⟨ab, nb, cb, hvb, hvm⟩ := taken_val (ad := ax) (cap := cx) ht1 hcx
      have HVA : Hid _ := hva
      have HVL : Hid _ := hvl
      have HVB : Hid _ := hvb
      have HVM : Hid _ := hvm
      clear hva hvl hvb hvm
      go_wp2
      refine wp_region_quiet (C := fun wk => CeInv w (.slice ad l.length cap) (.slice ax (ofL least l).length cx) l (ofL least l) wk) (by kernel_rfl) (by kernel_rfl) (HE.out.after (Below.refl _ _).drew) ?_
      refine wpQuiet_step (fun K hK => ?_)
      go_simp
      refine ⟨_, fun _ _ => rfl, hK _ ?_⟩
      clear hK K
      refine wpQuiet_step (fun K hK => ?_)
      go_simp
      refine ⟨_, fun _ _ => rfl, hK _ ?_⟩
      clear hK K
      refine wpQuiet_step (fun K hK => ?_)
      refine ⟨.slice aa na ca, fun wk _ => ?_, hK _ ?_⟩
      · unfold Oper.quietAt
        rw [exec_slice rfl (HVA.out wk)]
        exact ⟨rfl, rfl⟩
      clear hK K
      refine wpQuiet_step (fun K hK => ?_)
      go_simp
      refine ⟨_, fun _ _ => rfl, hK _ ?_⟩
      clear hK K
      refine wpQuiet_step (fun K hK => ?_)
      go_simp
      refine ⟨_, fun _ _ => rfl, hK _ ?_⟩
      clear hK K
      refine wpQuiet_step (fun K hK => ?_)
      go_simp
      refine ⟨_, fun wk hwk => (count_lst (HVL.out wk hwk.lst) (by rw [List.length_take]; omega) seen by_).mono (fun _ _ ⟨he, hb⟩ => ⟨he, hwk.after hb⟩), hK _ ?_⟩
      clear hK K
      refine wpQuiet_step (fun K hK => ?_)
      go_simp
      refine ⟨_, fun _ _ => rfl, hK _ ?_⟩
      clear hK K
      refine wpQuiet_step (fun K hK => ?_)
      go_simp
      refine ⟨_, fun _ _ => rfl, hK _ ?_⟩
      clear hK K
      refine wpQuiet_step (fun K hK => ?_)
      refine ⟨.slice ab nb cb, fun wk _ => ?_, hK _ ?_⟩
      · unfold Oper.quietAt
        rw [exec_slice rfl (HVB.out wk)]
        exact ⟨rfl, rfl⟩
      clear hK K
      refine wpQuiet_step (fun K hK => ?_)
      go_simp
      refine ⟨_, fun _ _ => rfl, hK _ ?_⟩
      clear hK K
      refine wpQuiet_step (fun K hK => ?_)
      go_simp
      refine ⟨_, fun _ _ => rfl, hK _ ?_⟩
      clear hK K
      refine wpQuiet_step (fun K hK => ?_)
      go_simp
      refine ⟨_, fun wk hwk => (count_lst (HVM.out wk hwk.lx) (by rw [List.length_take]; omega) seen by_).mono (fun _ _ ⟨he, hb⟩ => ⟨he, hwk.after hb⟩), hK _ ?_⟩
      clear hK K
      rw [HT3.out]
      refine wpQuiet_step (fun K hK => ?_)
      go_simp
      refine ⟨_, fun _ _ => rfl, hK _ ?_⟩
      clear hK K
      refine wpQuiet_step (fun K hK => ?_)
      go_simp
      refine ⟨_, fun _ _ => rfl, hK _ ?_⟩
      clear hK K
      refine wpQuiet_nil ?_
      intro w7 hw7
      have HE7 : Hid (CeInv _ _ _ _ _ _) := hw7
      clear hw7 HE
      go_wp2
      go_ret
      exact ⟨ret_b (by simp), HE7.out.below⟩

end Go.Proofs.Ytebhbhcjfnohmab
