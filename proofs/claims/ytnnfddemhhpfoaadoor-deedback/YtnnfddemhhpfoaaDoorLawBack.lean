/-
  The walk of the law DeedBack.
-/
import Derived.Test.YtnnfddemhhpfoaaDoorDBegun
namespace Go.Proofs.YtnnfddemhhpfoaaDoor
open Go.RowKit

theorem two_start (w : World) (d e : Dd) : Hid (Below w.heap.size w ((w.alloc (ddObj d)).alloc (ddObj e)) ∧ At7 ((w.alloc (ddObj d)).alloc (ddObj e)) w.heap.size d ∧ At7 ((w.alloc (ddObj d)).alloc (ddObj e)) (w.heap.size + 1) e) := by
  have h1 : Below w.heap.size w (w.alloc (ddObj d)) := (Below.refl _ _).alloc (Nat.le_refl _) _
  refine ⟨h1.alloc h1.size _, (at7_start w d).alloc _, ?_⟩
  have := at7_start (w.alloc (ddObj d)) e
  simpa using this

set_option maxHeartbeats 1000000 in
theorem back_great (d e : Dd) (s : ByteArray) (w : World) (hw : Ready w) (h : 1000 < wrap64 (d.text.size + e.text.size) ∨ (¬ 1000 < wrap64 (d.text.size + e.text.size) ∧ 1000 < s.size)) :
    Calls Tryd.prog 4 #[ddV d, ddV e, .string s] w fun e w' => e = .returned (.bool true) ∧ Below w.heap.size w w' := by
  have HW : Hid _ := hw
  have H2 := two_start w d e
  unfold ddObj at H2
  obtain ⟨kind, by_, no, seen, at_, many, text⟩ := d
  obtain ⟨kind2, by2, no2, seen2, at2, many2, text2⟩ := e
  clear hw
  simp only at h
  rcases h with h | ⟨h, h'⟩
  · have hd : decide (1000 < wrap64 (text.size + text2.size)) = true := decide_eq_true h
    clear h
    go_enter Tryd.func4, Tryd.ntmps4
    go_wp2_with fail
    refine (begun_any _ (HW.out.below H2.out.1)).mono ?_
    rintro e w1 ⟨rfl, hb1⟩
    have HB1 : Hid _ := below_after H2.out.1 hb1
    obtain ⟨_, c0, c1, c2, c3, c4, c5, c6⟩ := H2.out.2.1.below hb1
    obtain ⟨_, e0, e1, e2, e3, e4, e5, e6⟩ := H2.out.2.2.below hb1
    clear hb1 H2
    go_wp2
    go_ret
    exact ⟨rfl, HB1.out⟩
  · have hd : decide (1000 < wrap64 (text.size + text2.size)) = false := decide_eq_false h
    clear h
    go_enter Tryd.func4, Tryd.ntmps4
    go_wp2_with fail
    refine (begun_any _ (HW.out.below H2.out.1)).mono ?_
    rintro e w1 ⟨rfl, hb1⟩
    have HB1 : Hid _ := below_after H2.out.1 hb1
    obtain ⟨_, c0, c1, c2, c3, c4, c5, c6⟩ := H2.out.2.1.below hb1
    obtain ⟨_, e0, e1, e2, e3, e4, e5, e6⟩ := H2.out.2.2.below hb1
    clear hb1 H2
    go_wp2
    go_ret
    exact ⟨rfl, HB1.out⟩

/-! The ways. -/

theorem code_zero {o : Option Dd} (h : codeD o = 0) : ∃ x, o = some x ∧ checkC x = 0 := by
  cases o with
  | none => cases h
  | some x => exact ⟨x, rfl, h⟩

theorem code_not {o : Option Dd} (h : ¬ codeD o = 0) : valD o = zeroD := by
  cases o with
  | none => rfl
  | some x =>
    have h' : ¬ checkC x = 0 := h
    rw [valD, if_neg h']

theorem dd_diff {a0 a1 a2 a3 a4 a5 b0 b1 b2 b3 b4 b5 : Int} {t u : ByteArray} (h : (⟨a0, a1, a2, a3, a4, a5, t⟩ : Dd) ≠ ⟨b0, b1, b2, b3, b4, b5, u⟩) :
    ¬ a0 = b0 ∨ (a0 = b0 ∧ ¬ a1 = b1) ∨ (a0 = b0 ∧ a1 = b1 ∧ ¬ a2 = b2) ∨ (a0 = b0 ∧ a1 = b1 ∧ a2 = b2 ∧ ¬ a3 = b3) ∨ (a0 = b0 ∧ a1 = b1 ∧ a2 = b2 ∧ a3 = b3 ∧ ¬ a4 = b4)
      ∨ (a0 = b0 ∧ a1 = b1 ∧ a2 = b2 ∧ a3 = b3 ∧ a4 = b4 ∧ ¬ a5 = b5) ∨ (a0 = b0 ∧ a1 = b1 ∧ a2 = b2 ∧ a3 = b3 ∧ a4 = b4 ∧ a5 = b5 ∧ ¬ t.toList = u.toList) := by
  by_cases h0 : a0 = b0
  · by_cases h1 : a1 = b1
    · by_cases h2 : a2 = b2
      · by_cases h3 : a3 = b3
        · by_cases h4 : a4 = b4
          · by_cases h5 : a5 = b5
            · refine .inr (.inr (.inr (.inr (.inr (.inr ⟨h0, h1, h2, h3, h4, h5, fun e => h ?_⟩)))))
              rw [ByteArray.toList_eq, ByteArray.toList_eq] at e
              rw [h0, h1, h2, h3, h4, h5, ba_ext e]
            · exact .inr (.inr (.inr (.inr (.inr (.inl ⟨h0, h1, h2, h3, h4, h5⟩)))))
          · exact .inr (.inr (.inr (.inr (.inl ⟨h0, h1, h2, h3, h4⟩))))
        · exact .inr (.inr (.inr (.inl ⟨h0, h1, h2, h3⟩)))
      · exact .inr (.inr (.inl ⟨h0, h1, h2⟩))
    · exact .inr (.inl ⟨h0, h1⟩)
  · exact .inl h0

set_option maxHeartbeats 4000000 in
theorem back_same (d e : Dd) (s : ByteArray) (w : World) (hw : Ready w) (h : ¬ 1000 < wrap64 (d.text.size + e.text.size)) (hs : s.size ≤ 1000) (hc : checkC d = 0) (hn : d = e) :
    Calls Tryd.prog 4 #[ddV d, ddV e, .string s] w fun e w' => e = .returned (.bool true) ∧ Below w.heap.size w w' := by
  have HW : Hid _ := hw
  have H2 := two_start w d e
  unfold ddObj at H2
  have hd : decide (1000 < wrap64 (d.text.size + e.text.size)) = false := decide_eq_false h
  have HC : Hid _ := hc
  have HP : Hid _ := line_back hc
  have HV : Hid (valD (some d) = d) := by show valD (some d) = d; rw [valD, if_pos hc]
  have HCC : Hid (codeD (some d) = 0) := hc
  have HZ : Hid _ := lineS_size d
  subst hn
  obtain ⟨kind, by_, no, seen, at_, many, text⟩ := d
  simp only at hd
  clear hw hc h
  go_enter Tryd.func4, Tryd.ntmps4
  go_wp2_with fail
  refine (begun_any _ (HW.out.below H2.out.1)).mono ?_
  rintro e w1 ⟨rfl, hb1⟩
  have HB1 : Hid _ := below_after H2.out.1 hb1
  have HA1 : Hid _ := H2.out.2.1.below hb1
  have HE1 : Hid _ := H2.out.2.2.below hb1
  obtain ⟨_, c0, c1, c2, c3, c4, c5, c6⟩ := HA1.out
  obtain ⟨_, e0, e1, e2, e3, e4, e5, e6⟩ := HE1.out
  clear hb1 H2
  go_wp2_with fail
  clear c0 c1 c2 c3 c4 c5 c6 e0 e1 e2 e3 e4 e5 e6
  refine (line_any ⟨kind, by_, no, seen, at_, many, text⟩ _ (HW.out.below HB1.out)).mono ?_
  rintro e w2 ⟨rfl, hb2⟩
  have HB2 : Hid _ := below_after HB1.out hb2
  have HA2 : Hid _ := HA1.out.below hb2
  have HE2 : Hid _ := HE1.out.below hb2
  obtain ⟨_, c0, c1, c2, c3, c4, c5, c6⟩ := HA2.out
  obtain ⟨_, e0, e1, e2, e3, e4, e5, e6⟩ := HE2.out
  clear hb2 HA1 HE1 HB1
  rw [HC.out]
  go_wp2_with fail
  clear c0 c1 c2 c3 c4 c5 c6 e0 e1 e2 e3 e4 e5 e6
  refine (line_any ⟨kind, by_, no, seen, at_, many, text⟩ _ (HW.out.below HB2.out)).mono ?_
  rintro e w3 ⟨rfl, hb3⟩
  have HB3 : Hid _ := below_after HB2.out hb3
  have HA3 : Hid _ := HA2.out.below hb3
  have HE3 : Hid _ := HE2.out.below hb3
  clear hb3 HA2 HE2 HB2
  rw [HC.out]
  go_wp2_with fail
  refine (parse_any _ _ (HW.out.below HB3.out) (by have := HZ.out; omega)).mono ?_
  rintro e w4 ⟨rfl, hb4⟩
  rw [HP.out, HV.out, HCC.out]
  have HB4 : Hid _ := below_after HB3.out hb4
  have HA4 : Hid _ := HA3.out.below hb4
  have HE4 : Hid _ := HE3.out.below hb4
  have HB5 : Hid (∀ o, Below w.heap.size w (w4.alloc o)) := fun o => HB4.out.alloc HB4.out.size o
  obtain ⟨_, c0, c1, c2, c3, c4, c5, c6⟩ := HA4.out
  obtain ⟨_, e0, e1, e2, e3, e4, e5, e6⟩ := HE4.out
  clear hb4 HA3 HE3 HB3
  generalize lineS _ = t1 at *
  go_wp2_with fail
  clear c0 c1 c2 c3 c4 c5 c6 e0 e1 e2 e3 e4 e5 e6
  refine (parse_any s _ (HW.out.below (HB5.out _)) hs).mono ?_
  rintro e w5 ⟨rfl, hb5⟩
  have HB6 : Hid _ := below_after (HB5.out _) hb5
  clear hb5
  by_cases hf : codeD (parseD s) = 0
  · obtain ⟨x, hx, hcx⟩ := code_zero hf
    have HL : Hid _ := parse_back hx hcx
    have HX : Hid _ := hcx
    rw [hx, show valD (some x) = x by rw [valD, if_pos hcx], show codeD (some x) = 0 from hcx]
    clear hf hx hcx
    obtain ⟨xk, xb, xn, xs, xa, xm, xt⟩ := x
    go_wp2_with fail
    refine (line_any ⟨xk, xb, xn, xs, xa, xm, xt⟩ _ (HW.out.below (HB6.out.alloc HB6.out.size _))).mono ?_
    rintro e w6 ⟨rfl, hb6⟩
    rw [HX.out, HL.out]
    have HB7 : Hid _ := below_after (HB6.out.alloc HB6.out.size _) hb6
    clear hb6
    go_wp2
    go_ret
    exact ⟨rfl, HB7.out⟩
  · rw [code_not hf]
    have hne : (codeD (parseD s) != 0) = true := by simp [hf]
    clear hf
    generalize codeD (parseD s) = c at *
    unfold zeroD
    go_wp2
    go_ret
    exact ⟨rfl, HB6.out.alloc HB6.out.size _⟩

set_option maxHeartbeats 4000000 in
theorem back_other (d e : Dd) (s : ByteArray) (w : World) (hw : Ready w) (h : ¬ 1000 < wrap64 (d.text.size + e.text.size)) (hs : s.size ≤ 1000) (hc : checkC d = 0) (hk : checkC e = 0) (hn : d ≠ e) :
    Calls Tryd.prog 4 #[ddV d, ddV e, .string s] w fun e w' => e = .returned (.bool true) ∧ Below w.heap.size w w' := by
  have HW : Hid _ := hw
  have H2 := two_start w d e
  unfold ddObj at H2
  have hd : decide (1000 < wrap64 (d.text.size + e.text.size)) = false := decide_eq_false h
  have HC : Hid _ := hc
  have HP : Hid _ := line_back hc
  have HV : Hid (valD (some d) = d) := by show valD (some d) = d; rw [valD, if_pos hc]
  have HCC : Hid (codeD (some d) = 0) := hc
  have HZ : Hid _ := lineS_size d
  have HK : Hid _ := hk
  have hl : ((lineS d).toList == (lineS e).toList) = false := by
    rw [ba_beq]
    refine decide_eq_false (fun el => hn ?_)
    have := line_back hk
    rw [← el, line_back hc] at this
    exact Option.some.inj this
  obtain ⟨kind, by_, no, seen, at_, many, text⟩ := d
  obtain ⟨kind2, by2, no2, seen2, at2, many2, text2⟩ := e
  have HN : Hid _ := dd_diff hn
  simp only at hd
  clear hw hc hk h hn
  go_enter Tryd.func4, Tryd.ntmps4
  go_wp2_with fail
  refine (begun_any _ (HW.out.below H2.out.1)).mono ?_
  rintro e w1 ⟨rfl, hb1⟩
  have HB1 : Hid _ := below_after H2.out.1 hb1
  have HA1 : Hid _ := H2.out.2.1.below hb1
  have HE1 : Hid _ := H2.out.2.2.below hb1
  obtain ⟨_, c0, c1, c2, c3, c4, c5, c6⟩ := HA1.out
  obtain ⟨_, e0, e1, e2, e3, e4, e5, e6⟩ := HE1.out
  clear hb1 H2
  go_wp2_with fail
  clear c0 c1 c2 c3 c4 c5 c6 e0 e1 e2 e3 e4 e5 e6
  refine (line_any ⟨kind, by_, no, seen, at_, many, text⟩ _ (HW.out.below HB1.out)).mono ?_
  rintro e w2 ⟨rfl, hb2⟩
  have HB2 : Hid _ := below_after HB1.out hb2
  have HA2 : Hid _ := HA1.out.below hb2
  have HE2 : Hid _ := HE1.out.below hb2
  obtain ⟨_, c0, c1, c2, c3, c4, c5, c6⟩ := HA2.out
  obtain ⟨_, e0, e1, e2, e3, e4, e5, e6⟩ := HE2.out
  clear hb2 HA1 HE1 HB1
  rw [HC.out]
  go_wp2_with fail
  clear c0 c1 c2 c3 c4 c5 c6 e0 e1 e2 e3 e4 e5 e6
  refine (line_any ⟨kind2, by2, no2, seen2, at2, many2, text2⟩ _ (HW.out.below HB2.out)).mono ?_
  rintro e w3 ⟨rfl, hb3⟩
  have HB3 : Hid _ := below_after HB2.out hb3
  have HA3 : Hid _ := HA2.out.below hb3
  have HE3 : Hid _ := HE2.out.below hb3
  clear hb3 HA2 HE2 HB2
  rw [HK.out]
  go_wp2_with fail
  refine (parse_any _ _ (HW.out.below HB3.out) (by have := HZ.out; omega)).mono ?_
  rintro e w4 ⟨rfl, hb4⟩
  rw [HP.out, HV.out, HCC.out]
  have HB4 : Hid _ := below_after HB3.out hb4
  have HA4 : Hid _ := HA3.out.below hb4
  have HE4 : Hid _ := HE3.out.below hb4
  have HB5 : Hid (∀ o, Below w.heap.size w (w4.alloc o)) := fun o => HB4.out.alloc HB4.out.size o
  obtain ⟨_, c0, c1, c2, c3, c4, c5, c6⟩ := HA4.out
  obtain ⟨_, e0, e1, e2, e3, e4, e5, e6⟩ := HE4.out
  clear hb4 HA3 HE3 HB3
  clear HC HP HV HCC HZ HK HA4 HE4
  generalize lineS ⟨kind, by_, no, seen, at_, many, text⟩ = t1 at *
  generalize lineS ⟨kind2, by2, no2, seen2, at2, many2, text2⟩ = t2 at *
  rcases HN.out with hn | ⟨rfl, hn⟩ | ⟨rfl, rfl, hn⟩ | ⟨rfl, rfl, rfl, hn⟩ | ⟨rfl, rfl, rfl, rfl, hn⟩ | ⟨rfl, rfl, rfl, rfl, rfl, hn⟩ | ⟨rfl, rfl, rfl, rfl, rfl, rfl, hn⟩
  all_goals
    go_wp2_with fail
    clear c0 c1 c2 c3 c4 c5 c6 e0 e1 e2 e3 e4 e5 e6
    refine (parse_any s _ (HW.out.below (HB5.out _)) hs).mono ?_
    rintro e w5 ⟨rfl, hb5⟩
    have HB6 : Hid _ := below_after (HB5.out _) hb5
    clear hb5
    by_cases hf : codeD (parseD s) = 0
    · obtain ⟨x, hx, hcx⟩ := code_zero hf
      have HL : Hid _ := parse_back hx hcx
      have HX : Hid _ := hcx
      rw [hx, show valD (some x) = x by rw [valD, if_pos hcx], show codeD (some x) = 0 from hcx]
      clear hf hx hcx
      obtain ⟨xk, xb, xn, xs, xa, xm, xt⟩ := x
      go_wp2_with fail
      refine (line_any ⟨xk, xb, xn, xs, xa, xm, xt⟩ _ (HW.out.below (HB6.out.alloc HB6.out.size _))).mono ?_
      rintro e w6 ⟨rfl, hb6⟩
      rw [HX.out, HL.out]
      have HB7 : Hid _ := below_after (HB6.out.alloc HB6.out.size _) hb6
      clear hb6
      go_wp2
      go_ret
      exact ⟨rfl, HB7.out⟩
    · rw [code_not hf]
      have hne : (codeD (parseD s) != 0) = true := by simp [hf]
      clear hf
      generalize codeD (parseD s) = c at *
      unfold zeroD
      go_wp2
      go_ret
      exact ⟨rfl, HB6.out.alloc HB6.out.size _⟩

set_option maxHeartbeats 4000000 in
theorem back_bad (d e : Dd) (s : ByteArray) (w : World) (hw : Ready w) (h : ¬ 1000 < wrap64 (d.text.size + e.text.size)) (hs : s.size ≤ 1000) (hc : checkC d = 0) (hk : checkC e ≠ 0) :
    Calls Tryd.prog 4 #[ddV d, ddV e, .string s] w fun e w' => e = .returned (.bool true) ∧ Below w.heap.size w w' := by
  have HW : Hid _ := hw
  have H2 := two_start w d e
  unfold ddObj at H2
  have hd : decide (1000 < wrap64 (d.text.size + e.text.size)) = false := decide_eq_false h
  have HC : Hid _ := hc
  have HP : Hid _ := line_back hc
  have HV : Hid (valD (some d) = d) := by show valD (some d) = d; rw [valD, if_pos hc]
  have HCC : Hid (codeD (some d) = 0) := hc
  have HZ : Hid _ := lineS_size d
  have hk' : (checkC e == 0) = false := by simp [hk]
  have hn : d ≠ e := fun he => hk (by rw [← he]; exact hc)
  obtain ⟨kind, by_, no, seen, at_, many, text⟩ := d
  obtain ⟨kind2, by2, no2, seen2, at2, many2, text2⟩ := e
  simp only at hd
  clear hw hc hk h hn
  go_enter Tryd.func4, Tryd.ntmps4
  go_wp2_with fail
  refine (begun_any _ (HW.out.below H2.out.1)).mono ?_
  rintro e w1 ⟨rfl, hb1⟩
  have HB1 : Hid _ := below_after H2.out.1 hb1
  have HA1 : Hid _ := H2.out.2.1.below hb1
  have HE1 : Hid _ := H2.out.2.2.below hb1
  obtain ⟨_, c0, c1, c2, c3, c4, c5, c6⟩ := HA1.out
  obtain ⟨_, e0, e1, e2, e3, e4, e5, e6⟩ := HE1.out
  clear hb1 H2
  go_wp2_with fail
  clear c0 c1 c2 c3 c4 c5 c6 e0 e1 e2 e3 e4 e5 e6
  refine (line_any ⟨kind, by_, no, seen, at_, many, text⟩ _ (HW.out.below HB1.out)).mono ?_
  rintro e w2 ⟨rfl, hb2⟩
  have HB2 : Hid _ := below_after HB1.out hb2
  have HA2 : Hid _ := HA1.out.below hb2
  have HE2 : Hid _ := HE1.out.below hb2
  obtain ⟨_, c0, c1, c2, c3, c4, c5, c6⟩ := HA2.out
  obtain ⟨_, e0, e1, e2, e3, e4, e5, e6⟩ := HE2.out
  clear hb2 HA1 HE1 HB1
  rw [HC.out]
  go_wp2_with fail
  clear c0 c1 c2 c3 c4 c5 c6 e0 e1 e2 e3 e4 e5 e6
  refine (line_any ⟨kind2, by2, no2, seen2, at2, many2, text2⟩ _ (HW.out.below HB2.out)).mono ?_
  rintro e w3 ⟨rfl, hb3⟩
  have HB3 : Hid _ := below_after HB2.out hb3
  have HA3 : Hid _ := HA2.out.below hb3
  have HE3 : Hid _ := HE2.out.below hb3
  clear hb3 HA2 HE2 HB2
  generalize checkC ⟨kind2, by2, no2, seen2, at2, many2, text2⟩ = ce at *
  go_wp2_with fail
  refine (parse_any _ _ (HW.out.below HB3.out) (by have := HZ.out; omega)).mono ?_
  rintro e w4 ⟨rfl, hb4⟩
  rw [HP.out, HV.out, HCC.out]
  have HB4 : Hid _ := below_after HB3.out hb4
  have HA4 : Hid _ := HA3.out.below hb4
  have HE4 : Hid _ := HE3.out.below hb4
  have HB5 : Hid (∀ o, Below w.heap.size w (w4.alloc o)) := fun o => HB4.out.alloc HB4.out.size o
  obtain ⟨_, c0, c1, c2, c3, c4, c5, c6⟩ := HA4.out
  obtain ⟨_, e0, e1, e2, e3, e4, e5, e6⟩ := HE4.out
  clear hb4 HA3 HE3 HB3
  generalize lineS ⟨kind, by_, no, seen, at_, many, text⟩ = t1 at *
  generalize lineS ⟨kind2, by2, no2, seen2, at2, many2, text2⟩ = t2 at *
  go_wp2_with fail
  clear c0 c1 c2 c3 c4 c5 c6 e0 e1 e2 e3 e4 e5 e6
  refine (parse_any s _ (HW.out.below (HB5.out _)) hs).mono ?_
  rintro e w5 ⟨rfl, hb5⟩
  have HB6 : Hid _ := below_after (HB5.out _) hb5
  clear hb5
  by_cases hf : codeD (parseD s) = 0
  · obtain ⟨x, hx, hcx⟩ := code_zero hf
    have HL : Hid _ := parse_back hx hcx
    have HX : Hid _ := hcx
    rw [hx, show valD (some x) = x by rw [valD, if_pos hcx], show codeD (some x) = 0 from hcx]
    clear hf hx hcx
    obtain ⟨xk, xb, xn, xs, xa, xm, xt⟩ := x
    go_wp2_with fail
    refine (line_any ⟨xk, xb, xn, xs, xa, xm, xt⟩ _ (HW.out.below (HB6.out.alloc HB6.out.size _))).mono ?_
    rintro e w6 ⟨rfl, hb6⟩
    rw [HX.out, HL.out]
    have HB7 : Hid _ := below_after (HB6.out.alloc HB6.out.size _) hb6
    clear hb6
    go_wp2
    go_ret
    exact ⟨rfl, HB7.out⟩
  · rw [code_not hf]
    have hne : (codeD (parseD s) != 0) = true := by simp [hf]
    clear hf
    generalize codeD (parseD s) = c at *
    unfold zeroD
    go_wp2
    go_ret
    exact ⟨rfl, HB6.out.alloc HB6.out.size _⟩

set_option maxHeartbeats 4000000 in
theorem back_none (d e : Dd) (s : ByteArray) (w : World) (hw : Ready w) (h : ¬ 1000 < wrap64 (d.text.size + e.text.size)) (hs : s.size ≤ 1000) (hc : checkC d ≠ 0) :
    Calls Tryd.prog 4 #[ddV d, ddV e, .string s] w fun e w' => e = .returned (.bool true) ∧ Below w.heap.size w w' := by
  have HW : Hid _ := hw
  have H2 := two_start w d e
  unfold ddObj at H2
  have hd : decide (1000 < wrap64 (d.text.size + e.text.size)) = false := decide_eq_false h
  have hc' : (checkC d == 0) = false := by simp [hc]
  obtain ⟨kind, by_, no, seen, at_, many, text⟩ := d
  obtain ⟨kind2, by2, no2, seen2, at2, many2, text2⟩ := e
  simp only at hd
  clear hw hc h
  go_enter Tryd.func4, Tryd.ntmps4
  go_wp2_with fail
  refine (begun_any _ (HW.out.below H2.out.1)).mono ?_
  rintro e w1 ⟨rfl, hb1⟩
  have HB1 : Hid _ := below_after H2.out.1 hb1
  have HA1 : Hid _ := H2.out.2.1.below hb1
  have HE1 : Hid _ := H2.out.2.2.below hb1
  obtain ⟨_, c0, c1, c2, c3, c4, c5, c6⟩ := HA1.out
  obtain ⟨_, e0, e1, e2, e3, e4, e5, e6⟩ := HE1.out
  clear hb1 H2
  go_wp2_with fail
  clear c0 c1 c2 c3 c4 c5 c6 e0 e1 e2 e3 e4 e5 e6
  refine (line_any ⟨kind, by_, no, seen, at_, many, text⟩ _ (HW.out.below HB1.out)).mono ?_
  rintro e w2 ⟨rfl, hb2⟩
  have HB2 : Hid _ := below_after HB1.out hb2
  have HA2 : Hid _ := HA1.out.below hb2
  have HE2 : Hid _ := HE1.out.below hb2
  obtain ⟨_, c0, c1, c2, c3, c4, c5, c6⟩ := HA2.out
  obtain ⟨_, e0, e1, e2, e3, e4, e5, e6⟩ := HE2.out
  clear hb2 HA1 HE1 HB1
  go_wp2_with fail
  clear c0 c1 c2 c3 c4 c5 c6 e0 e1 e2 e3 e4 e5 e6
  refine (line_any ⟨kind2, by2, no2, seen2, at2, many2, text2⟩ _ (HW.out.below HB2.out)).mono ?_
  rintro e w3 ⟨rfl, hb3⟩
  have HB3 : Hid _ := below_after HB2.out hb3
  have HA3 : Hid _ := HA2.out.below hb3
  have HE3 : Hid _ := HE2.out.below hb3
  clear hb3 HA2 HE2 HB2
  generalize checkC ⟨kind2, by2, no2, seen2, at2, many2, text2⟩ = ce at *
  generalize lineS ⟨kind2, by2, no2, seen2, at2, many2, text2⟩ = t2 at *
  generalize checkC ⟨kind, by_, no, seen, at_, many, text⟩ = cd at *
  generalize lineS ⟨kind, by_, no, seen, at_, many, text⟩ = t1 at *
  go_wp2_with fail
  refine (parse_any s _ (HW.out.below HB3.out) hs).mono ?_
  rintro e w5 ⟨rfl, hb5⟩
  have HB6 : Hid _ := below_after HB3.out hb5
  clear hb5
  by_cases hf : codeD (parseD s) = 0
  · obtain ⟨x, hx, hcx⟩ := code_zero hf
    have HL : Hid _ := parse_back hx hcx
    have HX : Hid _ := hcx
    rw [hx, show valD (some x) = x by rw [valD, if_pos hcx], show codeD (some x) = 0 from hcx]
    clear hf hx hcx
    obtain ⟨xk, xb, xn, xs, xa, xm, xt⟩ := x
    go_wp2_with fail
    refine (line_any ⟨xk, xb, xn, xs, xa, xm, xt⟩ _ (HW.out.below (HB6.out.alloc HB6.out.size _))).mono ?_
    rintro e w6 ⟨rfl, hb6⟩
    rw [HX.out, HL.out]
    have HB7 : Hid _ := below_after (HB6.out.alloc HB6.out.size _) hb6
    clear hb6
    go_wp2
    go_ret
    exact ⟨rfl, HB7.out⟩
  · rw [code_not hf]
    have hne : (codeD (parseD s) != 0) = true := by simp [hf]
    clear hf
    generalize codeD (parseD s) = c at *
    unfold zeroD
    go_wp2
    go_ret
    exact ⟨rfl, HB6.out.alloc HB6.out.size _⟩

theorem law_back (d e : Dd) (s : ByteArray) (w : World) (hw : Ready w) :
    Calls Tryd.prog 4 #[ddV d, ddV e, .string s] w fun e w' => e = .returned (.bool true) ∧ Below w.heap.size w w' := by
  by_cases h : 1000 < wrap64 (d.text.size + e.text.size)
  · exact back_great d e s w hw (.inl h)
  · by_cases hs : s.size ≤ 1000
    · by_cases hc : checkC d = 0
      · by_cases hn : d = e
        · exact back_same d e s w hw h hs hc hn
        · by_cases hk : checkC e = 0
          · exact back_other d e s w hw h hs hc hk hn
          · exact back_bad d e s w hw h hs hc hk
      · exact back_none d e s w hw h hs hc
    · exact back_great d e s w hw (.inr ⟨h, by omega⟩)

end Go.Proofs.YtnnfddemhhpfoaaDoor
