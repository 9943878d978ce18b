/-
  The walk of the law FoldTakes.
-/
import Derived.Test.YtgcklgiapjbkhaaFOthW
import Derived.Test.YtgcklgiapjbkhaaFLate
namespace Go.Proofs.Ytgcklgiapjbkhaa
open Go.RowKit

/-- Two deeds and a list, in the middle of a law. -/
structure KInv (w : World) (x y : Dd) (v : Value) (l : List Ch) (wk : World) : Prop where
  below : Below w.heap.size w wk
  d : DdAt wk w.heap.size 0 x
  e : DdAt wk (w.heap.size + 1) 0 y
  lst : Lst wk v l

theorem KInv.after {w wk w' : World} {x y : Dd} {v : Value} {l : List Ch} (h : KInv w x y v l wk) (hb : Below wk.heap.size wk w') : KInv w x y v l w' :=
  ⟨below_after h.below hb, h.d.below hb, h.e.below hb, h.lst.below hb⟩

theorem kinv_start {w : World} {x y : Dd} {v : Value} {l : List Ch} (h : Lst w v l) : KInv w x y v l ((w.alloc (dObj x)).alloc (dObj y)) := by
  have h1 : Below w.heap.size w (w.alloc (dObj x)) := (Below.refl _ _).alloc (Nat.le_refl _) _
  have h2 : Below (w.alloc (dObj x)).heap.size (w.alloc (dObj x)) ((w.alloc (dObj x)).alloc (dObj y)) := (Below.refl _ _).alloc (Nat.le_refl _) _
  refine ⟨below_after h1 h2, (ddat_start w x).below h2, ?_, (h.below h1).below h2⟩
  have := ddat_start (w.alloc (dObj x)) y
  simpa using this

theorem far_may {l : List Ch} {d e : Dd} {n : Int} (hd : doC l d n = 0) (he : doC l e n = 0) (hk : d.kind ≠ 1) (hne : e.by_ ≠ d.by_) (hn : e.seen < n) : doC (doL l d n) e (n + 1) = 0 := by
  obtain ⟨a1, a2, a3, a4⟩ := doC_zero hd
  obtain ⟨b1, b2, b3, b4⟩ := doC_zero he
  have hc : cnt (doL l d n) e.seen e.by_ = cnt l e.seen e.by_ := by rw [← vw_len, ← vw_len, doL_far (check_parts a1).2.1 hne hn]
  have hlen : (doL l d n).length = l.length := by rw [doL, if_neg hk, takeL_len]
  have hm : mayC (doL l d n) e = 0 := by rw [mayC, if_neg (fun h => h b1), hc, if_neg (by omega), hlen, if_neg (by omega)]
  rw [doC, if_neg (fun h => h hm), if_neg (by omega)]

/-- In whichever order they came. -/
theorem both_ways {l : List Ch} {d e : Dd} (hd : doC l d 121 = 0) (he : doC l e 121 = 0) (kd : d.kind = 2) (ke : e.kind = 2) (hne : d.by_ ≠ e.by_) :
    vw (doL (doL l d 121) e 122) 122 (-1) = vw (doL (doL l e 121) d 122) 122 (-1) := by
  obtain ⟨a1, _⟩ := doC_zero hd
  obtain ⟨b1, _⟩ := doC_zero he
  have pa := check_parts a1
  have pb := check_parts b1
  have h1 : ∀ m n, doL m d n = takeL d n 0 m := fun m n => by rw [doL, if_neg (by omega)]
  have h2 : ∀ m n, doL m e n = takeL e n 0 m := fun m n => by rw [doL, if_neg (by omega)]
  rw [h1, h2, h2, h1]
  exact takes_meet (n := 121) pa.2.1 pb.2.1 hne (by decide) (by decide) (by have := pa.2.2.2.2.2.1; omega) (by have := pb.2.2.2.2.2.1; omega) l 0 0

/-- From now on the bytes can be made that text. -/
def Says (u : Value) (s : ByteArray) (wk : World) : Prop := ∀ w'', Below wk.heap.size wk w'' → (convert 33 9 u).run Try.prog w'' = .ok (.string s) w''

theorem Says.below {u : Value} {s : ByteArray} {wk w' : World} (h : Says u s wk) (hb : Below wk.heap.size wk w') : Says u s w' := fun w'' hb' => h w'' (below_after hb hb')

theorem view_says {w : World} {v : Value} {l : List Ch} (h : Lst w v l) (hl : l.length ≤ 1000) (seen by_ : Int) :
    Calls Try.prog 18 #[v, .int .i64 seen, .int .i64 by_] w fun e w' => ∃ u, e = .returned u ∧ Says u (strOfNums (vw l seen by_)) w' ∧ Below w.heap.size w w' := view_keep h hl seen by_

set_option maxHeartbeats 1600000 in
theorem tk_great (l : List Ch) (d e : Dd) (v : Value) (w : World) (h : Lst w v l) (hg : 300 < l.length ∨ d.kind ≠ 2 ∨ e.kind ≠ 2 ∨ d.by_ = e.by_) :
    Calls Try.prog 9 #[v, ddV d, ddV e] w fun e w' => e = .returned (.bool true) ∧ Below w.heap.size w w' := by
  have HI : Hid (KInv w d e v l ((w.alloc (dObj d)).alloc (dObj e))) := kinv_start h
  obtain ⟨ad, cap, rfl, hcap⟩ := h.len
  obtain ⟨kind, by_, no, seen, at_, many, text⟩ := d
  obtain ⟨ek, eb, en, es, ea, em, et⟩ := e
  simp only at hg
  clear h
  by_cases h1 : 300 < l.length
  · go_enter Try.func9, Try.ntmps9
    go_wp2_with fail
    refine (fbegun_any _).mono ?_
    rintro e w1 ⟨rfl, hb1⟩
    have HI1 : Hid _ := HI.out.after hb1
    clear hb1 HI
    obtain ⟨_, c0, c1, c2, c3, c4, c5, c6⟩ := HI1.out.d
    simp only [Nat.zero_add] at c0 c1 c2 c3 c4 c5 c6
    obtain ⟨_, e0, e1, e2, e3, e4, e5, e6⟩ := HI1.out.e
    simp only [Nat.zero_add] at e0 e1 e2 e3 e4 e5 e6
    go_wp2
    go_ret
    exact ⟨rfl, HI1.out.below⟩
  · by_cases h2 : kind = 2
    · obtain rfl := h2
      by_cases h3 : ek = 2
      · obtain rfl := h3
        obtain rfl : by_ = eb := by omega
        go_enter Try.func9, Try.ntmps9
        go_wp2_with fail
        refine (fbegun_any _).mono ?_
        rintro e w1 ⟨rfl, hb1⟩
        have HI1 : Hid _ := HI.out.after hb1
        clear hb1 HI
        obtain ⟨_, c0, c1, c2, c3, c4, c5, c6⟩ := HI1.out.d
        simp only [Nat.zero_add] at c0 c1 c2 c3 c4 c5 c6
        obtain ⟨_, e0, e1, e2, e3, e4, e5, e6⟩ := HI1.out.e
        simp only [Nat.zero_add] at e0 e1 e2 e3 e4 e5 e6
        go_wp2
        go_ret
        exact ⟨rfl, HI1.out.below⟩
      · have h3' : (ek != 2) = true := by simp [h3]
        clear h3 hg
        go_enter Try.func9, Try.ntmps9
        go_wp2_with fail
        refine (fbegun_any _).mono ?_
        rintro e w1 ⟨rfl, hb1⟩
        have HI1 : Hid _ := HI.out.after hb1
        clear hb1 HI
        obtain ⟨_, c0, c1, c2, c3, c4, c5, c6⟩ := HI1.out.d
        simp only [Nat.zero_add] at c0 c1 c2 c3 c4 c5 c6
        obtain ⟨_, e0, e1, e2, e3, e4, e5, e6⟩ := HI1.out.e
        simp only [Nat.zero_add] at e0 e1 e2 e3 e4 e5 e6
        go_wp2
        go_ret
        exact ⟨rfl, HI1.out.below⟩
    · have h2' : (kind != 2) = true := by simp [h2]
      clear h2 hg
      go_enter Try.func9, Try.ntmps9
      go_wp2_with fail
      refine (fbegun_any _).mono ?_
      rintro e w1 ⟨rfl, hb1⟩
      have HI1 : Hid _ := HI.out.after hb1
      clear hb1 HI
      obtain ⟨_, c0, c1, c2, c3, c4, c5, c6⟩ := HI1.out.d
      simp only [Nat.zero_add] at c0 c1 c2 c3 c4 c5 c6
      obtain ⟨_, e0, e1, e2, e3, e4, e5, e6⟩ := HI1.out.e
      simp only [Nat.zero_add] at e0 e1 e2 e3 e4 e5 e6
      go_wp2
      go_ret
      exact ⟨rfl, HI1.out.below⟩

set_option maxHeartbeats 3200000 in
theorem tk_some (l : List Ch) (d e : Dd) (v : Value) (w : World) (h : Lst w v l) (hf : FitsL l) (hl : l.length ≤ 300) (kd : d.kind = 2) (ke : e.kind = 2) (hby : d.by_ ≠ e.by_) :
    Calls Try.prog 9 #[v, ddV d, ddV e] w fun e w' => e = .returned (.bool true) ∧ Below w.heap.size w w' := by
  have HB : Hid (doC l d 121 = 0 → doC l e 121 = 0 → vw (doL (doL l d 121) e 122) 122 (-1) = vw (doL (doL l e 121) d 122) 122 (-1)) := fun a b => both_ways a b kd ke hby
  have HD2 : Hid (doC l d 121 = 0 → doC l e 121 = 0 → doC (doL l e 121) d 122 = 0) := fun a b => far_may b a (by omega) hby (by have := (check_parts (doC_zero a).1).2.2.2.2.2.1; omega)
  have HE2 : Hid (doC l d 121 = 0 → doC l e 121 = 0 → doC (doL l d 121) e 122 = 0) := fun a b => far_may a b (by omega) (fun x => hby x.symm) (by have := (check_parts (doC_zero b).1).2.2.2.2.2.1; omega)
  have HI : Hid (KInv w d e v l ((w.alloc (dObj d)).alloc (dObj e))) := kinv_start h
  obtain ⟨ad, cap, rfl, hcap⟩ := h.len
  obtain ⟨kind, by_, no, seen, at_, many, text⟩ := d
  obtain ⟨ek, eb, en, es, ea, em, et⟩ := e
  simp only at HB HD2 HE2 hby
  obtain rfl : kind = 2 := kd
  obtain rfl : ek = 2 := ke
  have hby' : (by_ == eb) = false := by simp [hby]
  clear h hby
  go_enter Try.func9, Try.ntmps9
  go_wp2_with fail
  refine (fbegun_any _).mono ?_
  rintro e w1 ⟨rfl, hb1⟩
  have HI1 : Hid _ := HI.out.after hb1
  clear hb1 HI
  obtain ⟨_, c0, c1, c2, c3, c4, c5, c6⟩ := HI1.out.d
  simp only [Nat.zero_add] at c0 c1 c2 c3 c4 c5 c6
  obtain ⟨_, e0, e1, e2, e3, e4, e5, e6⟩ := HI1.out.e
  simp only [Nat.zero_add] at e0 e1 e2 e3 e4 e5 e6
  go_wp2_with fail
  clear c0 c1 c2 c3 c4 c5 c6
  clear e0 e1 e2 e3 e4 e5 e6
  refine (do_any l ⟨2, by_, no, seen, at_, many, text⟩ 121 _ _ HI1.out.lst (by omega) hf).mono ?_
  rintro e w2 ⟨v2, rfl, ho2, hb2⟩
  have HI2 : Hid _ := HI1.out.after hb2
  have HO2 : Hid (Own w2 _ v2 _) := ho2
  obtain ⟨a2, cap2, rfl, _⟩ := ho2.lst.len
  clear hb2 HI1 ho2
  obtain ⟨_, c0, c1, c2, c3, c4, c5, c6⟩ := HI2.out.d
  simp only [Nat.zero_add] at c0 c1 c2 c3 c4 c5 c6
  obtain ⟨_, e0, e1, e2, e3, e4, e5, e6⟩ := HI2.out.e
  simp only [Nat.zero_add] at e0 e1 e2 e3 e4 e5 e6
  go_wp2_with fail
  clear c0 c1 c2 c3 c4 c5 c6
  clear e0 e1 e2 e3 e4 e5 e6
  refine (do_any l ⟨2, eb, en, es, ea, em, et⟩ 121 _ _ HI2.out.lst (by omega) hf).mono ?_
  rintro e w3 ⟨v3, rfl, ho3, hb3⟩
  have HI3 : Hid _ := HI2.out.after hb3
  have HP3 : Hid (Own w3 _ _ _) := HO2.out.below hb3
  have HO3 : Hid (Own w3 _ v3 _) := ho3
  obtain ⟨a3, cap3, rfl, _⟩ := ho3.lst.len
  clear hb3 HI2 ho3 HO2
  by_cases hc : doC l ⟨2, by_, no, seen, at_, many, text⟩ 121 = 0
  · by_cases he : doC l ⟨2, eb, en, es, ea, em, et⟩ 121 = 0
    · have HA : Hid (doR l ⟨2, by_, no, seen, at_, many, text⟩ 121 = doL l ⟨2, by_, no, seen, at_, many, text⟩ 121) := by show doR _ _ _ = _; rw [doR, if_pos hc]
      have HBb : Hid (doR l ⟨2, eb, en, es, ea, em, et⟩ 121 = doL l ⟨2, eb, en, es, ea, em, et⟩ 121) := by show doR _ _ _ = _; rw [doR, if_pos he]
      have sA := small_do hf hc
      have sB := small_do hf he
      have h2 := HD2.out hc he
      have h3 := HE2.out hc he
      have hm := HB.out hc he
      have tA := small_do sB.fits h2
      have tB := small_do sA.fits h3
      rw [hc, he]
      rw [HA.out] at HP3 ⊢
      rw [HBb.out] at HO3 ⊢
      generalize doL l ⟨2, by_, no, seen, at_, many, text⟩ 121 = A at *
      generalize doL l ⟨2, eb, en, es, ea, em, et⟩ 121 = B at *
      clear HB HD2 HE2 hc he HA HBb
      have lA := sA.len
      have lB := sB.len
      obtain ⟨_, c0, c1, c2, c3, c4, c5, c6⟩ := HI3.out.d
      simp only [Nat.zero_add] at c0 c1 c2 c3 c4 c5 c6
      obtain ⟨_, e0, e1, e2, e3, e4, e5, e6⟩ := HI3.out.e
      simp only [Nat.zero_add] at e0 e1 e2 e3 e4 e5 e6
      go_wp2_with fail
      clear c0 c1 c2 c3 c4 c5 c6
      clear e0 e1 e2 e3 e4 e5 e6
      refine (do_any A ⟨2, eb, en, es, ea, em, et⟩ 122 _ _ HP3.out.lst (by omega) sA.fits).mono ?_
      rintro e w4 ⟨v4, rfl, ho4, hb4⟩
      have HI4 : Hid _ := HI3.out.after hb4
      have HP4 : Hid (Own w4 _ _ _) := HO3.out.below hb4
      have HO4 : Hid (Own w4 _ v4 _) := ho4
      obtain ⟨a4, cap4, rfl, _⟩ := ho4.lst.len
      clear hb4 HI3 ho4 HO3 HP3
      obtain ⟨_, c0, c1, c2, c3, c4, c5, c6⟩ := HI4.out.d
      simp only [Nat.zero_add] at c0 c1 c2 c3 c4 c5 c6
      obtain ⟨_, e0, e1, e2, e3, e4, e5, e6⟩ := HI4.out.e
      simp only [Nat.zero_add] at e0 e1 e2 e3 e4 e5 e6
      go_wp2_with fail
      clear c0 c1 c2 c3 c4 c5 c6
      clear e0 e1 e2 e3 e4 e5 e6
      refine (do_any B ⟨2, by_, no, seen, at_, many, text⟩ 122 _ _ HP4.out.lst (by omega) sB.fits).mono ?_
      rintro e w5 ⟨v5, rfl, ho5, hb5⟩
      have HI5 : Hid _ := HI4.out.after hb5
      have HP5 : Hid (Own w5 _ _ _) := HO4.out.below hb5
      have HO5 : Hid (Own w5 _ v5 _) := ho5
      obtain ⟨a5, cap5, rfl, _⟩ := ho5.lst.len
      clear hb5 HI4 ho5 HO4 HP4
      have r4 : doR A ⟨2, eb, en, es, ea, em, et⟩ 122 = doL A ⟨2, eb, en, es, ea, em, et⟩ 122 := by rw [doR, if_pos h3]
      have r5 : doR B ⟨2, by_, no, seen, at_, many, text⟩ 122 = doL B ⟨2, by_, no, seen, at_, many, text⟩ 122 := by rw [doR, if_pos h2]
      rw [h2]
      rw [r4] at HP5 ⊢
      rw [r5] at HO5 ⊢
      generalize doL A ⟨2, eb, en, es, ea, em, et⟩ 122 = X at *
      generalize doL B ⟨2, by_, no, seen, at_, many, text⟩ 122 = Y at *
      have lX : X.length ≤ 1000 := by have := tB.len; omega
      have lY : Y.length ≤ 1000 := by have := tA.len; omega
      have HS1 : Hid (∀ wk, Lst wk (.slice a4 X.length cap4) X → Calls Try.prog 18 #[.slice a4 X.length cap4, .int .i64 122, .int .i64 (-1)] wk fun e w' => ∃ u, e = .returned u ∧ Says u (strOfNums (vw Y 122 (-1))) w' ∧ Below wk.heap.size wk w') := fun wk hh => by rw [← hm]; exact view_says hh lX 122 (-1)
      have HS2 : Hid (∀ wk, Lst wk (.slice a5 Y.length cap5) Y → Calls Try.prog 18 #[.slice a5 Y.length cap5, .int .i64 122, .int .i64 (-1)] wk fun e w' => ∃ u, e = .returned u ∧ Says u (strOfNums (vw Y 122 (-1))) w' ∧ Below wk.heap.size wk w') := fun wk hh => view_says hh lY 122 (-1)
      have H2 : Hid (LInv2 w _ X _ Y w5) := ⟨HI5.out.below, HP5.out.lst, HO5.out.lst⟩
      clear hm tA tB sA sB h2 h3 r4 r5 HI5 HP5 HO5
      go_wp2
      generalize strOfNums (vw Y 122 (-1)) = S at HS1 HS2
      refine wp_region_late (fun wk => LInv2 w (.slice a4 X.length cap4) X (.slice a5 Y.length cap5) Y wk) (fun i => i == 10 || i == 15) (fun i => i == 11 || i == 16) (by kernel_rfl) (by kernel_rfl) (by kernel_rfl) (H2.out.after (Below.refl _ _).drew) ?_
      refine wpLate_still rfl (fun K hK => ?_)
      go_simp
      refine ⟨_, fun _ _ => rfl, hK _ ?_⟩
      clear hK K
      refine wpLate_still rfl (fun K hK => ?_)
      go_simp
      refine ⟨.bool true, fun wk hwk => ?_, hK _ ?_⟩
      · go_simp
      clear hK K
      refine wpLate_still rfl (fun K hK => ?_)
      go_simp
      refine ⟨_, fun _ _ => rfl, hK _ ?_⟩
      clear hK K
      refine wpLate_still rfl (fun K hK => ?_)
      go_simp
      refine ⟨_, fun _ _ => rfl, hK _ ?_⟩
      clear hK K
      refine wpLate_still rfl (fun K hK => ?_)
      go_simp
      refine ⟨.bool true, fun wk hwk => ?_, hK _ ?_⟩
      · go_simp
      clear hK K
      refine wpLate_still rfl (fun K hK => ?_)
      go_simp
      refine ⟨_, fun _ _ => rfl, hK _ ?_⟩
      clear hK K
      refine wpLate_still rfl (fun K hK => ?_)
      go_simp
      refine ⟨_, fun _ _ => rfl, hK _ ?_⟩
      clear hK K
      refine wpLate_still rfl (fun K hK => ?_)
      go_simp
      refine ⟨_, fun _ _ => rfl, hK _ ?_⟩
      clear hK K
      refine wpLate_still rfl (fun K hK => ?_)
      go_simp
      refine ⟨_, fun _ _ => rfl, hK _ ?_⟩
      clear hK K
      refine wpLate_still rfl (fun K hK => ?_)
      go_simp
      refine ⟨.int .i64 122, fun wk hwk => ?_, hK _ ?_⟩
      · go_simp
        decide
      clear hK K
      refine wpLate_spine rfl (by rfl) (fun _ => True) (fun u wk => LInv2 w (.slice a4 X.length cap4) X (.slice a5 Y.length cap5) Y wk ∧ Says u S wk) (fun u wk => LInv2 w (.slice a4 X.length cap4) X (.slice a5 Y.length cap5) Y wk ∧ Says u S wk) ⟨.int .i64 0, trivial⟩ (fun _ _ h => h.1) (fun _ _ h => h) (fun wk hwk => ?_) (fun u6 _ => ?_)
      · go_simp
        refine (HS1.out wk hwk.a).mono ?_
        rintro e w6 ⟨u, rfl, hs, hb⟩
        exact ⟨u, rfl, hwk.after hb, hs⟩
      refine wpLate_late rfl rfl (fun K hK => ?_)
      go_simp
      refine ⟨.string S, fun wk hwk => ?_, hK _ ?_⟩
      · intro hs0
        have hs := hs0 _ (Below.refl _ _)
        go_simp
      clear hK K
      refine wpLate_still rfl (fun K hK => ?_)
      go_simp
      refine ⟨_, fun _ _ => rfl, hK _ ?_⟩
      clear hK K
      refine wpLate_still rfl (fun K hK => ?_)
      go_simp
      refine ⟨_, fun _ _ => rfl, hK _ ?_⟩
      clear hK K
      refine wpLate_still rfl (fun K hK => ?_)
      go_simp
      refine ⟨.int .i64 122, fun wk hwk => ?_, hK _ ?_⟩
      · go_simp
        decide
      clear hK K
      refine wpLate_spine rfl (by rfl) (fun _ => True) (fun u wk => (LInv2 w (.slice a4 X.length cap4) X (.slice a5 Y.length cap5) Y wk ∧ Says u6 S wk) ∧ Says u S wk) (fun u wk => (LInv2 w (.slice a4 X.length cap4) X (.slice a5 Y.length cap5) Y wk ∧ Says u6 S wk) ∧ Says u S wk) ⟨.int .i64 0, trivial⟩ (fun _ _ h => h.1) (fun _ _ h => h) (fun wk hwk => ?_) (fun u7 _ => ?_)
      · go_simp
        refine (HS2.out wk hwk.1.b).mono ?_
        rintro e w7 ⟨u, rfl, hs, hb⟩
        exact ⟨u, rfl, ⟨hwk.1.after hb, hwk.2.below hb⟩, hs⟩
      refine wpLate_late rfl rfl (fun K hK => ?_)
      go_simp
      refine ⟨.string S, fun wk hwk => ?_, hK _ ?_⟩
      · intro _ hs0
        have hs := hs0 _ (Below.refl _ _)
        go_simp
      clear hK K
      refine wpLate_still rfl (fun K hK => ?_)
      go_simp
      refine ⟨.bool true, fun wk hwk => ?_, hK _ ?_⟩
      · go_simp
      clear hK K
      refine wpLate_still rfl (fun K hK => ?_)
      go_simp
      refine ⟨_, fun _ _ => rfl, hK _ ?_⟩
      clear hK K
      refine wpLate_still rfl (fun K hK => ?_)
      go_simp
      refine ⟨_, fun _ _ => rfl, hK _ ?_⟩
      clear hK K
      refine wpLate_nil (fun w8 hw8 => ?_)
      have HB8 : Hid (Below w.heap.size w w8) := hw8.1.1.below
      clear hw8
      go_wp2
      go_ret
      exact ⟨rfl, HB8.out⟩
    · have hne : (doC l ⟨2, eb, en, es, ea, em, et⟩ 121 != 0) = true := by simp [he]
      rw [hc]
      generalize doC l ⟨2, eb, en, es, ea, em, et⟩ 121 = c at *
      clear HB HD2 HE2 hc he
      go_wp2
      go_ret
      exact ⟨rfl, HI3.out.below⟩
  · have hne : (doC l ⟨2, by_, no, seen, at_, many, text⟩ 121 != 0) = true := by simp [hc]
    generalize doC l ⟨2, by_, no, seen, at_, many, text⟩ 121 = c at *
    clear HB HD2 HE2 hc
    go_wp2
    go_ret
    exact ⟨rfl, HI3.out.below⟩

theorem law_takes (w : World) {v : Value} {l : List Ch} (h : Lst w v l) (hf : FitsL l) (d e : Dd) :
    Calls Try.prog 9 #[v, ddV d, ddV e] w fun e w' => e = .returned (.bool true) ∧ Below w.heap.size w w' := by
  by_cases h1 : 300 < l.length ∨ d.kind ≠ 2 ∨ e.kind ≠ 2 ∨ d.by_ = e.by_
  · exact tk_great l d e v w h h1
  · exact tk_some l d e v w h hf (by omega) (by omega) (by omega) (by omega)

end Go.Proofs.Ytgcklgiapjbkhaa
