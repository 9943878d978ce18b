/-
  The walk of the law FoldOthers.
-/
import Derived.Test.YtgcklgiapjbkhaaFSplP
import Derived.Test.YtgcklgiapjbkhaaOpen
import Derived.Deep.RegionWith
namespace Go.Proofs.Ytgcklgiapjbkhaa
open Go.RowKit

/-- Two lists, in the middle of a law. -/
structure LInv2 (w : World) (v1 : Value) (l1 : List Ch) (v2 : Value) (l2 : List Ch) (wk : World) : Prop where
  below : Below w.heap.size w wk
  a : Lst wk v1 l1
  b : Lst wk v2 l2

theorem LInv2.after {w wk w' : World} {v1 v2 : Value} {l1 l2 : List Ch} (h : LInv2 w v1 l1 v2 l2 wk) (hb : Below wk.heap.size wk w') : LInv2 w v1 l1 v2 l2 w' := ⟨below_after h.below hb, h.a.below hb, h.b.below hb⟩

/-- What View answers can be made a text at once, and later. -/
theorem view_keep {w : World} {v : Value} {l : List Ch} (h : Lst w v l) (hl : l.length ≤ 1000) (seen by_ : Int) :
    Calls Try.prog 18 #[v, .int .i64 seen, .int .i64 by_] w fun e w' =>
      ∃ u, e = .returned u ∧ (∀ w'', Below w'.heap.size w' w'' → (convert 33 9 u).run Try.prog w'' = .ok (.string (strOfNums (vw l seen by_))) w'') ∧ Below w.heap.size w w' := by
  obtain ⟨a, len, cap, rfl, h1, h2, h3⟩ := h
  rcases h3 with rfl | ⟨b, off, rfl, hr⟩
  · obtain rfl : l = [] := List.length_eq_zero_iff.1 h1
    refine (view_empty a cap seen by_ w).mono ?_
    rintro e w' ⟨rfl, hb⟩
    exact ⟨_, rfl, fun w'' _ => own_string (base := w''.heap.size) (zs := []) (World.ownsRow_nil _ _ _ _), hb⟩
  · refine (view_some b off len cap l seen by_ w h1 (by omega) hr).mono ?_
    rintro e w' ⟨u, rfl, ho, hb⟩
    exact ⟨u, rfl, fun w'' hb' => own_string (owns_below ho hb'), hb⟩

set_option maxHeartbeats 800000 in
theorem oth_great (l : List Ch) (d : Dd) (number sn who : Int) (v : Value) (w : World) (h : Lst w v l) (hg : 300 < l.length ∨ 100 < d.text.size ∨ who = d.by_) :
    Calls Try.prog 6 #[v, ddV d, .int .i64 number, .int .i64 sn, .int .i64 who] w fun e w' => e = .returned (.bool true) ∧ Below w.heap.size w w' := by
  have HI : Hid (MInv w w.heap.size d v l (w.alloc (dObj d))) := minv_start h
  obtain ⟨ad, cap, rfl, hcap⟩ := h.len
  obtain ⟨kind, by_, no, seen, at_, many, text⟩ := d
  simp only at hg
  clear h
  by_cases h1 : 300 < l.length
  · go_enter Try.func6, Try.ntmps6
    go_wp2_with fail
    refine (fbegun_any _).mono ?_
    rintro e w1 ⟨rfl, hb1⟩
    have HI1 : Hid _ := HI.out.after hb1
    clear hb1 HI
    obtain ⟨_, c0, c1, c2, c3, c4, c5, c6⟩ := HI1.out.at_
    simp only [Nat.zero_add] at c0 c1 c2 c3 c4 c5 c6
    go_wp2
    go_ret
    exact ⟨rfl, HI1.out.below⟩
  · by_cases h2 : 100 < text.size
    · go_enter Try.func6, Try.ntmps6
      go_wp2_with fail
      refine (fbegun_any _).mono ?_
      rintro e w1 ⟨rfl, hb1⟩
      have HI1 : Hid _ := HI.out.after hb1
      clear hb1 HI
      obtain ⟨_, c0, c1, c2, c3, c4, c5, c6⟩ := HI1.out.at_
      simp only [Nat.zero_add] at c0 c1 c2 c3 c4 c5 c6
      go_wp2
      go_ret
      exact ⟨rfl, HI1.out.below⟩
    · obtain rfl : who = by_ := by omega
      go_enter Try.func6, Try.ntmps6
      go_wp2_with fail
      refine (fbegun_any _).mono ?_
      rintro e w1 ⟨rfl, hb1⟩
      have HI1 : Hid _ := HI.out.after hb1
      clear hb1 HI
      obtain ⟨_, c0, c1, c2, c3, c4, c5, c6⟩ := HI1.out.at_
      simp only [Nat.zero_add] at c0 c1 c2 c3 c4 c5 c6
      go_wp2
      go_ret
      exact ⟨rfl, HI1.out.below⟩

theorem do_near_take {l : List Ch} {d : Dd} {number sn who : Int} (hc : doC l d number = 0) (hk : d.kind ≠ 1) (hby : who ≠ d.by_) (hn : number ≤ sn) : cnt (doL l d number) sn who ≤ cnt l sn who ∧ cnt l sn who - d.many ≤ cnt (doL l d number) sn who := by
  obtain ⟨h1, _, _, h4⟩ := doC_zero hc
  obtain ⟨_, hw, _, _, _, _, h5, _, h6, _⟩ := check_parts h1
  have := takeL_near (d := d) (number := number) hw h6 hby h4 hn l 0
  rw [doL, if_neg hk]
  unfold room at this
  omega

set_option maxHeartbeats 1600000 in
theorem oth_some (l : List Ch) (d : Dd) (number sn who : Int) (v : Value) (w : World) (h : Lst w v l) (hf : FitsL l) (hl : l.length ≤ 300) (ht : d.text.size ≤ 100) (hby : who ≠ d.by_) :
    Calls Try.prog 6 #[v, ddV d, .int .i64 number, .int .i64 sn, .int .i64 who] w fun e w' => e = .returned (.bool true) ∧ Below w.heap.size w w' := by
  have HPUT : Hid (d.kind = 1 → number ≤ sn → cnt (doL l d number) sn who = cnt l sn who + d.text.size) := fun a b => doL_near_put a b
  have HFAR : Hid (doC l d number = 0 → sn < number → vw (doL l d number) sn who = vw l sn who) := fun a b => doL_far (check_parts (doC_zero a).1).2.1 hby b
  have HTK : Hid (doC l d number = 0 → d.kind ≠ 1 → number ≤ sn → cnt (doL l d number) sn who ≤ cnt l sn who ∧ cnt l sn who - d.many ≤ cnt (doL l d number) sn who) := fun a b c => do_near_take a b hby c
  have HI : Hid (MInv w w.heap.size d v l (w.alloc (dObj d))) := minv_start h
  obtain ⟨ad, cap, rfl, hcap⟩ := h.len
  obtain ⟨kind, by_, no, seen, at_, many, text⟩ := d
  simp only at ht HPUT HFAR HTK hby
  have hby' : (who == by_) = false := by simp [hby]
  clear h hby
  go_enter Try.func6, Try.ntmps6
  go_wp2_with fail
  refine (fbegun_any _).mono ?_
  rintro e w1 ⟨rfl, hb1⟩
  have HI1 : Hid _ := HI.out.after hb1
  clear hb1 HI
  obtain ⟨_, c0, c1, c2, c3, c4, c5, c6⟩ := HI1.out.at_
  simp only [Nat.zero_add] at c0 c1 c2 c3 c4 c5 c6
  go_wp2_with fail
  clear c0 c1 c2 c3 c4 c5 c6
  refine (do_any l ⟨kind, by_, no, seen, at_, many, text⟩ number _ _ HI1.out.lst (by omega) hf).mono ?_
  rintro e w3 ⟨v3, rfl, ho3, hb3⟩
  have HI3 : Hid _ := HI1.out.after hb3
  have HO3 : Hid (Own w3 _ v3 _) := ho3
  obtain ⟨a3, cap3, rfl, hcap3⟩ := ho3.lst.len
  clear hb3 HI1 ho3
  by_cases hc : doC l ⟨kind, by_, no, seen, at_, many, text⟩ number = 0
  · have HD : Hid (doR l ⟨kind, by_, no, seen, at_, many, text⟩ number = doL l ⟨kind, by_, no, seen, at_, many, text⟩ number) := by show doR _ _ _ = _; rw [doR, if_pos hc]
    obtain ⟨q1, q2, q3, q4⟩ := doC_zero hc
    obtain ⟨_, _, _, _, _, _, p1, p2, p3, p4, p5, p6⟩ := check_parts q1
    simp only at q2 q3 p1 p2 p3 p4 p5 p6
    rw [hc]
    have hxl : (doR l ⟨kind, by_, no, seen, at_, many, text⟩ number).length ≤ 1000 := by rw [HD.out, doL_len p6]; simp only; omega
    generalize hX : doR l ⟨kind, by_, no, seen, at_, many, text⟩ number = X at *
    rw [← HD.out] at HPUT HFAR HTK
    clear p5 p6 q2 HD
    obtain ⟨_, c0, c1, c2, c3, c4, c5, c6⟩ := HI3.out.at_
    simp only [Nat.zero_add] at c0 c1 c2 c3 c4 c5 c6
    by_cases hs : sn < number
    · have HE : Hid (vw X sn who = vw l sn who) := HFAR.out hc hs
      have H2 : Hid (LInv2 w (.slice a3 X.length cap3) X (.slice ad l.length cap) l w3) := ⟨HI3.out.below, HO3.out.lst, HI3.out.lst⟩
      clear HPUT HFAR HTK
      clear c0 c1 c2 c3 c4 c5 c6
      go_wp2
      go_region_with (go_at_call 18; first
        | (refine (view_keep (HX.out.b) (by omega) sn who).mono ?_; rintro e w5 ⟨u5, rfl, hk5, hb5⟩; have HY : Hid _ := HX.out.after hb5; have s2 := hk5 _ (Below.refl _ _); have s1' := hk4 _ hb5)
        | (refine (view_keep (H2.out.after (Below.refl _ _).drew).a hxl sn who).mono ?_; rintro e w4 ⟨u4, rfl, hk4, hb4⟩; have HX : Hid (LInv2 w _ X _ l w4) := (H2.out.after (Below.refl _ _).drew).after hb4; have s1 := hk4 _ (Below.refl _ _); rw [HE.out] at s1 hk4))
      all_goals
        go_wp2
        go_ret
        exact ⟨rfl, HY.out.below⟩
    · have hn1 := cnt_bd l sn who
      have hn2 := cnt_bd X sn who
      go_wp2_with fail
      refine (count_lst HI3.out.lst (by omega) sn who).mono ?_
      rintro e w4 ⟨rfl, hb4⟩
      have HI4 : Hid _ := HI3.out.after hb4
      have HO4 : Hid (Own w4 _ _ _) := HO3.out.below hb4
      clear hb4 HI3 HO3 c0 c1 c2 c3 c4 c5 c6
      go_wp2_with fail
      refine (count_lst HO4.out.lst hxl sn who).mono ?_
      rintro e w5 ⟨rfl, hb5⟩
      have HI5 : Hid _ := HI4.out.after hb5
      clear hb5 HI4 HO4
      obtain ⟨_, c0, c1, c2, c3, c4, c5, c6⟩ := HI5.out.at_
      simp only [Nat.zero_add] at c0 c1 c2 c3 c4 c5 c6
      generalize cnt l sn who = n at *
      generalize cnt X sn who = m at *
      by_cases hk : kind = 1
      · have hm := HPUT.out hk (by omega)
        obtain rfl : kind = 1 := hk
        clear HPUT HFAR HTK
        go_wp2
        go_ret
        exact ⟨rfl, HI5.out.below⟩
      · obtain ⟨hm1, hm2⟩ := HTK.out hc hk (by omega)
        have hk' : (kind == 1) = false := by simp [hk]
        clear HPUT HFAR HTK hk
        go_wp2
        all_goals
          go_ret
          exact ⟨rfl, HI5.out.below⟩
  · have hne : (doC l ⟨kind, by_, no, seen, at_, many, text⟩ number != 0) = true := by simp [hc]
    clear hc HPUT HFAR HTK
    generalize doC l ⟨kind, by_, no, seen, at_, many, text⟩ number = c at *
    go_wp2
    go_ret
    exact ⟨rfl, HI3.out.below⟩

theorem law_others (w : World) {v : Value} {l : List Ch} (h : Lst w v l) (hf : FitsL l) (d : Dd) (number : Int) (_ : Fits number) (sn : Int) (_ : Fits sn) (who : Int) (_ : Fits who) :
    Calls Try.prog 6 #[v, ddV d, .int .i64 number, .int .i64 sn, .int .i64 who] w fun e w' => e = .returned (.bool true) ∧ Below w.heap.size w w' := by
  by_cases h1 : 300 < l.length ∨ 100 < d.text.size ∨ who = d.by_
  · exact oth_great l d number sn who v w h h1
  · exact oth_some l d number sn who v w h hf (by omega) (by omega) (by omega)

end Go.Proofs.Ytgcklgiapjbkhaa
