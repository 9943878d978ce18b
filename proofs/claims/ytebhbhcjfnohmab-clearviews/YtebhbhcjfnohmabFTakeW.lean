/-
  The contract of fold.take.
-/
import Derived.Test.YtebhbhcjfnohmabFPut
import Derived.Test.YtebhbhcjfnohmabFTaken
import Derived.Test.YtebhbhcjfnohmabFTakeP
namespace Go.Proofs.Ytebhbhcjfnohmab
open Go.RowKit

/-- In the middle of take: nothing has turned since the deed was laid; and there is a list of the call's own. -/
structure TInv (w : World) (d : Dd) (lv : Value) (L : List Ch) (wk : World) : Prop where
  below : Below (w.alloc (dObj d)).heap.size (w.alloc (dObj d)) wk
  own : Own wk (w.alloc (dObj d)).heap.size lv L

theorem TInv.minv {w wk : World} {d : Dd} {v lv : Value} {l L : List Ch} (h : TInv w d lv L wk) (h0 : Lst w v l) : MInv w w.heap.size d v l wk := (minv_start h0).after h.below

theorem TInv.after {w wk w' : World} {d : Dd} {lv : Value} {L : List Ch} (h : TInv w d lv L wk) (hb : Below wk.heap.size wk w') : TInv w d lv L w' :=
  ⟨below_after h.below hb, h.own.below hb⟩

theorem TInv.drew {w wk : World} {d : Dd} {lv : Value} {L : List Ch} (h : TInv w d lv L wk) : TInv w d lv L wk.drew := h.after (Below.refl _ _).drew

theorem sees_t {w wk : World} {d : Dd} {lv : Value} {L : List Ch} (h : TInv w d lv L wk) (x : Ch) (seen by_ : Int) :
    Calls Try.prog 42 #[chV x, .int .i64 seen, .int .i64 by_] wk fun e w' => e = .returned (.bool (seesC seen by_ x)) ∧ TInv w d lv L w' :=
  (sees_any x seen by_ wk).mono fun _ _ ⟨he, hb⟩ => ⟨he, h.after hb⟩

theorem Lst.nth {wk : World} {b off cap n : Nat} {l : List Ch} (h : Lst wk (.slice (some ⟨b, off, none⟩) n cap) l) {k : Nat} (hk : k < l.length) : At wk b (off + k * 7) l[k] := by
  obtain ⟨a', len', cap', he, h1, h2, h3⟩ := h
  simp only [Value.slice.injEq] at he
  obtain ⟨rfl, rfl, rfl⟩ := he
  rcases h3 with h3 | ⟨b', off', h3, hr⟩
  · omega
  · cases h3
    exact hr.at_ k hk

theorem Lst.place {wk : World} {v : Value} {l : List Ch} (h : Lst wk v l) (hk : 0 < l.length) : ∃ b off cap, v = .slice (some ⟨b, off, none⟩) l.length cap := by
  obtain ⟨a', len', cap', rfl, rfl, h2, h3⟩ := h
  rcases h3 with h3 | ⟨b', off', rfl, hr⟩
  · omega
  · exact ⟨b', off', cap', rfl⟩

theorem Own.place {wk : World} {base : Nat} {v : Value} {l : List Ch} (h : Own wk base v l) (hk : 0 < l.length) : ∃ g cap, v = .slice (some ⟨g, 0, none⟩) l.length cap := by
  obtain ⟨_, h2⟩ := h
  rcases h2 with ⟨_, hn⟩ | ⟨g, cap, cur, rfl, _⟩
  · omega
  · exact ⟨g, cap, rfl⟩

/-- The byte at a place of the call's own list is set. -/
theorem TInv.set {w wk : World} {g n cap : Nat} {d : Dd} {L : List Ch} (h : TInv w d (.slice (some ⟨g, 0, none⟩) n cap) L wk) {k : Nat} (hk : k < L.length) (hn : L.length = n) (y : Ch) :
    TInv w d (.slice (some ⟨g, 0, none⟩) n cap) (L.set k y) (((((((wk.setCell ⟨g, k * 7, none⟩ (.int .u8 y.c)).setCell ⟨g, k * 7 + 1, none⟩ (.int .i64 y.by_)).setCell ⟨g, k * 7 + 2, none⟩ (.int .i64 y.no)).setCell ⟨g, k * 7 + 3, none⟩ (.int .i64 y.k)).setCell ⟨g, k * 7 + 4, none⟩ (.int .i64 y.inn)).setCell ⟨g, k * 7 + 5, none⟩ (.int .i64 y.out)).setCell ⟨g, k * 7 + 6, none⟩ (.int .i64 y.gone)) := by
  obtain ⟨hb, ho⟩ := h
  have hg := (World.ownsRow.lt ho g rfl).1
  refine ⟨?_, ?_⟩
  · exact ((((((hb.setCell (p := ⟨g, _, none⟩) hg _).setCell (p := ⟨g, _, none⟩) hg _).setCell (p := ⟨g, _, none⟩) hg _).setCell (p := ⟨g, _, none⟩) hg _).setCell (p := ⟨g, _, none⟩) hg _).setCell (p := ⟨g, _, none⟩) hg _).setCell (p := ⟨g, _, none⟩) hg _
  · unfold Own at ho ⊢
    rw [List.length_set, ← set_byte L k y hk, hn]
    rw [hn] at ho
    exact ((((((ho.stored _ _).1.stored _ _).1.stored _ _).1.stored _ _).1.stored _ _).1.stored _ _).1.stored _ _ |>.1

theorem own_spots {w : World} {base g n cap : Nat} {L : List Ch} (h : Own w base (.slice (some ⟨g, 0, none⟩) n cap) L) (hn : L.length = n) {j : Nat} (hj : j < n * 7) : (∃ u, w.cell? ⟨g, j, none⟩ = some u) ∧ w.frozen? ⟨g, j, none⟩ = false := by
  unfold Own at h
  rw [hn] at h
  exact own_spot h hj

set_option maxRecDepth 20000 in
set_option maxHeartbeats 800000 in
theorem take_any (l : List Ch) (d : Dd) (number : Int) (v : Value) (w : World) (h : Lst w v l) (hl : l.length ≤ 1000) (hc : checkC d = 0) (hk : d.kind ≠ 1) (hn : d.at_ + d.many ≤ cnt l d.seen d.by_) (hf : FitsL l) :
    Calls Try.prog 77 #[v, ddV d, .int .i64 number] w fun e w' => ∃ v', e = .returned v' ∧ Own w' w.heap.size v' (doL l d number) ∧ Below w.heap.size w w' := by
  have HI : Hid _ := minv_start (d := d) h
  have H0 : Hid (Lst w v l) := h
  obtain ⟨ad, cap, rfl, hcap⟩ := h.len
  obtain ⟨_, hwr, _, _, _, _, p1, p2, p3, p4, _, p6⟩ := check_parts hc
  have HD : Hid (∀ p q, behindL d.seen d.by_ d.at_.toNat l = some p → behindL d.seen d.by_ (d.at_ + d.many).toNat l = some q → doL l d number = mixL d number p q 0 l) := by
    intro p q hp hq
    rw [doL, if_neg hk, take_places p1 p3 hp hq]
  have HB0 : Hid (Below w.heap.size w (w.alloc (dObj d))) := (Below.refl _ _).alloc (Nat.le_refl _) _
  obtain ⟨kind, by_, no, seen, at_, many, text⟩ := d
  simp only at hn p1 p2 p3 p4 HD
  unfold dObj at HB0
  clear h hc p6
  go_enter Try.func77, Try.ntmps77
  go_wp2_with fail
  refine (clone_lst HI.out.lst (by omega)).mono ?_
  rintro e w1 ⟨lv, rfl, hown, hb⟩
  have HT1 : Hid (TInv w ⟨kind, by_, no, seen, at_, many, text⟩ lv l w1) := ⟨hb, hown⟩
  clear hb hown HI
  obtain ⟨_, c0, c1, c2, c3, c4, c5, c6⟩ := (HT1.out.minv H0.out).at_
  simp only [Nat.zero_add] at c0 c1 c2 c3 c4 c5 c6
  go_wp2_with fail
  refine (behind_lst (HT1.out.minv H0.out).lst hl seen by_ at_ p1 (by omega)).mono ?_
  rintro e w2 ⟨p, rfl, hp, hpl, hb⟩
  have HP : Hid _ := hp
  have HT2 : Hid _ := HT1.out.after hb
  clear hb HT1 hp c0 c1 c2 c3 c4 c5 c6
  obtain ⟨_, c0, c1, c2, c3, c4, c5, c6⟩ := (HT2.out.minv H0.out).at_
  simp only [Nat.zero_add] at c0 c1 c2 c3 c4 c5 c6
  go_wp2_with fail
  refine (behind_lst (HT2.out.minv H0.out).lst hl seen by_ (at_ + many) (by omega) (by omega)).mono ?_
  rintro e w3 ⟨q, rfl, hq, hql, hb⟩
  have HF : Hid _ := HD.out p q HP.out hq
  have hpq : p ≤ q := by
    rcases places_le (d := ⟨kind, by_, no, seen, at_, many, text⟩) p1 p3 HP.out hq with hm | hm
    · have hm' : many = 0 := hm
      rw [hm', Int.add_zero, HP.out] at hq
      exact Nat.le_of_eq (Option.some.inj hq)
    · exact hm
  have HT3 : Hid _ := HT2.out.after hb
  clear hb HT2 hq c0 c1 c2 c3 c4 c5 c6 HD
  go_wp2
  go_loopw [10] (fun i wr => ∃ k : Nat, p ≤ k ∧ k ≤ q ∧ i = .int .i64 k ∧ Hid (TInv w ⟨kind, by_, no, seen, at_, many, text⟩ lv (mixL ⟨kind, by_, no, seen, at_, many, text⟩ number p k 0 l) wr)) (fun i _ => q - (intOf i).toNat)
  case atStart => exact ⟨p, Nat.le_refl _, hpq, rfl, by rw [mixL_none]; exact HT3⟩
  case round =>
    obtain ⟨k, hpk, hkq, rfl, HK⟩ := hrel
    clear HT3
    by_cases hlt : k < q
    · have hkl : k < l.length := by omega
      have hkI : (k : Int) < (l.length : Int) := by omega
      obtain ⟨b, off, cap', hv⟩ := H0.out.place (by omega)
      simp only [Value.slice.injEq] at hv
      obtain ⟨rfl, _, rfl⟩ := hv
      obtain ⟨g, capL, rfl⟩ := HK.out.own.place (by rw [mixL_len]; omega)
      rw [mixL_len] at *
      obtain ⟨x, hx⟩ : ∃ x, x = l[k] := ⟨_, rfl⟩
      have HX : Hid _ := hx
      have HL : Hid (∀ wk, Lst wk (.slice (some ⟨b, off, none⟩) l.length cap) l → At wk b (off + k * 7) x) := fun wk hh => by rw [hx]; exact hh.nth hkl
      clear hx
      go_wp2
      refine wp_region_quiet (C := fun wk => TInv w ⟨kind, by_, no, seen, at_, many, text⟩ (.slice (some ⟨g, 0, none⟩) l.length capL) (mixL ⟨kind, by_, no, seen, at_, many, text⟩ number p k 0 l) wk) (by kernel_rfl) (by kernel_rfl) (HK.out.drew) ?_
      refine wpQuiet_step (fun K hK => ?_)
      go_simp
      refine ⟨_, fun _ _ => rfl, hK _ ?_⟩
      clear hK K
      refine wpQuiet_step (fun K hK => ?_)
      go_simp
      refine ⟨_, fun _ _ => rfl, hK _ ?_⟩
      clear hK K
      refine wpQuiet_step (fun K hK => ?_)
      go_simp
      refine ⟨.pointer (some ⟨b, off + k * 7, none⟩), fun wk hwk => ?_, hK _ ?_⟩
      · go_simp
      clear hK K
      refine wpQuiet_step (fun K hK => ?_)
      go_simp
      refine ⟨chV x, fun wk hwk => ?_, hK _ ?_⟩
      · have hat := HL.out wk (hwk.minv H0.out).lst
        obtain ⟨g0, g1, g2, g3, g4, g5, g6⟩ := hat
        go_simp
      clear hK K
      refine wpQuiet_step (fun K hK => ?_)
      go_simp
      refine ⟨_, fun _ _ => rfl, hK _ ?_⟩
      clear hK K
      refine wpQuiet_step (fun K hK => ?_)
      go_simp
      refine ⟨.int .i64 seen, fun wk hwk => ?_, hK _ ?_⟩
      · obtain ⟨_, c0, c1, c2, c3, c4, c5, c6⟩ := (hwk.minv H0.out).at_
        simp only [Nat.zero_add] at c0 c1 c2 c3 c4 c5 c6
        go_simp
      clear hK K
      refine wpQuiet_step (fun K hK => ?_)
      go_simp
      refine ⟨_, fun _ _ => rfl, hK _ ?_⟩
      clear hK K
      refine wpQuiet_step (fun K hK => ?_)
      go_simp
      refine ⟨.int .i64 by_, fun wk hwk => ?_, hK _ ?_⟩
      · obtain ⟨_, c0, c1, c2, c3, c4, c5, c6⟩ := (hwk.minv H0.out).at_
        simp only [Nat.zero_add] at c0 c1 c2 c3 c4 c5 c6
        go_simp
      clear hK K
      refine wpQuiet_step (fun K hK => ?_)
      go_simp
      refine ⟨_, fun wk hwk => sees_t hwk x _ _, hK _ ?_⟩
      clear hK K
      refine wpQuiet_nil ?_
      intro w4 hw4
      have HK4 : Hid _ := hw4
      clear hw4 HK
      cases hs : seesC seen by_ x
      · have HN : Hid _ := mixL_pass ⟨kind, by_, no, seen, at_, many, text⟩ number p k l hkl (by rw [← HX.out]; exact hs)
        go_wp2
        go_roundw
        case rel => exact ⟨k + 1, by omega, by omega, by go_num, by rw [← HN.out]; exact HK4⟩
        case measure => simp [intOf]; omega
      · have HN : Hid (_ = _) := mixL_set ⟨kind, by_, no, seen, at_, many, text⟩ number p k l hpk hkl (by rw [← HX.out]; exact hs)
        have HM : Hid (tookB x.gone by_ = false) := sees_took hs
        have HG : Hid _ := hf l[k] (List.getElem_mem hkl)
        rw [← HX.out] at HG HN
        go_wp2
        refine wp_region_stage (fun wk => MInv w w.heap.size ⟨kind, by_, no, seen, at_, many, text⟩ (.slice (some ⟨b, off, none⟩) l.length cap) l wk) (fun i => i == 9 || i == 11) (fun wk => TInv w ⟨kind, by_, no, seen, at_, many, text⟩ (.slice (some ⟨g, 0, none⟩) l.length capL) (mixL ⟨kind, by_, no, seen, at_, many, text⟩ number p k 0 l) wk) (by kernel_rfl) (by kernel_rfl) (by kernel_rfl) (fun _ h => h.minv H0.out) HK4.out.drew ?_
        refine wpStage_still rfl (fun K hK => ?_)
        go_simp
        refine ⟨_, fun _ _ => rfl, hK _ ?_⟩
        clear hK K
        refine wpStage_still rfl (fun K hK => ?_)
        go_simp
        refine ⟨_, fun _ _ => rfl, hK _ ?_⟩
        clear hK K
        refine wpStage_still rfl (fun K hK => ?_)
        go_simp
        refine ⟨_, fun _ _ => rfl, hK _ ?_⟩
        clear hK K
        refine wpStage_still rfl (fun K hK => ?_)
        go_simp
        refine ⟨_, fun _ _ => rfl, hK _ ?_⟩
        clear hK K
        refine wpStage_still rfl (fun K hK => ?_)
        go_simp
        refine ⟨.pointer (some ⟨b, off + k * 7, none⟩), fun wk hwk => ?_, hK _ ?_⟩
        · go_simp
        clear hK K
        refine wpStage_still rfl (fun K hK => ?_)
        go_simp
        refine ⟨chV x, fun wk hwk => ?_, hK _ ?_⟩
        · have hat := HL.out wk hwk.lst
          obtain ⟨g0, g1, g2, g3, g4, g5, g6⟩ := hat
          go_simp
        clear hK K
        refine wpStage_still rfl (fun K hK => ?_)
        go_simp
        refine ⟨_, fun _ _ => rfl, hK _ ?_⟩
        clear hK K
        refine wpStage_still rfl (fun K hK => ?_)
        go_simp
        refine ⟨.int .i64 by_, fun wk hwk => ?_, hK _ ?_⟩
        · obtain ⟨_, c0, c1, c2, c3, c4, c5, c6⟩ := hwk.at_
          simp only [Nat.zero_add] at c0 c1 c2 c3 c4 c5 c6
          go_simp
        clear hK K
        refine wpStage_still rfl (fun K hK => ?_)
        go_simp
        refine ⟨_, fun _ _ => rfl, hK _ ?_⟩
        clear hK K
        refine wpStage_spine rfl rfl (fun u => u = chV (mark by_ number x)) (fun u wk => TInv w ⟨kind, by_, no, seen, at_, many, text⟩ (.slice (some ⟨g, 0, none⟩) l.length capL) (mixL ⟨kind, by_, no, seen, at_, many, text⟩ number p k 0 l) wk) ⟨_, rfl⟩ (fun _ _ h => h.minv H0.out) (fun wk hwk => ?_) (fun u hu => ?_)
        · go_simp
          refine (taken_any x by_ number wk hwr HM.out HG.out.1 HG.out.2).mono ?_
          rintro e w5 ⟨rfl, hb⟩
          exact ⟨_, rfl, rfl, hwk.after hb⟩
        subst hu
        refine wpStage_still rfl (fun K hK => ?_)
        go_simp
        refine ⟨.pointer (some ⟨g, k * 7, none⟩), fun wk hwk => ?_, hK _ ?_⟩
        · go_simp
        clear hK K
        refine wpStage_spine rfl rfl (fun _ => True) (fun _ wk => TInv w ⟨kind, by_, no, seen, at_, many, text⟩ (.slice (some ⟨g, 0, none⟩) l.length capL) (mixL ⟨kind, by_, no, seen, at_, many, text⟩ number p (k + 1) 0 l) wk) ⟨.int .i64 0, trivial⟩ (fun _ _ h => h.minv H0.out) (fun wk hwk => ?_) (fun u _ => ?_)
        · have hN := hwk.set (k := k) (by rw [mixL_len]; exact hkl) (mixL_len _ _ _ _ _ _) (mark by_ number x)
          rw [HN.out] at hN
          have hown := hwk.own
          obtain ⟨⟨u0, e0⟩, f0⟩ := own_spots hown (mixL_len _ _ _ _ _ _) (j := k * 7) (by omega)
          obtain ⟨⟨u1, e1⟩, f1⟩ := own_spots hown (mixL_len _ _ _ _ _ _) (j := k * 7 + 1) (by omega)
          obtain ⟨⟨u2, e2⟩, f2⟩ := own_spots hown (mixL_len _ _ _ _ _ _) (j := k * 7 + 2) (by omega)
          obtain ⟨⟨u3, e3⟩, f3⟩ := own_spots hown (mixL_len _ _ _ _ _ _) (j := k * 7 + 3) (by omega)
          obtain ⟨⟨u4, e4⟩, f4⟩ := own_spots hown (mixL_len _ _ _ _ _ _) (j := k * 7 + 4) (by omega)
          obtain ⟨⟨u5, e5⟩, f5⟩ := own_spots hown (mixL_len _ _ _ _ _ _) (j := k * 7 + 5) (by omega)
          obtain ⟨⟨u6, e6⟩, f6⟩ := own_spots hown (mixL_len _ _ _ _ _ _) (j := k * 7 + 6) (by omega)
          generalize mark by_ number x = y at *
          obtain ⟨yc, yb, yn, yk, yi, yo, yg⟩ := y
          go_simp
          exact hN
        refine wpStage_nil (fun w6 hw6 => ?_)
        have H6 : Hid _ := hw6
        clear hw6
        go_wp2
        go_roundw
        case rel => exact ⟨k + 1, by omega, by omega, by go_num, H6⟩
        case measure => simp [intOf]; omega
    · obtain rfl : k = q := by omega
      go_wp2
      go_ret
      exact ⟨_, rfl, by rw [HF.out]; exact HK.out.own.mono (by simp), below_after HB0.out HK.out.below⟩

end Go.Proofs.Ytebhbhcjfnohmab
