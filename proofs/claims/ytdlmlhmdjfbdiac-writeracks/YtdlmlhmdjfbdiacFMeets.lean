/-
  The contract of fold.take.
-/
import Derived.Test.YtdlmlhmdjfbdiacFPut
import Derived.Test.YtdlmlhmdjfbdiacFTakeP
import Derived.Test.YtdlmlhmdjfbdiacFClone
namespace Go.Proofs.Ytdlmlhmdjfbdiac
open Go.RowKit

/-- In the middle of take: nothing has turned since the deed was laid; and there is a list of the call's own. -/
structure TInv (w : World) (d : Dd) (lv : Value) (L : List Ch) (wk : World) : Prop where
  below : Below (w.alloc (dObj d)).heap.size (w.alloc (dObj d)) wk
  own : Own wk (w.alloc (dObj d)).heap.size lv L

theorem TInv.minv {w wk : World} {d : Dd} {v lv : Value} {l L : List Ch} (h : TInv w d lv L wk) (h0 : Lst w v l) : MInv w w.heap.size d v l wk := (minv_start h0).after h.below

theorem TInv.after {w wk w' : World} {d : Dd} {lv : Value} {L : List Ch} (h : TInv w d lv L wk) (hb : Below wk.heap.size wk w') : TInv w d lv L w' :=
  ⟨below_after h.below hb, h.own.below hb⟩

theorem TInv.drew {w wk : World} {d : Dd} {lv : Value} {L : List Ch} (h : TInv w d lv L wk) : TInv w d lv L wk.drew := h.after (Below.refl _ _).drew

theorem sees_t {w wk : World} {d : Dd} {lv : Value} {L : List Ch} (h : TInv w d lv L wk) (x : Ch) (seen by_ : Int) :
    Calls Try.prog 46 #[chV x, .int .i64 seen, .int .i64 by_] wk fun e w' => e = .returned (.bool (seesC seen by_ x)) ∧ TInv w d lv L w' :=
  (sees_any x seen by_ wk).mono fun _ _ ⟨he, hb⟩ => ⟨he, h.after hb⟩

theorem Lst.nth {wk : World} {b off cap n : Nat} {l : List Ch} (h : Lst wk (.slice (some ⟨b, off, none⟩) n cap) l) {k : Nat} (hk : k < l.length) : At wk b (off + k * 7) l[k] := by
  obtain ⟨a', len', cap', he, h1, h2, h3⟩ := h
  simp only [Value.slice.injEq] at he
  obtain ⟨rfl, rfl, rfl⟩ := he
  rcases h3 with h3 | ⟨b', off', h3, hr⟩
  · omega
  · cases h3
    exact hr.at_ k hk

theorem Lst.place {wk : World} {v : Value} {l : List Ch} (h : Lst wk v l) (hk : 0 < l.length) : ∃ b off cap, v = .slice (some ⟨b, off, none⟩) l.length cap := by
  obtain ⟨a', len', cap', rfl, rfl, h2, h3⟩ := h
  rcases h3 with h3 | ⟨b', off', rfl, hr⟩
  · omega
  · exact ⟨b', off', cap', rfl⟩

theorem Own.place {wk : World} {base : Nat} {v : Value} {l : List Ch} (h : Own wk base v l) (hk : 0 < l.length) : ∃ g cap, v = .slice (some ⟨g, 0, none⟩) l.length cap := by
  obtain ⟨_, h2⟩ := h
  rcases h2 with ⟨_, hn⟩ | ⟨g, cap, cur, rfl, _⟩
  · omega
  · exact ⟨g, cap, rfl⟩

/-- The byte at a place of the call's own list is set. -/
theorem TInv.set {w wk : World} {g n cap : Nat} {d : Dd} {L : List Ch} (h : TInv w d (.slice (some ⟨g, 0, none⟩) n cap) L wk) {k : Nat} (hk : k < L.length) (hn : L.length = n) (y : Ch) :
    TInv w d (.slice (some ⟨g, 0, none⟩) n cap) (L.set k y) (((((((wk.setCell ⟨g, k * 7, none⟩ (.int .u8 y.c)).setCell ⟨g, k * 7 + 1, none⟩ (.int .i64 y.by_)).setCell ⟨g, k * 7 + 2, none⟩ (.int .i64 y.no)).setCell ⟨g, k * 7 + 3, none⟩ (.int .i64 y.k)).setCell ⟨g, k * 7 + 4, none⟩ (.int .i64 y.inn)).setCell ⟨g, k * 7 + 5, none⟩ (.int .i64 y.out)).setCell ⟨g, k * 7 + 6, none⟩ (.int .i64 y.gone)) := by
  obtain ⟨hb, ho⟩ := h
  have hg := (World.ownsRow.lt ho g rfl).1
  refine ⟨?_, ?_⟩
  · exact ((((((hb.setCell (p := ⟨g, _, none⟩) hg _).setCell (p := ⟨g, _, none⟩) hg _).setCell (p := ⟨g, _, none⟩) hg _).setCell (p := ⟨g, _, none⟩) hg _).setCell (p := ⟨g, _, none⟩) hg _).setCell (p := ⟨g, _, none⟩) hg _).setCell (p := ⟨g, _, none⟩) hg _
  · unfold Own at ho ⊢
    rw [List.length_set, ← set_byte L k y hk, hn]
    rw [hn] at ho
    exact ((((((ho.stored _ _).1.stored _ _).1.stored _ _).1.stored _ _).1.stored _ _).1.stored _ _).1.stored _ _ |>.1

theorem own_spots {w : World} {base g n cap : Nat} {L : List Ch} (h : Own w base (.slice (some ⟨g, 0, none⟩) n cap) L) (hn : L.length = n) {j : Nat} (hj : j < n * 7) : (∃ u, w.cell? ⟨g, j, none⟩ = some u) ∧ w.frozen? ⟨g, j, none⟩ = false := by
  unfold Own at h
  rw [hn] at h
  exact own_spot h hj

set_option maxRecDepth 20000 in
set_option maxHeartbeats 800000 in
theorem take_any (l : List Ch) (d : Dd) (number : Int) (v : Value) (w : World) (h : Lst w v l) (hl : l.length ≤ 1000) (hc : checkC d = 0) (hk : d.kind ≠ 1) (hn : d.at_ + d.many ≤ cnt l d.seen d.by_) (hf : FitsL l) :
    Calls Try.prog 63 #[v, ddV d, .int .i64 number] w fun e w' => ∃ v', e = .returned v' ∧ Own w' w.heap.size v' (doL l d number) ∧ Below w.heap.size w w' := by
  have HI : Hid _ := minv_start (d := d) h
  have H0 : Hid (Lst w v l) := h
  obtain ⟨ad, cap, rfl, hcap⟩ := h.len
  obtain ⟨_, hwr, _, _, _, _, p1, p2, p3, p4, _, p6⟩ := check_parts hc
  have HD : Hid (∀ p q, behindL d.seen d.by_ d.at_.toNat l = some p → behindL d.seen d.by_ (d.at_ + d.many).toNat l = some q → doL l d number = mixL d number p q 0 l) := by
    intro p q hp hq
    rw [doL, if_neg hk, take_places p1 p3 hp hq]
  have HB0 : Hid (Below w.heap.size w (w.alloc (dObj d))) := (Below.refl _ _).alloc (Nat.le_refl _) _
  obtain ⟨kind, by_, no, seen, at_, many, text⟩ := d
  simp only at hn p1 p2 p3 p4 HD
  unfold dObj at HB0
  clear h hc p6
  go_enter Try.func63, Try.ntmps63
  go_wp2_with fail
  refine (clone_lst HI.out.lst (by omega)).mono ?_
  rintro e w1 ⟨lv, rfl, hown, hb⟩
  have HT1 : Hid (TInv w ⟨kind, by_, no, seen, at_, many, text⟩ lv l w1) := ⟨hb, hown⟩
  clear hb hown HI
  obtain ⟨_, c0, c1, c2, c3, c4, c5, c6⟩ := (HT1.out.minv H0.out).at_
  simp only [Nat.zero_add] at c0 c1 c2 c3 c4 c5 c6
  go_wp2_with fail
  refine (behind_lst (HT1.out.minv H0.out).lst hl seen by_ at_ p1 (by omega)).mono ?_
  rintro e w2 ⟨p, rfl, hp, hpl, hb⟩
  have HP : Hid _ := hp
  have HT2 : Hid _ := HT1.out.after hb
  clear hb HT1 hp c0 c1 c2 c3 c4 c5 c6
  obtain ⟨_, c0, c1, c2, c3, c4, c5, c6⟩ := (HT2.out.minv H0.out).at_
  simp only [Nat.zero_add] at c0 c1 c2 c3 c4 c5 c6
  go_wp2_with fail
  refine (behind_lst (HT2.out.minv H0.out).lst hl seen by_ (at_ + many) (by omega) (by omega)).mono ?_
  rintro e w3 ⟨q, rfl, hq, hql, hb⟩
  have HF : Hid _ := HD.out p q HP.out hq
  have hpq : p ≤ q := by
    rcases places_le (d := ⟨kind, by_, no, seen, at_, many, text⟩) p1 p3 HP.out hq with hm | hm
    · have hm' : many = 0 := hm
      rw [hm', Int.add_zero, HP.out] at hq
      exact Nat.le_of_eq (Option.some.inj hq)
    · exact hm
  have HT3 : Hid _ := HT2.out.after hb
  clear hb HT2 hq c0 c1 c2 c3 c4 c5 c6 HD
  go_wp2
  go_loopw [10] (fun i wr => ∃ k : Nat, p ≤ k ∧ k ≤ q ∧ i = .int .i64 k ∧ Hid (TInv w ⟨kind, by_, no, seen, at_, many, text⟩ lv (mixL ⟨kind, by_, no, seen, at_, many, text⟩ number p k 0 l) wr)) (fun i _ => q - (intOf i).toNat)
  case atStart => exact ⟨p, Nat.le_refl _, hpq, rfl, by rw [mixL_none]; exact HT3⟩
  case round =>
    obtain ⟨k, hpk, hkq, rfl, HK⟩ := hrel
    clear HT3
    by_cases hlt : k < q
    · have hkl : k < l.length := by omega
      have hkI : (k : Int) < (l.length : Int) := by omega
      obtain ⟨b, off, cap', hv⟩ := H0.out.place (by omega)
      simp only [Value.slice.injEq] at hv
      obtain ⟨rfl, _, rfl⟩ := hv
      obtain ⟨g, capL, rfl⟩ := HK.out.own.place (by rw [mixL_len]; omega)
      rw [mixL_len] at *
      obtain ⟨x, hx⟩ : ∃ x, x = l[k] := ⟨_, rfl⟩
      have HX : Hid _ := hx
      have HL : Hid (∀ wk, Lst wk (.slice (some ⟨b, off, none⟩) l.length cap) l → At wk b (off + k * 7) x) := fun wk hh => by rw [hx]; exact hh.nth hkl
      clear hx
      go_wp2
      refine wp_region_quiet (C := fun wk => TInv w ⟨kind, by_, no, seen, at_, many, text⟩ (.slice (some ⟨g, 0, none⟩) l.length capL) (mixL ⟨kind, by_, no, seen, at_, many, text⟩ number p k 0 l) wk) (by kernel_rfl) (by kernel_rfl) (HK.out.drew) ?_
      refine wpQuiet_step (fun K hK => ?_)
      go_simp
      refine ⟨_, fun _ _ => rfl, hK _ ?_⟩
      clear hK K
      refine wpQuiet_step (fun K hK => ?_)
      go_simp
      refine ⟨_, fun _ _ => rfl, hK _ ?_⟩
      clear hK K
      refine wpQuiet_step (fun K hK => ?_)
      go_simp
      refine ⟨.pointer (some ⟨b, off + k * 7, none⟩), fun wk hwk => ?_, hK _ ?_⟩
      · go_simp
      clear hK K
      refine wpQuiet_step (fun K hK => ?_)
      go_simp
      refine ⟨chV x, fun wk hwk => ?_, hK _ ?_⟩
      · have hat := HL.out wk (hwk.minv H0.out).lst
        obtain ⟨g0, g1, g2, g3, g4, g5, g6⟩ := hat
        go_simp
      clear hK K
      refine wpQuiet_step (fun K hK => ?_)
      go_simp
      refine ⟨_, fun _ _ => rfl, hK _ ?_⟩
      clear hK K
      refine wpQuiet_step (fun K hK => ?_)
      go_simp
      refine ⟨.int .i64 seen, fun wk hwk => ?_, hK _ ?_⟩
      · obtain ⟨_, c0, c1, c2, c3, c4, c5, c6⟩ := (hwk.minv H0.out).at_
        simp only [Nat.zero_add] at c0 c1 c2 c3 c4 c5 c6
        go_simp
      clear hK K
      refine wpQuiet_step (fun K hK => ?_)
      go_simp
      refine ⟨_, fun _ _ => rfl, hK _ ?_⟩
      clear hK K
      refine wpQuiet_step (fun K hK => ?_)
      go_simp
      refine ⟨.int .i64 by_, fun wk hwk => ?_, hK _ ?_⟩
      · obtain ⟨_, c0, c1, c2, c3, c4, c5, c6⟩ := (hwk.minv H0.out).at_
        simp only [Nat.zero_add] at c0 c1 c2 c3 c4 c5 c6
        go_simp
      clear hK K
      refine wpQuiet_step (fun K hK => ?_)
      go_simp
      refine ⟨_, fun wk hwk => sees_t hwk x _ _, hK _ ?_⟩
      clear hK K
      refine wpQuiet_nil ?_
      intro w4 hw4
      have HK4 : Hid _ := hw4
      clear hw4 HK
      cases hs : seesC seen by_ x
      · have HN : Hid _ := mixL_pass ⟨kind, by_, no, seen, at_, many, text⟩ number p k l hkl (by rw [← HX.out]; exact hs)
        go_wp2
        go_roundw
        case rel => exact ⟨k + 1, by omega, by omega, by go_num, by rw [← HN.out]; exact HK4⟩
        case measure => simp [intOf]; omega
      · have HN : Hid (_ = _) := mixL_set ⟨kind, by_, no, seen, at_, many, text⟩ number p k l hpk hkl (by rw [← HX.out]; exact hs)
        have HM : Hid (tookB x.gone by_ = false) := sees_took hs
        have HG : Hid _ := hf l[k] (List.getElem_mem hkl)
        rw [← HX.out] at HG HN
        go_wp2
        refine wp_region_stage (fun wk => MInv w w.heap.size ⟨kind, by_, no, seen, at_, many, text⟩ (.slice (some ⟨b, off, none⟩) l.length cap) l wk) (fun i => i == 9 || i == 11) (fun wk => TInv w ⟨kind, by_, no, seen, at_, many, text⟩ (.slice (some ⟨g, 0, none⟩) l.length capL) (mixL ⟨kind, by_, no, seen, at_, many, text⟩ number p k 0 l) wk) (by kernel_rfl) (by kernel_rfl) (by kernel_rfl) (fun _ h => h.minv H0.out) HK4.out.drew ?_
        refine wpStage_still rfl (fun K hK => ?_)
        go_simp
        refine ⟨_, fun _ _ => rfl, hK _ ?_⟩
        clear hK K
        refine wpStage_still rfl (fun K hK => ?_)
        go_simp
        refine ⟨_, fun _ _ => rfl, hK _ ?_⟩
        clear hK K
        refine wpStage_still rfl (fun K hK => ?_)
        go_simp
        refine ⟨_, fun _ _ => rfl, hK _ ?_⟩
        clear hK K
        refine wpStage_still rfl (fun K hK => ?_)
        go_simp
        refine ⟨_, fun _ _ => rfl, hK _ ?_⟩
        clear hK K
        refine wpStage_still rfl (fun K hK => ?_)
        go_simp
        refine ⟨.pointer (some ⟨b, off + k * 7, none⟩), fun wk hwk => ?_, hK _ ?_⟩
        · go_simp
        clear hK K
        refine wpStage_still rfl (fun K hK => ?_)
        go_simp
        refine ⟨chV x, fun wk hwk => ?_, hK _ ?_⟩
        · have hat := HL.out wk hwk.lst
          obtain ⟨g0, g1, g2, g3, g4, g5, g6⟩ := hat
          go_simp
        clear hK K
        refine wpStage_still rfl (fun K hK => ?_)
        go_simp
        refine ⟨_, fun _ _ => rfl, hK _ ?_⟩
        clear hK K
        refine wpStage_still rfl (fun K hK => ?_)
        go_simp
        refine ⟨.int .i64 by_, fun wk hwk => ?_, hK _ ?_⟩
        · obtain ⟨_, c0, c1, c2, c3, c4, c5, c6⟩ := hwk.at_
          simp only [Nat.zero_add] at c0 c1 c2 c3 c4 c5 c6
          go_simp
        clear hK K
        refine wpStage_still rfl (fun K hK => ?_)
        go_simp
        refine ⟨_, fun _ _ => rfl, hK _ ?_⟩
        clear hK K
        refine wpStage_spine rfl rfl (fun u => u = chV (mark by_ number x)) (fun u wk => TInv w ⟨kind, by_, no, seen, at_, many, text⟩ (.slice (some ⟨g, 0, none⟩) l.length capL) (mixL ⟨kind, by_, no, seen, at_, many, text⟩ number p k 0 l) wk) ⟨_, rfl⟩ (fun _ _ h => h.minv H0.out) (fun wk hwk => ?_) (fun u hu => ?_)
        · go_simp
          refine (taken_any x by_ number wk hwr HM.out HG.out.1 HG.out.2).mono ?_
          rintro e w5 ⟨rfl, hb⟩
          exact ⟨_, rfl, rfl, hwk.after hb⟩
        subst hu
        refine wpStage_still rfl (fun K hK => ?_)
        go_simp
        refine ⟨.pointer (some ⟨g, k * 7, none⟩), fun wk hwk => ?_, hK _ ?_⟩
        · go_simp
        clear hK K
        refine wpStage_spine rfl rfl (fun _ => True) (fun _ wk => TInv w ⟨kind, by_, no, seen, at_, many, text⟩ (.slice (some ⟨g, 0, none⟩) l.length capL) (mixL ⟨kind, by_, no, seen, at_, many, text⟩ number p (k + 1) 0 l) wk) ⟨.int .i64 0, trivial⟩ (fun _ _ h => h.minv H0.out) (fun wk hwk => ?_) (fun u _ => ?_)
        · have hN := hwk.set (k := k) (by rw [mixL_len]; exact hkl) (mixL_len _ _ _ _ _ _) (mark by_ number x)
          rw [HN.out] at hN
          have hown := hwk.own
          obtain ⟨⟨u0, e0⟩, f0⟩ := own_spots hown (mixL_len _ _ _ _ _ _) (j := k * 7) (by omega)
          obtain ⟨⟨u1, e1⟩, f1⟩ := own_spots hown (mixL_len _ _ _ _ _ _) (j := k * 7 + 1) (by omega)
          obtain ⟨⟨u2, e2⟩, f2⟩ := own_spots hown (mixL_len _ _ _ _ _ _) (j := k * 7 + 2) (by omega)
          obtain ⟨⟨u3, e3⟩, f3⟩ := own_spots hown (mixL_len _ _ _ _ _ _) (j := k * 7 + 3) (by omega)
          obtain ⟨⟨u4, e4⟩, f4⟩ := own_spots hown (mixL_len _ _ _ _ _ _) (j := k * 7 + 4) (by omega)
          obtain ⟨⟨u5, e5⟩, f5⟩ := own_spots hown (mixL_len _ _ _ _ _ _) (j := k * 7 + 5) (by omega)
          obtain ⟨⟨u6, e6⟩, f6⟩ := own_spots hown (mixL_len _ _ _ _ _ _) (j := k * 7 + 6) (by omega)
          generalize mark by_ number x = y at *
          obtain ⟨yc, yb, yn, yk, yi, yo, yg⟩ := y
          go_simp
          exact hN
        refine wpStage_nil (fun w6 hw6 => ?_)
        have H6 : Hid _ := hw6
        clear hw6
        go_wp2
        go_roundw
        case rel => exact ⟨k + 1, by omega, by omega, by go_num, H6⟩
        case measure => simp [intOf]; omega
    · obtain rfl : k = q := by omega
      go_wp2
      go_ret
      exact ⟨_, rfl, by rw [HF.out]; exact HK.out.own.mono (by simp), below_after HB0.out HK.out.below⟩

end Go.Proofs.Ytdlmlhmdjfbdiac

/-
  The contracts of fold.Do and fold.Text.
-/
namespace Go.Proofs.Ytdlmlhmdjfbdiac
open Go.RowKit

/-- What Do answers: the list, if it has no code. -/
def doR (l : List Ch) (d : Dd) (number : Int) : List Ch := if doC l d number = 0 then doL l d number else []

theorem doC_may {l : List Ch} {d : Dd} {number : Int} (h : mayC l d ≠ 0) : doC l d number = mayC l d := by rw [doC, if_pos h]

theorem ret_do {v : Value} {c c' : Int} (h : c = c') : Ending.returned (.tuple #[v, .int .i64 c]) = .returned (.tuple #[v, .int .i64 c']) := by rw [h]

set_option maxRecDepth 20000 in
set_option maxHeartbeats 800000 in
theorem do_any (l : List Ch) (d : Dd) (number : Int) (v : Value) (w : World) (h : Lst w v l) (hl : l.length ≤ 1000) (hf : FitsL l) :
    Calls Try.prog 41 #[v, ddV d, .int .i64 number] w fun e w' => ∃ v', e = .returned (.tuple #[v', .int .i64 (doC l d number)]) ∧ Own w' w.heap.size v' (doR l d number) ∧ Below w.heap.size w w' := by
  have HI : Hid (MInv w w.heap.size d v l (w.alloc (dObj d))) := minv_start (d := d) h
  by_cases hm : mayC l d = 0
  · by_cases hn : number < 1
    · have HC : Hid (doC l d number = 1) := by show doC l d number = 1; rw [doC, if_neg (fun e => e hm), if_pos hn]
      have HR : Hid (doR l d number = []) := by show doR l d number = []; rw [doR, if_neg (by rw [HC.out]; decide)]
      obtain ⟨kind, by_, no, seen, at_, many, text⟩ := d
      clear h
      go_enter Try.func41, Try.ntmps41
      go_wp2_with fail
      refine (may_any l ⟨kind, by_, no, seen, at_, many, text⟩ v _ HI.out.lst hl).mono ?_
      rintro e w1 ⟨rfl, hb⟩
      rw [hm]
      have HI1 : Hid _ := HI.out.after hb
      clear hb HI
      go_wp2
      go_ret2
      exact ⟨.slice none 0 0, ret_do HC.out.symm, by rw [HR.out]; exact own_nil _ _, HI1.out.below⟩
    · have HC : Hid (doC l d number = 0) := by show doC l d number = 0; rw [doC, if_neg (fun e => e hm), if_neg hn]
      have HR : Hid (doR l d number = doL l d number) := by show doR l d number = _; rw [doR, if_pos HC.out]
      obtain ⟨q1, q2, q3, _⟩ := doC_zero HC.out
      have p3 := (check_parts q1).2.2.2.2.2.2.2.2.1
      by_cases hk : d.kind = 1
      · obtain ⟨kind, by_, no, seen, at_, many, text⟩ := d
        obtain rfl : kind = 1 := hk
        simp only at q2 q3 p3
        clear h
        go_enter Try.func41, Try.ntmps41
        go_wp2_with fail
        refine (may_any l ⟨1, by_, no, seen, at_, many, text⟩ v _ HI.out.lst hl).mono ?_
        rintro e w1 ⟨rfl, hb⟩
        rw [hm]
        have HI1 : Hid _ := HI.out.after hb
        clear hb HI
        obtain ⟨_, c0, c1, c2, c3, c4, c5, c6⟩ := HI1.out.at_
        simp only [Nat.zero_add] at c0 c1 c2 c3 c4 c5 c6
        go_wp2_with fail
        clear c0 c1 c2 c3 c4 c5 c6
        refine (put_any l ⟨1, by_, no, seen, at_, many, text⟩ number v _ HI1.out.lst hl q1 rfl (by simp only; omega)).mono ?_
        rintro e w2 ⟨v', rfl, hL, hb⟩
        have HL : Hid (Own w2 w.heap.size v' _) := hL.mono HI1.out.below.size
        have HB : Hid (Below w.heap.size w w2) := below_after HI1.out.below hb
        clear hL hb HI1
        go_wp2
        go_ret2
        exact ⟨v', ret_do HC.out.symm, by rw [HR.out]; exact HL.out, HB.out⟩
      · have hk' : (d.kind == 1) = false := by simp [hk]
        obtain ⟨kind, by_, no, seen, at_, many, text⟩ := d
        simp only at q2 q3 p3 hk'
        have HK : Hid (kind ≠ 1) := hk
        clear h hk
        go_enter Try.func41, Try.ntmps41
        go_wp2_with fail
        refine (may_any l ⟨kind, by_, no, seen, at_, many, text⟩ v _ HI.out.lst hl).mono ?_
        rintro e w1 ⟨rfl, hb⟩
        rw [hm]
        have HI1 : Hid _ := HI.out.after hb
        clear hb HI
        obtain ⟨_, c0, c1, c2, c3, c4, c5, c6⟩ := HI1.out.at_
        simp only [Nat.zero_add] at c0 c1 c2 c3 c4 c5 c6
        go_wp2_with fail
        clear c0 c1 c2 c3 c4 c5 c6
        refine (take_any l ⟨kind, by_, no, seen, at_, many, text⟩ number v _ HI1.out.lst hl q1 HK.out q2 hf).mono ?_
        rintro e w2 ⟨v', rfl, hL, hb⟩
        have HL : Hid (Own w2 w.heap.size v' _) := hL.mono HI1.out.below.size
        have HB : Hid (Below w.heap.size w w2) := below_after HI1.out.below hb
        clear hL hb HI1
        go_wp2
        go_ret2
        exact ⟨v', ret_do HC.out.symm, by rw [HR.out]; exact HL.out, HB.out⟩
  · have HC : Hid (doC l d number = mayC l d) := doC_may hm
    have HR : Hid (doR l d number = []) := by show doR l d number = []; rw [doR, if_neg (by rw [HC.out]; exact hm)]
    have hne : (mayC l d != 0) = true := by simp [hm]
    obtain ⟨kind, by_, no, seen, at_, many, text⟩ := d
    clear h hm
    go_enter Try.func41, Try.ntmps41
    go_wp2_with fail
    refine (may_any l ⟨kind, by_, no, seen, at_, many, text⟩ v _ HI.out.lst hl).mono ?_
    rintro e w1 ⟨rfl, hb⟩
    have HI1 : Hid _ := HI.out.after hb
    clear hb HI
    generalize mayC l ⟨kind, by_, no, seen, at_, many, text⟩ = c at *
    go_wp2
    go_ret2
    exact ⟨.slice none 0 0, ret_do HC.out.symm, by rw [HR.out]; exact own_nil _ _, HI1.out.below⟩

/-- What Text says of a byte: it was taken away by what has a number; it is there. -/
def goneB (x : Ch) : Bool := decide (x.out ≠ 0) && decide (x.out ≠ openN)
def textB (x : Ch) : Bool := decide (x.inn ≠ openN) && !goneB x
def textL (l : List Ch) : List Int := (l.filter textB).map (·.c)

theorem textL_snoc (l : List Ch) (x : Ch) : textL (l ++ [x]) = textL l ++ if textB x = true then [x.c] else [] := by
  unfold textL
  rw [List.filter_append]
  by_cases h : textB x = true <;> simp [h]

theorem textL_le (l : List Ch) : (textL l).length ≤ l.length := by
  unfold textL
  have := List.length_filter_le textB l
  simpa using this

theorem textL_plain {n : Int} {l : List Ch} (h : Plain n l) (hn : n < openN) : textL l = l.map (·.c) := by
  unfold textL
  rw [List.filter_eq_self.2]
  intro x hx
  obtain ⟨h1, h2, _⟩ := h x hx
  simp [textB, goneB, h2]
  omega

theorem ret_str {a b : ByteArray} (h : a = b) : Ending.returned (.string a) = .returned (.string b) := by rw [h]

end Go.Proofs.Ytdlmlhmdjfbdiac

/-
  The contract of fold.All: deeds one behind the other.
-/
namespace Go.Proofs.Ytdlmlhmdjfbdiac
open Go.RowKit

/-- Deeds that lie in memory from a place on. -/
structure Deeds (w : World) (b off : Nat) (ds : List Dd) : Prop where
  lt : b < w.heap.size
  at_ : ∀ i (h : i < ds.length), DdAt w b (off + i * 7) ds[i]

theorem Deeds.below {w w' : World} {b off : Nat} {ds : List Dd} (h : Deeds w b off ds) (hb : Below w.heap.size w w') : Deeds w' b off ds :=
  ⟨by have := hb.size; have := h.lt; omega, fun i hi => (h.at_ i hi).below hb⟩

/-- The value is a slice that holds just those deeds. -/
def DLst (w : World) (v : Value) (ds : List Dd) : Prop :=
  ∃ (a : Option Addr) (len cap : Nat), v = .slice a len cap ∧ ds.length = len ∧ len ≤ cap ∧ (len = 0 ∨ ∃ b off, a = some ⟨b, off, none⟩ ∧ Deeds w b off ds)

theorem DLst.below {w w' : World} {v : Value} {ds : List Dd} (h : DLst w v ds) (hb : Below w.heap.size w w') : DLst w' v ds := by
  obtain ⟨a, len, cap, rfl, h1, h2, h3⟩ := h
  refine ⟨a, len, cap, rfl, h1, h2, ?_⟩
  rcases h3 with h3 | ⟨b, off, rfl, hr⟩
  · exact .inl h3
  · exact .inr ⟨b, off, rfl, hr.below hb⟩

/-- What a list that was done with the first i deeds keeps: it is short, and its bits fit. -/
structure Small (l : List Ch) : Prop where
  len : l.length ≤ 200
  fits : FitsL l

theorem fits_new (d : Dd) (n : Int) : FitsL (newL d n) := by
  intro x hx
  obtain ⟨j, b, rfl, _⟩ := newFrom_mem hx
  show -9223372036854775808 ≤ (0 : Int) ∧ (0 : Int) ≤ 9223372036854775807
  omega

theorem fits_do {l : List Ch} {d : Dd} {number : Int} (h : FitsL l) (hc : checkC d = 0) : FitsL (doL l d number) := by
  obtain ⟨_, hw, _⟩ := check_parts hc
  by_cases hk : d.kind = 1
  · rw [doL, if_pos hk]
    intro x hx
    rcases List.mem_append.1 hx with hx | hx
    · exact h x (List.mem_of_mem_take hx)
    · rcases List.mem_append.1 hx with hx | hx
      · exact fits_new d number x hx
      · exact h x (List.mem_of_mem_drop hx)
  · rw [doL, if_neg hk]
    intro y hy
    obtain ⟨x, hx, hyx⟩ := takeL_mem hy
    rcases hyx with rfl | ⟨hs, rfl⟩
    · exact h _ hx
    · have h1 := h x hx
      have h2 := add_fits hw (sees_took hs) h1.2
      have h3 : (0 : Int) < 2 ^ d.by_.toNat := Int.pow_pos (by decide)
      show -9223372036854775808 ≤ x.gone + 2 ^ d.by_.toNat ∧ x.gone + 2 ^ d.by_.toNat ≤ 9223372036854775807
      omega

theorem small_do {l : List Ch} {d : Dd} {number : Int} (h : FitsL l) (hc : doC l d number = 0) : Small (doL l d number) := by
  obtain ⟨h1, h2, h3, _⟩ := doC_zero hc
  refine ⟨?_, fits_do h h1⟩
  rw [doL_len (fun hk => (check_parts h1).2.2.2.2.2.2.2.2.2.2.2 hk)]
  exact h3

theorem fits_nil : FitsL [] := fun x hx => by simp at hx

/-- What has been done so far, and what is left. -/
def Sofar (l : List Ch) (i : Nat) (ds all : List Dd) : Prop := Small l ∧ allL [] 0 all = allL l i ds

theorem sofar_step {l : List Ch} {i : Nat} {d : Dd} {r all : List Dd} (h : Sofar l i (d :: r) all) (hc : doC l d (i + 1) = 0) : Sofar (doL l d (i + 1)) (i + 1) r all :=
  ⟨small_do h.1.fits hc, by rw [h.2, allL, if_neg (fun e => e hc)]⟩

theorem sofar_bad {l : List Ch} {i : Nat} {d : Dd} {r all : List Dd} (h : Sofar l i (d :: r) all) (hc : doC l d (i + 1) ≠ 0) : allL [] 0 all = ([], doC l d (i + 1), i) := by rw [h.2, allL, if_pos hc]

theorem sofar_end {l : List Ch} {i : Nat} {all : List Dd} (h : Sofar l i [] all) : allL [] 0 all = (l, 0, 0) := by rw [h.2, allL]

theorem sofar_start (all : List Dd) : Sofar [] 0 all all := ⟨⟨Nat.zero_le _, fits_nil⟩, rfl⟩

abbrev ftV (c at_ : Int) : Value := .agg #[.int .i64 c, .int .i64 at_]

theorem ret_all {v : Value} {c c' a a' : Int} (h : c = c') (h2 : a = a') : Ending.returned (.tuple #[v, ftV c a]) = .returned (.tuple #[v, ftV c' a']) := by rw [h, h2]

/-- A fault in memory. -/
structure TwoC (w : World) (B : Nat) (c a : Int) : Prop where
  c0 : w.cell? ⟨B, 0, none⟩ = some (.int .i64 c)
  c1 : w.cell? ⟨B, 1, none⟩ = some (.int .i64 a)
  f0 : w.frozen? ⟨B, 0, none⟩ = false
  f1 : w.frozen? ⟨B, 1, none⟩ = false

theorem TwoC.below {w w' : World} {B : Nat} {c a : Int} (h : TwoC w B c a) (hB : B < w.heap.size) (hb : Below w.heap.size w w') : TwoC w' B c a := by
  obtain ⟨hc, hf⟩ := bcell hb
  exact ⟨by rw [hc _ _ hB]; exact h.c0, by rw [hc _ _ hB]; exact h.c1, by rw [hf _ _ hB]; exact h.f0, by rw [hf _ _ hB]; exact h.f1⟩

theorem TwoC.put {w : World} {B : Nat} {c a : Int} (h : TwoC w B c a) (c' a' : Int) : TwoC ((w.setCell ⟨B, 0, none⟩ (.int .i64 c')).setCell ⟨B, 1, none⟩ (.int .i64 a')) B c' a' := by
  obtain ⟨c0, c1, f0, f1⟩ := h
  refine ⟨?_, ?_, ?_, ?_⟩
  · simp [go_sem, c0]
  · simp [go_sem, c1]
  · simpa [go_sem] using f0
  · simpa [go_sem] using f1

theorem results_tmp_cell {fn : Func} {p u : Tmp} {ty : TypeId} (h : fn.results = #[.tmp u, .cell p ty]) (tmps : Array Value) (P : Program) (w : World) :
    (results fn tmps).run P w = ((asAddr (tmps.getD p undef)).run P w).andThen fun a w₁ => ((loadVar ty a).run P w₁).andThen fun v w₂ => .ok (.tuple #[tmps.getD u undef, v]) w₂ := by
  simp only [results, h]
  simp [Sem.run_bind, Result.andThen]

theorem below_put2 {N B : Nat} {w w' : World} (h : Below N w w') (hB : N ≤ B) (c a : Int) : Below N w ((w'.setCell ⟨B, 0, none⟩ (.int .i64 c)).setCell ⟨B, 1, none⟩ (.int .i64 a)) :=
  (h.setCell (p := ⟨B, 0, none⟩) hB _).setCell (p := ⟨B, 1, none⟩) hB _

end Go.Proofs.Ytdlmlhmdjfbdiac

/-
  Plain mathematics: where the old bytes and the new ones stand behind a deed; and two texts at the same place, neither of whose writers knew of the other one. No walk.
-/
namespace Go.Proofs.Ytdlmlhmdjfbdiac

/-! Nothing is lost, and all keeps its order. -/

theorem doL_new {l : List Ch} {d : Dd} {number : Int} (hk : d.kind = 1) (hp : placeL l d ≤ l.length) : ((doL l d number).drop (placeL l d)).take d.text.size = newL d number := by
  rw [doL, if_pos hk, List.drop_append_of_le_length (by rw [List.length_take]; omega), List.drop_eq_nil_of_le (by rw [List.length_take]; omega), List.nil_append, List.take_append_of_le_length (by rw [newL_len]; exact Nat.le_refl _), List.take_of_length_le (by rw [newL_len]; exact Nat.le_refl _)]

theorem doL_low {l : List Ch} {d : Dd} {number : Int} (hk : d.kind = 1) (hp : placeL l d ≤ l.length) {i : Nat} (hi : i < placeL l d) : (doL l d number)[i]? = l[i]? := by
  rw [doL, if_pos hk, List.getElem?_append_left (by rw [List.length_take]; omega), List.getElem?_take_of_lt hi]

theorem doL_high {l : List Ch} {d : Dd} {number : Int} (hk : d.kind = 1) (hp : placeL l d ≤ l.length) {i : Nat} (hi : placeL l d ≤ i) : (doL l d number)[i + d.text.size]? = l[i]? := by
  have e1 : (l.take (placeL l d)).length = placeL l d := by rw [List.length_take]; omega
  rw [doL, if_pos hk, List.getElem?_append_right (by omega), e1, List.getElem?_append_right (by rw [newL_len]; omega), newL_len, List.getElem?_drop]
  congr 1
  omega

/-! Two texts at the same place. -/

abbrev bytesN (l : List UInt8) : List Int := l.map fun b => (b.toNat : Int)

/-- The j-th deed that puts in a text, twenty bytes at a time. -/
def chunkD (base : List UInt8) (j : Nat) : Dd := ⟨1, 0, (j : Int) + 1, j, 20 * j, 0, ⟨((base.drop (20 * j)).take 20).toArray⟩⟩

theorem nums_chunk (base : List UInt8) (j : Nat) : nums (chunkD base j).text = bytesN ((base.drop (20 * j)).take 20) := by
  simp [nums, chunkD, bytesN]

/-- How deeds end, done one behind the other from the j-th on: well, with that text, or with the code that Check has of the deed at which it ends. -/
def Ends (target : List Int) (j : Nat) (ds : List Dd) (r : List Ch × Int × Nat) : Prop :=
  (r.2.1 = 0 ∧ vw r.1 (openN - 1) (-1) = target ∧ Plain 200 r.1) ∨ (r.2.1 ≠ 0 ∧ r.1 = [] ∧ ∃ t : Nat, r.2.2 = j + t ∧ ∃ d, ds[t]? = some d ∧ checkC d = r.2.1)

theorem Ends.later {target : List Int} {j : Nat} {d : Dd} {ds : List Dd} {r : List Ch × Int × Nat} (h : Ends target (j + 1) ds r) : Ends target j (d :: ds) r := by
  rcases h with h | ⟨h1, h2, t, ht, e, he, hc⟩
  · exact .inl h
  · exact .inr ⟨h1, h2, t + 1, by omega, e, by simpa using he, hc⟩

theorem all_bad {target : List Int} {l : List Ch} {j : Nat} {d : Dd} {ds : List Dd} (h : checkC d ≠ 0) : Ends target j (d :: ds) (allL l j (d :: ds)) := by
  have e : doC l d (j + 1) = checkC d := by
    rw [doC, mayC, if_pos h, if_pos h]
  rw [allL, e, if_pos h]
  exact .inr ⟨h, rfl, 0, rfl, d, rfl, rfl⟩

theorem all_good {l : List Ch} {j : Nat} {d : Dd} {ds : List Dd} (hc : checkC d = 0) (hn : d.at_ + d.many ≤ cnt l d.seen d.by_) (hl : l.length + d.text.size ≤ 200) : allL l j (d :: ds) = allL (doL l d (j + 1)) (j + 1) ds := by
  have e : doC l d (j + 1) = 0 := by
    have hm : mayC l d = 0 := by
      rw [mayC, if_neg (fun h => h hc), if_neg (by omega), if_neg (by omega)]
    rw [doC, if_neg (fun h => h hm), if_neg (by omega)]
  rw [allL, e, if_neg (by simp)]

theorem plain_app {n : Int} {a b : List Ch} (ha : Plain n a) (hb : Plain n b) : Plain n (a ++ b) := by
  intro x hx
  rcases List.mem_append.1 hx with hx | hx
  · exact ha x hx
  · exact hb x hx

theorem plain_le {n m : Int} {a : List Ch} (h : Plain n a) (hm : n ≤ m) : Plain m a := fun x hx => by
  obtain ⟨h1, h2, h3⟩ := h x hx
  exact ⟨by omega, h2, h3⟩

/-- The last two: both behind k bytes of a text that both have seen. -/
theorem meets_two {l : List Ch} {n k : Nat} {da db : Dd} (hpl : Plain n l) (hk : k ≤ l.length) (hn : n ≤ 100) (hl : l.length + da.text.size + db.text.size ≤ 100)
    (a1 : da.kind = 1) (a2 : da.by_ = 1) (a3 : da.seen = n) (a4 : da.at_ = k) (a5 : da.many = 0) (b1 : db.kind = 1) (b2 : db.by_ = 2) (b3 : db.seen = n) (b4 : db.at_ = k) (b5 : db.many = 0) :
    Ends ((l.map (·.c)).take k ++ (nums db.text ++ (nums da.text ++ (l.map (·.c)).drop k))) n [da, db] (allL l n [da, db]) := by
  by_cases ca : checkC da = 0
  · have hseeA : ∀ x ∈ l, seesC da.seen da.by_ x = true := by rw [a3]; exact plain_sees hpl (Int.le_refl _)
    rw [all_good ca (by rw [a4, a5, cnt_all hseeA]; omega) (by omega)]
    have hsplit : l = l.take k ++ l.drop k := (List.take_append_drop k l).symm
    have hkl : (l.take k).length = k := by rw [List.length_take]; omega
    have hopen : ∀ m : Int, m ≤ 1000 → ∀ y : List Ch, Plain m y → ∀ x ∈ y, x.inn ≠ openN := by
      intro m hm y hy x hx e
      have := (hy x hx).1
      unfold openN at e
      omega
    have e1 : doL l da ((n : Int) + 1) = l.take k ++ (newL da (n + 1) ++ l.drop k) := by
      have := put_plain (p := l.take k) (r := l.drop k) (d := da) (number := (n : Int) + 1) a1 (by rw [a4, hkl]) (fun x hx => hseeA x (List.mem_of_mem_take hx)) (hopen n (by omega) _ (fun x hx => hpl x (List.mem_of_mem_drop hx)))
      rwa [← hsplit] at this
    have hpt : Plain n (l.take k) := fun x hx => hpl x (List.mem_of_mem_take hx)
    have hpd : Plain n (l.drop k) := fun x hx => hpl x (List.mem_of_mem_drop hx)
    by_cases cb : checkC db = 0
    · refine Ends.later ?_
      have hcb : cnt (doL l da ((n : Int) + 1)) db.seen db.by_ = l.length := by
        rw [← vw_len, doL_far (number := (n : Int) + 1) (by rw [a2]; decide) (by rw [a2, b2]; decide) (by rw [b3]; omega), vw_len, b3, cnt_all (plain_sees hpl (Int.le_refl _))]
      rw [all_good cb (by rw [b4, b5, hcb]; omega) (by rw [doL_len (fun h => absurd a1 h)]; omega)]
      have e2 : doL (doL l da ((n : Int) + 1)) db (((n + 1 : Nat) : Int) + 1) = l.take k ++ (newL db (((n + 1 : Nat) : Int) + 1) ++ (newL da (n + 1) ++ l.drop k)) := by
        rw [e1]
        refine put_plain b1 (by rw [b4, hkl]) (fun x hx => ?_) (hopen (n + 1) (by omega) _ (plain_app (newL_plain da _) (plain_le hpd (by omega))))
        rw [b3]
        exact plain_sees hpt (Int.le_refl _) x hx
      rw [e2]
      left
      have hall : Plain (n + 2) (l.take k ++ (newL db (((n + 1 : Nat) : Int) + 1) ++ (newL da (n + 1) ++ l.drop k))) :=
        plain_app (plain_le hpt (by omega)) (plain_app (plain_le (newL_plain db _) (by omega)) (plain_app (plain_le (newL_plain da _) (by omega)) (plain_le hpd (by omega))))
      refine ⟨rfl, ?_, plain_le hall (by omega)⟩
      show vw (l.take k ++ (newL db (((n + 1 : Nat) : Int) + 1) ++ (newL da (n + 1) ++ l.drop k))) (openN - 1) (-1) = _
      rw [vw_all (plain_sees hall (by unfold openN; omega)), List.map_append, List.map_append, List.map_append, newL_cs, newL_cs, List.map_take, List.map_drop]
    · exact Ends.later (all_bad cb)
  · exact all_bad ca

/-- ALL of it: the text by chunks, and the two. -/
theorem meets_all {base : List UInt8} {k : Nat} {da db : Dd} {n : Nat} (hb : base.length ≤ 20 * n) (hk : k ≤ base.length) (hl : base.length + da.text.size + db.text.size ≤ 100) (hn : n ≤ 100) (hlast : 20 * n < base.length + 20)
    (a1 : da.kind = 1) (a2 : da.by_ = 1) (a3 : da.seen = n) (a4 : da.at_ = k) (a5 : da.many = 0) (b1 : db.kind = 1) (b2 : db.by_ = 2) (b3 : db.seen = n) (b4 : db.at_ = k) (b5 : db.many = 0) :
    ∀ (m j : Nat) (l : List Ch), j + m = n → Plain j l → l.map (·.c) = bytesN (base.take (20 * j)) →
      Ends (bytesN (base.take k) ++ (nums db.text ++ (nums da.text ++ bytesN (base.drop k)))) j ((List.range' j m).map (chunkD base) ++ [da, db]) (allL l j ((List.range' j m).map (chunkD base) ++ [da, db]))
  | 0, j, l, hj, hp, hc => by
    obtain rfl : j = n := by omega
    have hcl : l.length = base.length := by
      have := congrArg List.length hc
      simp at this
      omega
    have hcs : l.map (·.c) = bytesN base := by rw [hc, List.take_of_length_le hb]
    have := meets_two (l := l) (n := j) (k := k) hp (by omega) hn (by omega) a1 a2 a3 a4 a5 b1 b2 b3 b4 b5
    rw [hcs] at this
    simpa [bytesN, List.map_take, List.map_drop] using this
  | m + 1, j, l, hj, hp, hc => by
    rw [List.range'_succ, List.map_cons, List.cons_append]
    have hlt : 20 * j < base.length := by omega
    have hcl : l.length = 20 * j := by
      have := congrArg List.length hc
      simp at this
      omega
    have hts : (chunkD base j).text.size ≤ base.length - 20 * j := by
      show (((base.drop (20 * j)).take 20).toArray).size ≤ _
      rw [List.size_toArray, List.length_take, List.length_drop]
      omega
    by_cases hck : checkC (chunkD base j) = 0
    · have hsee : ∀ x ∈ l, seesC (chunkD base j).seen (chunkD base j).by_ x = true := plain_sees hp (Int.le_refl _)
      rw [all_good hck (by rw [cnt_all hsee]; show 20 * (j : Int) + 0 ≤ _; omega) (by omega)]
      refine Ends.later ?_
      refine meets_all hb hk hl hn hlast a1 a2 a3 a4 a5 b1 b2 b3 b4 b5 m (j + 1) _ (by omega) ?_ ?_
      · have e := put_plain (p := l) (r := []) (d := chunkD base j) (number := (j : Int) + 1) rfl (by show 20 * (j : Int) = _; omega) hsee (fun x hx => by simp at hx)
        rw [List.append_nil, List.append_nil] at e
        rw [e]
        exact plain_app (plain_le hp (by omega)) (plain_le (newL_plain _ _) (by omega))
      · have e := put_plain (p := l) (r := []) (d := chunkD base j) (number := (j : Int) + 1) rfl (by show 20 * (j : Int) = _; omega) hsee (fun x hx => by simp at hx)
        rw [List.append_nil, List.append_nil] at e
        rw [e, List.map_append, hc, newL_cs, nums_chunk, show 20 * (j + 1) = 20 * j + 20 by omega, List.take_add]
        simp [bytesN]
    · exact all_bad hck

end Go.Proofs.Ytdlmlhmdjfbdiac
