/-
  The walk of the law ClearViews.
-/
import Derived.Test.YtebhbhcjfnohmabCApart
import Derived.Test.YtebhbhcjfnohmabVSay
import Derived.Test.YtebhbhcjfnohmabFLate
namespace Go.Proofs.Ytebhbhcjfnohmab
open Go.RowKit

/-- Both lists, in the law's worlds. -/
structure CeInv (w : World) (v x : Value) (l xl : List Ch) (wk : World) : Prop where
  below : Below w.heap.size w wk
  lst : Lst wk v l
  lx : Lst wk x xl

theorem CeInv.after {w wk w' : World} {v x : Value} {l xl : List Ch} (h : CeInv w v x l xl wk) (hb : Below wk.heap.size wk w') : CeInv w v x l xl w' :=
  ⟨below_after h.below hb, h.lst.below hb, h.lx.below hb⟩

set_option maxRecDepth 20000 in
set_option maxHeartbeats 1600000 in
theorem law_clearViews {w : World} {v : Value} {l : List Ch} (h : Lst w v l) (least seen by_ : Int) :
    Calls Try.prog 10 #[v, .int .i64 least, .int .i64 seen, .int .i64 by_] w fun e w' => e = .returned (.bool true) ∧ Below w.heap.size w w' := by
  have HL : Hid (Lst w v l) := h
  obtain ⟨ad, cap, rfl, _⟩ := h.len
  clear h
  by_cases h3 : 300 < l.length
  · have h3I : (300 : Int) < (l.length : Int) := by omega
    go_enter Try.func10, Try.ntmps10
    go_wp2_with fail
    refine (clearBegun_any _).mono ?_
    rintro e w1 ⟨rfl, hb⟩
    have HB : Hid _ := hb
    clear hb
    go_wp2
    go_ret
    exact ⟨rfl, HB.out⟩
  have h3I : ¬ (300 : Int) < (l.length : Int) := by omega
  by_cases hlm : seen < least
  · go_enter Try.func10, Try.ntmps10
    go_wp2_with fail
    refine (clearBegun_any _).mono ?_
    rintro e w1 ⟨rfl, hb⟩
    have HB : Hid _ := hb
    clear hb
    go_wp2
    go_ret
    exact ⟨rfl, HB.out⟩
  have HLS : Hid (least ≤ seen) := (show least ≤ seen by omega)
  go_enter Try.func10, Try.ntmps10
  go_wp2_with fail
  refine (clearBegun_any _).mono ?_
  rintro e w1 ⟨rfl, hb⟩
  have HB1 : Hid (Below w.heap.size w w1) := hb
  clear hb
  go_wp2_with fail
  refine (of_lst least (HL.out.below HB1.out) (by omega)).mono ?_
  rintro e w2 ⟨v2, rfl, ho, hb⟩
  obtain ⟨ax, cx, rfl, _⟩ := ho.lst.len
  have HE : Hid (CeInv w (.slice ad l.length cap) (.slice ax (ofL least l).length cx) l (ofL least l) w2) := ⟨below_after HB1.out hb, (HL.out.below HB1.out).below hb, ho.lst⟩
  have hxl := ofL_le least l
  have HS1 : Hid (∀ wk, Lst wk (.slice ax (ofL least l).length cx) (ofL least l) → Calls Try.prog 40 #[.slice ax (ofL least l).length cx, .int .i64 seen, .int .i64 by_] wk fun e w' => ∃ u, e = .returned u ∧ Tells u (strOfNums (vw l seen by_)) w' ∧ Below wk.heap.size wk w') := fun wk hh => by rw [← vw_of by_ HLS.out]; exact view_tells hh (by omega) seen by_
  have HS2 : Hid (∀ wk, Lst wk (.slice ad l.length cap) l → Calls Try.prog 40 #[.slice ad l.length cap, .int .i64 seen, .int .i64 by_] wk fun e w' => ∃ u, e = .returned u ∧ Tells u (strOfNums (vw l seen by_)) w' ∧ Below wk.heap.size wk w') := fun wk hh => view_tells hh (by omega) seen by_
  have HO : Hid (∀ wk, Lst wk (.slice ax (ofL least l).length cx) (ofL least l) → Calls Try.prog 39 #[.slice ax (ofL least l).length cx, .int .i64 least] wk fun e w' => ∃ u, e = .returned u ∧ Lst w' u (ofL least l) ∧ Below wk.heap.size wk w') := fun wk hh => (of_lst least hh (by omega)).mono (by rintro e w' ⟨u, rfl, ho, hb⟩; exact ⟨u, rfl, by have := ho.lst; rwa [of_again] at this, hb⟩)
  clear ho hb HB1 HL
  go_wp2
  generalize strOfNums (vw l seen by_) = T at HS1 HS2
  refine wp_region_late (fun wk => CeInv w (.slice ad l.length cap) (.slice ax (ofL least l).length cx) l (ofL least l) wk) (fun i => i == 3 || i == 8 || i == 11 || i == 14 || i == 16) (fun i => i == 4 || i == 9) (by kernel_rfl) (by kernel_rfl) (by kernel_rfl) (HE.out.after (Below.refl _ _).drew) ?_
  refine wpLate_still rfl (fun K hK => ?_)
  go_simp
  refine ⟨_, fun _ _ => rfl, hK _ ?_⟩
  clear hK K
  refine wpLate_still rfl (fun K hK => ?_)
  go_simp
  refine ⟨_, fun _ _ => rfl, hK _ ?_⟩
  clear hK K
  refine wpLate_still rfl (fun K hK => ?_)
  go_simp
  refine ⟨_, fun _ _ => rfl, hK _ ?_⟩
  clear hK K
  refine wpLate_spine rfl (by rfl) (fun u => True) (fun u wk => CeInv w (.slice ad l.length cap) (.slice ax (ofL least l).length cx) l (ofL least l) wk ∧ Tells u T wk) (fun u wk => CeInv w (.slice ad l.length cap) (.slice ax (ofL least l).length cx) l (ofL least l) wk ∧ Tells u T wk) ⟨.int .i64 0, trivial⟩ (fun _ _ h => h.1) (fun _ _ h => h) (fun wk hwk => ?_) (fun u6 _ => ?_)
  · go_simp
    refine (HS1.out wk hwk.lx).mono ?_
    rintro e w6 ⟨u, rfl, hs, hb⟩
    exact ⟨u, rfl, hwk.after hb, hs⟩
  refine wpLate_late rfl rfl (fun K hK => ?_)
  go_simp
  refine ⟨.string T, fun wk hwk => ?_, hK _ ?_⟩
  · intro hs0
    have hs := hs0 _ (Below.refl _ _)
    go_simp
  clear hK K
  refine wpLate_still rfl (fun K hK => ?_)
  go_simp
  refine ⟨_, fun _ _ => rfl, hK _ ?_⟩
  clear hK K
  refine wpLate_still rfl (fun K hK => ?_)
  go_simp
  refine ⟨_, fun _ _ => rfl, hK _ ?_⟩
  clear hK K
  refine wpLate_still rfl (fun K hK => ?_)
  go_simp
  refine ⟨_, fun _ _ => rfl, hK _ ?_⟩
  clear hK K
  refine wpLate_spine rfl (by rfl) (fun u => True) (fun u wk => (CeInv w (.slice ad l.length cap) (.slice ax (ofL least l).length cx) l (ofL least l) wk ∧ Tells u6 T wk) ∧ Tells u T wk) (fun u wk => (CeInv w (.slice ad l.length cap) (.slice ax (ofL least l).length cx) l (ofL least l) wk ∧ Tells u6 T wk) ∧ Tells u T wk) ⟨.int .i64 0, trivial⟩ (fun _ _ h => h.1) (fun _ _ h => h) (fun wk hwk => ?_) (fun u7 _ => ?_)
  · go_simp
    refine (HS2.out wk hwk.1.lst).mono ?_
    rintro e w7 ⟨u, rfl, hs, hb⟩
    exact ⟨u, rfl, ⟨hwk.1.after hb, hwk.2.below hb⟩, hs⟩
  refine wpLate_late rfl rfl (fun K hK => ?_)
  go_simp
  refine ⟨.string T, fun wk hwk => ?_, hK _ ?_⟩
  · intro _ hs0
    have hs := hs0 _ (Below.refl _ _)
    go_simp
  clear hK K
  refine wpLate_still rfl (fun K hK => ?_)
  go_simp
  refine ⟨.bool false, fun wk hwk => ?_, hK _ ?_⟩
  · go_simp
  clear hK K
  refine wpLate_spine rfl (by rfl) (fun u => u = .bool false) (fun u wk => (CeInv w (.slice ad l.length cap) (.slice ax (ofL least l).length cx) l (ofL least l) wk ∧ Tells u6 T wk) ∧ Tells u7 T wk) (fun u wk => (CeInv w (.slice ad l.length cap) (.slice ax (ofL least l).length cx) l (ofL least l) wk ∧ Tells u6 T wk) ∧ Tells u7 T wk) ⟨_, rfl⟩ (fun _ _ h => h) (fun _ _ h => h) (fun wk hwk => ?_) (fun u10 hu10 => ?_)
  · go_simp
    exact ⟨rfl, ⟨hwk.1.1, hwk.1.2⟩, hwk.2⟩
  subst hu10
  refine wpLate_still rfl (fun K hK => ?_)
  go_simp
  refine ⟨_, fun _ _ => rfl, hK _ ?_⟩
  clear hK K
  refine wpLate_still rfl (fun K hK => ?_)
  go_simp
  refine ⟨_, fun _ _ => rfl, hK _ ?_⟩
  clear hK K
  refine wpLate_spine rfl (by rfl) (fun u => True) (fun u wk => ((CeInv w (.slice ad l.length cap) (.slice ax (ofL least l).length cx) l (ofL least l) wk ∧ Tells u6 T wk) ∧ Tells u7 T wk) ∧ Lst wk u (ofL least l)) (fun u wk => ((CeInv w (.slice ad l.length cap) (.slice ax (ofL least l).length cx) l (ofL least l) wk ∧ Tells u6 T wk) ∧ Tells u7 T wk) ∧ Lst wk u (ofL least l)) ⟨.int .i64 0, trivial⟩ (fun _ _ h => h.1) (fun _ _ h => h) (fun wk hwk => ?_) (fun u8 _ => ?_)
  · go_simp
    refine (HO.out wk hwk.1.1.lx).mono ?_
    rintro e w7 ⟨u, rfl, hs, hb⟩
    exact ⟨u, rfl, ⟨⟨hwk.1.1.after hb, hwk.1.2.below hb⟩, hwk.2.below hb⟩, hs⟩
  refine wpLate_still rfl (fun K hK => ?_)
  go_simp
  refine ⟨_, fun _ _ => rfl, hK _ ?_⟩
  clear hK K
  refine wpLate_spine rfl (by rfl) (fun u => u = .bool true) (fun u wk => ((CeInv w (.slice ad l.length cap) (.slice ax (ofL least l).length cx) l (ofL least l) wk ∧ Tells u6 T wk) ∧ Tells u7 T wk) ∧ Lst wk u8 (ofL least l)) (fun u wk => ((CeInv w (.slice ad l.length cap) (.slice ax (ofL least l).length cx) l (ofL least l) wk ∧ Tells u6 T wk) ∧ Tells u7 T wk) ∧ Lst wk u8 (ofL least l)) ⟨_, rfl⟩ (fun _ _ h => h) (fun _ _ h => h) (fun wk hwk => ?_) (fun u9 hu9 => ?_)
  · go_simp
    refine (sameChars_lst hwk.2 hwk.1.1.1.lx (by omega) (by omega)).mono ?_
    rintro e w8 ⟨r, rfl, hr, hb⟩
    exact ⟨_, rfl, by rw [hr.2 rfl], ⟨⟨hwk.1.1.1.after hb, hwk.1.1.2.below hb⟩, hwk.1.2.below hb⟩, hwk.2.below hb⟩
  subst hu9
  refine wpLate_still rfl (fun K hK => ?_)
  go_simp
  refine ⟨_, fun _ _ => rfl, hK _ ?_⟩
  clear hK K
  refine wpLate_still rfl (fun K hK => ?_)
  go_simp
  refine ⟨_, fun _ _ => rfl, hK _ ?_⟩
  clear hK K
  refine wpLate_nil (fun w9 hw9 => ?_)
  have H9 : Hid ((((CeInv w (.slice ad l.length cap) (.slice ax (ofL least l).length cx) l (ofL least l) w9) ∧ Tells u6 T w9) ∧ Tells u7 T w9) ∧ Lst w9 u8 (ofL least l)) := hw9
  clear hw9
  have HE9 : Hid (CeInv w (.slice ad l.length cap) (.slice ax (ofL least l).length cx) l (ofL least l) w9) := H9.out.1.1.1
  clear H9 HE HS1 HS2 HO
  go_wp2
  go_loopw [10] (fun s wr => ∃ i : Nat, i ≤ l.length ∧ s = .int .i64 i ∧ Hid (CeInv w (.slice ad l.length cap) (.slice ax (ofL least l).length cx) l (ofL least l) wr)) (fun s _ => l.length - (intOf s).toNat)
  case atStart => exact ⟨0, Nat.zero_le _, rfl, HE9⟩
  case round =>
    obtain ⟨i, hi, rfl, HI⟩ := hrel
    clear HE9
    by_cases hlt : i < l.length
    · have hiI : (i : Int) < (l.length : Int) := by omega
      obtain ⟨b1, o1, rfl, _, r1⟩ := HI.out.lst.row (by omega)
      obtain ⟨g0, g1, g2, g3, g4, g5, g6⟩ := r1.at_ i hlt
      have HAT : Hid (∀ wk, Lst wk (.slice (some ⟨b1, o1, none⟩) l.length cap) l → At wk b1 (o1 + i * 7) l[i]) := fun wk hh => by
        obtain ⟨b2, o2, e2, _, r2⟩ := hh.row (by omega)
        cases e2
        exact r2.at_ i hlt
      generalize l[i] = x at *
      clear r1
      go_wp2_with fail
      refine (done_any x least _).mono ?_
      rintro e w3 ⟨rfl, hb⟩
      have HI3 : Hid (CeInv _ _ _ _ _ _) := HI.out.after hb
      clear hb HI g0 g1 g2 g3 g4 g5 g6
      cases hd : doneB least x
      · go_wp2
        go_roundw
        case rel => exact ⟨i + 1, by omega, by go_num, HI3⟩
        case measure => simp [intOf]; omega
      · obtain ⟨g0, g1, g2, g3, g4, g5, g6⟩ := HAT.out w3 HI3.out.lst
        have HU : Hid _ := done_unseen (by_ := by_) HLS.out hd
        go_wp2_with fail
        refine (sees_any x seen by_ _).mono ?_
        rintro e w4 ⟨rfl, hb⟩
        have HI4 : Hid (CeInv _ _ _ _ _ _) := HI3.out.after hb
        have hu : seesB x.by_ x.inn x.out x.gone seen by_ = false := HU.out
        clear hb HI3 g0 g1 g2 g3 g4 g5 g6 HAT
        rw [hu]
        go_wp2
        go_roundw
        case rel => exact ⟨i + 1, by omega, by go_num, HI4⟩
        case measure => simp [intOf]; omega
    · obtain rfl : i = l.length := by omega
      have hle : decide (((ofL least l).length : Int) ≤ (l.length : Int)) = true := decide_eq_true (by omega)
      go_wp2
      go_ret
      exact ⟨rfl, HI.out.below⟩

end Go.Proofs.Ytebhbhcjfnohmab
