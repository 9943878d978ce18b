/-
  The contract of fold.put.
-/
import Derived.Test.YtebhbhcjfnohmabFPut
namespace Go.Proofs.Ytebhbhcjfnohmab
open Go.RowKit

theorem skip_step {by_ : Int} {l : List Ch} {k : Nat} (h : k < l.length) (hi : l[k].inn = openN) (hb : l[k].by_ ≠ by_) : skipL by_ (l.drop k) = skipL by_ (l.drop (k + 1)) + 1 := by
  rw [List.drop_eq_getElem_cons h, skipL, if_pos ⟨hi, hb⟩]

theorem skip_stop {by_ : Int} {l : List Ch} {k : Nat} (h : ∀ hk : k < l.length, ¬ (l[k].inn = openN ∧ l[k].by_ ≠ by_)) : skipL by_ (l.drop k) = 0 := by
  by_cases hk : k < l.length
  · rw [List.drop_eq_getElem_cons hk, skipL, if_neg (h hk)]
  · rw [List.drop_eq_nil_of_le (by omega)]
    rfl

theorem three_start {wk : World} {va vn vb : Value} {a n b : List Ch} (ha : Lst wk va a) (hn : Lst wk vn n) (hb : Lst wk vb b) : Three (wk.alloc (.cells #[va, vn, vb] 29)) wk.heap.size va vn vb a n b := by
  have hbl : Below wk.heap.size wk (wk.alloc (.cells #[va, vn, vb] 29)) := (Below.refl _ _).alloc (Nat.le_refl _) _
  refine ⟨by simp, ?_, ?_, ?_, ha.below hbl, hn.below hbl, hb.below hbl⟩ <;> simp [go_sem]

set_option maxRecDepth 20000 in
set_option maxHeartbeats 800000 in
theorem put_any (l : List Ch) (d : Dd) (number : Int) (v : Value) (w : World) (h : Lst w v l) (hl : l.length ≤ 1000) (hc : checkC d = 0) (hk : d.kind = 1) (hn : d.at_ ≤ cnt l d.seen d.by_) :
    Calls Try.prog 76 #[v, ddV d, .int .i64 number] w fun e w' => ∃ v', e = .returned v' ∧ Own w' w.heap.size v' (doL l d number) ∧ Below w.heap.size w w' := by
  have HI : Hid _ := minv_start (d := d) h
  obtain ⟨ad, cap, rfl, hcap⟩ := h.len
  obtain ⟨_, _, _, _, _, _, p1, p2, _, _, p5, _⟩ := check_parts hc
  have HD : Hid (∀ p, behindL d.seen d.by_ d.at_.toNat l = some p → doL l d number = l.take (p + skipL d.by_ (l.drop p)) ++ (newL d number ++ l.drop (p + skipL d.by_ (l.drop p)))) := by
    intro p hp
    have : placeL l d = p + skipL d.by_ (l.drop p) := by rw [placeL, hp]
    rw [doL, if_pos hk, this]
  have ht := (p5 hk).2.1
  obtain ⟨kind, by_, no, seen, at_, many, text⟩ := d
  simp only at hn p1 p2 ht HD
  obtain rfl : kind = 1 := hk
  clear h hc p5
  go_enter Try.func76, Try.ntmps76
  go_wp2_with fail
  refine (behind_lst HI.out.lst hl seen by_ at_ p1 hn).mono ?_
  rintro e w1 ⟨p, rfl, hp, hpl, hb⟩
  have HP : Hid _ := HD.out p hp
  have HI1 : Hid _ := HI.out.after hb
  clear hb HI HD hp
  go_wp2
  go_loopw [7] (fun i wr => ∃ k : Nat, k ≤ l.length ∧ i = .int .i64 k ∧ Hid (k + skipL by_ (l.drop k) = p + skipL by_ (l.drop p)) ∧ Hid (MInv w w.heap.size ⟨1, by_, no, seen, at_, many, text⟩ (.slice ad l.length cap) l wr)) (fun i _ => l.length - (intOf i).toNat)
  case atStart => exact ⟨p, hpl, rfl, rfl, HI1⟩
  case round =>
    obtain ⟨k, hk, rfl, HS, HK⟩ := hrel
    clear HI1
    by_cases hlt : k < l.length
    · have hxx : ∃ x, x = l[k] := ⟨_, rfl⟩
      obtain ⟨x, hx⟩ := hxx
      have HX : Hid _ := hx
      obtain ⟨b, off, rfl, hr⟩ : ∃ b off, ad = some ⟨b, off, none⟩ ∧ Row wr b off l := by
        obtain ⟨a', len', cap', he, h1, h2, h3⟩ := HK.out.lst
        simp only [Value.slice.injEq] at he
        obtain ⟨rfl, rfl, rfl⟩ := he
        rcases h3 with h3 | ⟨b, off, h3, hr⟩
        · omega
        · exact ⟨b, off, h3, hr⟩
      have hat := hr.at_ k hlt
      rw [← hx] at hat
      obtain ⟨g0, g1, g2, g3, g4, g5, g6⟩ := hat
      obtain ⟨_, c0, c1, c2, c3, c4, c5, c6⟩ := HK.out.at_
      simp only [Nat.zero_add] at c0 c1 c2 c3 c4 c5 c6
      clear hr hx
      by_cases hi : x.inn = openN
      · have hi' : (x.inn == 1073741824) = true := by simp [hi]
        by_cases hby : x.by_ = by_
        · have hby' : (x.by_ != by_) = false := by simp [hby]
          have HE : Hid (skipL by_ (l.drop k) = 0) := skip_stop (fun _ e => e.2 (by rw [← HX.out]; exact hby))
          clear hi hby
          go_wp2
          go_quiet (fail)
          go_wp2
          clear g0 g1 g2 g3 g4 g5 g6 c0 c1 c2 c3 c4 c5 c6
          generalize hw3 : wr.drewN nq = w3 at *
          have HK3 : Hid (MInv w w.heap.size ⟨1, by_, no, seen, at_, many, text⟩ (.slice (some ⟨b, off, none⟩) l.length cap) l w3) := by
            show MInv _ _ _ _ _ _
            rw [← hw3]
            exact HK.out.after (below_drewN (Below.refl _ _) _)
          have HF : Hid (doL l ⟨1, by_, no, seen, at_, many, text⟩ number = l.take k ++ (newL ⟨1, by_, no, seen, at_, many, text⟩ number ++ l.drop k)) := by
            show doL _ _ _ = _
            rw [HP.out, ← HS.out, HE.out, Nat.add_zero]
          obtain ⟨aa, na, ca, hva, hvl⟩ : ∃ aa na ca, (∀ w, (Instr.sliceAt 29 (.slice (some ⟨b, off, none⟩) l.length cap) none (some (.int .i64 k)) none).run Try.prog w = .ok (.slice aa na ca) w) ∧ ∀ wk, Lst wk (.slice (some ⟨b, off, none⟩) l.length cap) l → Lst wk (.slice aa na ca) (l.take k) := ⟨_, _, _, run_take_val _ l.length cap k (by omega), fun wk h => lst_take h hk⟩
          obtain ⟨ab, nb, cb, hvb, hvd⟩ : ∃ ab nb cb, (∀ w, (Instr.sliceAt 29 (.slice (some ⟨b, off, none⟩) l.length cap) (some (.int .i64 k)) none none).run Try.prog w = .ok (.slice ab nb cb) w) ∧ ∀ wk, Lst wk (.slice (some ⟨b, off, none⟩) l.length cap) l → Lst wk (.slice ab nb cb) (l.drop k) := ⟨_, _, _, run_drop_val _ l.length cap k hk, fun wk h => lst_drop h hk⟩
          have HVL : Hid _ := hvl
          have HVD : Hid _ := hvd
          have HVA : Hid _ := hva
          have HVB : Hid _ := hvb
          clear hvl hvd hva hvb HK HS HP HE hw3
          refine wp_region_stage (fun wk => MInv w w.heap.size ⟨1, by_, no, seen, at_, many, text⟩ (.slice (some ⟨b, off, none⟩) l.length cap) l wk) (fun i => i == 5 || i == 9 || i == 10) (fun wk => MInv w w.heap.size ⟨1, by_, no, seen, at_, many, text⟩ (.slice (some ⟨b, off, none⟩) l.length cap) l wk) (by kernel_rfl) (by kernel_rfl) (by kernel_rfl) (fun _ h => h) HK3.out.drew ?_
          refine wpStage_still rfl (fun K hK => ?_)
          go_simp
          refine ⟨_, fun _ _ => rfl, hK _ ?_⟩
          clear hK K
          refine wpStage_still rfl (fun K hK => ?_)
          go_simp
          refine ⟨_, fun _ _ => rfl, hK _ ?_⟩
          clear hK K
          refine wpStage_still rfl (fun K hK => ?_)
          rw [if_pos (by rfl)]
          refine ⟨.slice aa na ca, fun wk _ => exec_slice rfl (HVA.out wk), hK _ ?_⟩
          clear hK K
          refine wpStage_still rfl (fun K hK => ?_)
          go_simp
          refine ⟨ddV ⟨1, by_, no, seen, at_, many, text⟩, fun wk hwk => ?_, hK _ ?_⟩
          · obtain ⟨_, c0, c1, c2, c3, c4, c5, c6⟩ := hwk.at_
            simp only [Nat.zero_add] at c0 c1 c2 c3 c4 c5 c6
            go_simp
          clear hK K
          refine wpStage_still rfl (fun K hK => ?_)
          go_simp
          refine ⟨_, fun _ _ => rfl, hK _ ?_⟩
          clear hK K
          refine wpStage_spine rfl rfl (fun u => ∃ a n c, u = .slice a n c) (fun u wk => MInv w w.heap.size ⟨1, by_, no, seen, at_, many, text⟩ (.slice (some ⟨b, off, none⟩) l.length cap) l wk ∧ Lst wk u (newL ⟨1, by_, no, seen, at_, many, text⟩ number)) ⟨_, none, 0, 0, rfl⟩ (fun _ _ h => h.1) (fun wk hwk => ?_) (fun vn hvn => ?_)
          · go_simp
            refine (new_any ⟨1, by_, no, seen, at_, many, text⟩ number wk (by simp only; omega)).mono ?_
            rintro e w4 ⟨u, rfl, ho, hb⟩
            obtain ⟨a4, c4, rfl, _⟩ := ho.lst.len
            exact ⟨_, rfl, ⟨_, _, _, rfl⟩, hwk.after hb, ho.lst⟩
          obtain ⟨an, nn, cn, rfl⟩ := hvn
          refine wpStage_still rfl (fun K hK => ?_)
          go_simp
          refine ⟨_, fun _ _ => rfl, hK _ ?_⟩
          clear hK K
          refine wpStage_still rfl (fun K hK => ?_)
          go_simp
          refine ⟨_, fun _ _ => rfl, hK _ ?_⟩
          clear hK K
          refine wpStage_still rfl (fun K hK => ?_)
          rw [if_pos (by rfl)]
          refine ⟨.slice ab nb cb, fun wk _ => exec_slice rfl (HVB.out wk), hK _ ?_⟩
          clear hK K
          refine wpStage_spine rfl rfl (fun u => ∃ g, u = .slice (some ⟨g, 0, none⟩) 3 3) (fun u wk => ∃ g, u = .slice (some ⟨g, 0, none⟩) 3 3 ∧ MInv w w.heap.size ⟨1, by_, no, seen, at_, many, text⟩ (.slice (some ⟨b, off, none⟩) l.length cap) l wk ∧ Three wk g (.slice aa na ca) (.slice an nn cn) (.slice ab nb cb) (l.take k) (newL ⟨1, by_, no, seen, at_, many, text⟩ number) (l.drop k)) ⟨_, 0, rfl⟩ (fun _ _ h => by obtain ⟨_, _, h, _⟩ := h; exact h) (fun wk hwk => ?_) (fun vs hvs => ?_)
          · go_simp
            exact ⟨⟨_, rfl⟩, _, rfl, hwk.1.after ((Below.refl _ _).alloc (Nat.le_refl _) _), three_start (HVL.out _ hwk.1.lst) hwk.2 (HVD.out _ hwk.1.lst)⟩
          obtain ⟨g, rfl⟩ := hvs
          refine wpStage_spine rfl rfl (fun _ => True) (fun u wk => MInv w w.heap.size ⟨1, by_, no, seen, at_, many, text⟩ (.slice (some ⟨b, off, none⟩) l.length cap) l wk ∧ Own wk w.heap.size u (l.take k ++ (newL ⟨1, by_, no, seen, at_, many, text⟩ number ++ l.drop k))) ⟨.int .i64 0, trivial⟩ (fun _ _ h => h.1) (fun wk hwk => ?_) (fun vr _ => ?_)
          · obtain ⟨g', hg, hm, h3⟩ := hwk
            simp only [Value.slice.injEq, Option.some.injEq, Addr.mk.injEq, and_true] at hg
            subst hg
            go_simp
            refine (concat_three g _ _ _ _ _ _ wk h3 ?_).mono ?_
            · rw [List.length_take, List.length_drop, newL_len]; simp only; omega
            rintro e w5 ⟨u, rfl, ho, hb⟩
            exact ⟨u, rfl, hm.after hb, by have := ho.mono (base' := w.heap.size) hm.below.size; rwa [List.append_assoc] at this⟩
          refine wpStage_still rfl (fun K hK => ?_)
          go_simp
          refine ⟨_, fun _ _ => rfl, hK _ ?_⟩
          clear hK K
          refine wpStage_nil (fun w6 hw6 => ?_)
          have H6 : Hid _ := hw6
          clear hw6
          go_wp2
          go_ret
          exact ⟨_, rfl, by rw [HF.out]; exact H6.out.2, H6.out.1.below⟩
        · have hby' : (x.by_ != by_) = true := by simp [hby]
          have HE : Hid _ := skip_step hlt (by rw [← HX.out]; exact hi) (by rw [← HX.out]; exact hby)
          clear hi hby
          go_wp2
          go_quiet (fail)
          go_wp2
          go_roundw
          case rel => exact ⟨k + 1, by omega, by go_num, by show _ = _; rw [← HS.out, HE.out]; omega, HK.out.after (below_drewN (Below.refl _ _) _)⟩
          case measure => simp [intOf]; omega
      · have hi' : (x.inn == 1073741824) = false := by simp; exact hi
        have HE : Hid (skipL by_ (l.drop k) = 0) := skip_stop (fun _ e => hi (by rw [HX.out]; exact e.1))
        clear hi
        go_wp2
        go_quiet (fail)
        go_wp2
        clear g0 g1 g2 g3 g4 g5 g6 c0 c1 c2 c3 c4 c5 c6
        generalize hw3 : wr.drewN nq = w3 at *
        have HK3 : Hid (MInv w w.heap.size ⟨1, by_, no, seen, at_, many, text⟩ (.slice (some ⟨b, off, none⟩) l.length cap) l w3) := by
          show MInv _ _ _ _ _ _
          rw [← hw3]
          exact HK.out.after (below_drewN (Below.refl _ _) _)
        have HF : Hid (doL l ⟨1, by_, no, seen, at_, many, text⟩ number = l.take k ++ (newL ⟨1, by_, no, seen, at_, many, text⟩ number ++ l.drop k)) := by
          show doL _ _ _ = _
          rw [HP.out, ← HS.out, HE.out, Nat.add_zero]
        obtain ⟨aa, na, ca, hva, hvl⟩ : ∃ aa na ca, (∀ w, (Instr.sliceAt 29 (.slice (some ⟨b, off, none⟩) l.length cap) none (some (.int .i64 k)) none).run Try.prog w = .ok (.slice aa na ca) w) ∧ ∀ wk, Lst wk (.slice (some ⟨b, off, none⟩) l.length cap) l → Lst wk (.slice aa na ca) (l.take k) := ⟨_, _, _, run_take_val _ l.length cap k (by omega), fun wk h => lst_take h hk⟩
        obtain ⟨ab, nb, cb, hvb, hvd⟩ : ∃ ab nb cb, (∀ w, (Instr.sliceAt 29 (.slice (some ⟨b, off, none⟩) l.length cap) (some (.int .i64 k)) none none).run Try.prog w = .ok (.slice ab nb cb) w) ∧ ∀ wk, Lst wk (.slice (some ⟨b, off, none⟩) l.length cap) l → Lst wk (.slice ab nb cb) (l.drop k) := ⟨_, _, _, run_drop_val _ l.length cap k hk, fun wk h => lst_drop h hk⟩
        have HVL : Hid _ := hvl
        have HVD : Hid _ := hvd
        have HVA : Hid _ := hva
        have HVB : Hid _ := hvb
        clear hvl hvd hva hvb HK HS HP HE hw3
        refine wp_region_stage (fun wk => MInv w w.heap.size ⟨1, by_, no, seen, at_, many, text⟩ (.slice (some ⟨b, off, none⟩) l.length cap) l wk) (fun i => i == 5 || i == 9 || i == 10) (fun wk => MInv w w.heap.size ⟨1, by_, no, seen, at_, many, text⟩ (.slice (some ⟨b, off, none⟩) l.length cap) l wk) (by kernel_rfl) (by kernel_rfl) (by kernel_rfl) (fun _ h => h) HK3.out.drew ?_
        refine wpStage_still rfl (fun K hK => ?_)
        go_simp
        refine ⟨_, fun _ _ => rfl, hK _ ?_⟩
        clear hK K
        refine wpStage_still rfl (fun K hK => ?_)
        go_simp
        refine ⟨_, fun _ _ => rfl, hK _ ?_⟩
        clear hK K
        refine wpStage_still rfl (fun K hK => ?_)
        rw [if_pos (by rfl)]
        refine ⟨.slice aa na ca, fun wk _ => exec_slice rfl (HVA.out wk), hK _ ?_⟩
        clear hK K
        refine wpStage_still rfl (fun K hK => ?_)
        go_simp
        refine ⟨ddV ⟨1, by_, no, seen, at_, many, text⟩, fun wk hwk => ?_, hK _ ?_⟩
        · obtain ⟨_, c0, c1, c2, c3, c4, c5, c6⟩ := hwk.at_
          simp only [Nat.zero_add] at c0 c1 c2 c3 c4 c5 c6
          go_simp
        clear hK K
        refine wpStage_still rfl (fun K hK => ?_)
        go_simp
        refine ⟨_, fun _ _ => rfl, hK _ ?_⟩
        clear hK K
        refine wpStage_spine rfl rfl (fun u => ∃ a n c, u = .slice a n c) (fun u wk => MInv w w.heap.size ⟨1, by_, no, seen, at_, many, text⟩ (.slice (some ⟨b, off, none⟩) l.length cap) l wk ∧ Lst wk u (newL ⟨1, by_, no, seen, at_, many, text⟩ number)) ⟨_, none, 0, 0, rfl⟩ (fun _ _ h => h.1) (fun wk hwk => ?_) (fun vn hvn => ?_)
        · go_simp
          refine (new_any ⟨1, by_, no, seen, at_, many, text⟩ number wk (by simp only; omega)).mono ?_
          rintro e w4 ⟨u, rfl, ho, hb⟩
          obtain ⟨a4, c4, rfl, _⟩ := ho.lst.len
          exact ⟨_, rfl, ⟨_, _, _, rfl⟩, hwk.after hb, ho.lst⟩
        obtain ⟨an, nn, cn, rfl⟩ := hvn
        refine wpStage_still rfl (fun K hK => ?_)
        go_simp
        refine ⟨_, fun _ _ => rfl, hK _ ?_⟩
        clear hK K
        refine wpStage_still rfl (fun K hK => ?_)
        go_simp
        refine ⟨_, fun _ _ => rfl, hK _ ?_⟩
        clear hK K
        refine wpStage_still rfl (fun K hK => ?_)
        rw [if_pos (by rfl)]
        refine ⟨.slice ab nb cb, fun wk _ => exec_slice rfl (HVB.out wk), hK _ ?_⟩
        clear hK K
        refine wpStage_spine rfl rfl (fun u => ∃ g, u = .slice (some ⟨g, 0, none⟩) 3 3) (fun u wk => ∃ g, u = .slice (some ⟨g, 0, none⟩) 3 3 ∧ MInv w w.heap.size ⟨1, by_, no, seen, at_, many, text⟩ (.slice (some ⟨b, off, none⟩) l.length cap) l wk ∧ Three wk g (.slice aa na ca) (.slice an nn cn) (.slice ab nb cb) (l.take k) (newL ⟨1, by_, no, seen, at_, many, text⟩ number) (l.drop k)) ⟨_, 0, rfl⟩ (fun _ _ h => by obtain ⟨_, _, h, _⟩ := h; exact h) (fun wk hwk => ?_) (fun vs hvs => ?_)
        · go_simp
          exact ⟨⟨_, rfl⟩, _, rfl, hwk.1.after ((Below.refl _ _).alloc (Nat.le_refl _) _), three_start (HVL.out _ hwk.1.lst) hwk.2 (HVD.out _ hwk.1.lst)⟩
        obtain ⟨g, rfl⟩ := hvs
        refine wpStage_spine rfl rfl (fun _ => True) (fun u wk => MInv w w.heap.size ⟨1, by_, no, seen, at_, many, text⟩ (.slice (some ⟨b, off, none⟩) l.length cap) l wk ∧ Own wk w.heap.size u (l.take k ++ (newL ⟨1, by_, no, seen, at_, many, text⟩ number ++ l.drop k))) ⟨.int .i64 0, trivial⟩ (fun _ _ h => h.1) (fun wk hwk => ?_) (fun vr _ => ?_)
        · obtain ⟨g', hg, hm, h3⟩ := hwk
          simp only [Value.slice.injEq, Option.some.injEq, Addr.mk.injEq, and_true] at hg
          subst hg
          go_simp
          refine (concat_three g _ _ _ _ _ _ wk h3 ?_).mono ?_
          · rw [List.length_take, List.length_drop, newL_len]; simp only; omega
          rintro e w5 ⟨u, rfl, ho, hb⟩
          exact ⟨u, rfl, hm.after hb, by have := ho.mono (base' := w.heap.size) hm.below.size; rwa [List.append_assoc] at this⟩
        refine wpStage_still rfl (fun K hK => ?_)
        go_simp
        refine ⟨_, fun _ _ => rfl, hK _ ?_⟩
        clear hK K
        refine wpStage_nil (fun w6 hw6 => ?_)
        have H6 : Hid _ := hw6
        clear hw6
        go_wp2
        go_ret
        exact ⟨_, rfl, by rw [HF.out]; exact H6.out.2, H6.out.1.below⟩
    · have HE : Hid (skipL by_ (l.drop k) = 0) := skip_stop (fun h => absurd h hlt)
      have hlt' : decide ((k : Int) < (l.length : Int)) = false := decide_eq_false (by omega)
      go_wp2
      go_quiet (fail)
      go_wp2
      generalize hw3 : wr.drewN nq = w3 at *
      have HK3 : Hid (MInv w w.heap.size ⟨1, by_, no, seen, at_, many, text⟩ (.slice ad l.length cap) l w3) := by
        show MInv _ _ _ _ _ _
        rw [← hw3]
        exact HK.out.after (below_drewN (Below.refl _ _) _)
      have HF : Hid (doL l ⟨1, by_, no, seen, at_, many, text⟩ number = l.take k ++ (newL ⟨1, by_, no, seen, at_, many, text⟩ number ++ l.drop k)) := by
        show doL _ _ _ = _
        rw [HP.out, ← HS.out, HE.out, Nat.add_zero]
      obtain ⟨aa, na, ca, hva, hvl⟩ : ∃ aa na ca, (∀ w, (Instr.sliceAt 29 (.slice ad l.length cap) none (some (.int .i64 k)) none).run Try.prog w = .ok (.slice aa na ca) w) ∧ ∀ wk, Lst wk (.slice ad l.length cap) l → Lst wk (.slice aa na ca) (l.take k) := ⟨_, _, _, run_take_val _ l.length cap k (by omega), fun wk h => lst_take h hk⟩
      obtain ⟨ab, nb, cb, hvb, hvd⟩ : ∃ ab nb cb, (∀ w, (Instr.sliceAt 29 (.slice ad l.length cap) (some (.int .i64 k)) none none).run Try.prog w = .ok (.slice ab nb cb) w) ∧ ∀ wk, Lst wk (.slice ad l.length cap) l → Lst wk (.slice ab nb cb) (l.drop k) := ⟨_, _, _, run_drop_val _ l.length cap k hk, fun wk h => lst_drop h hk⟩
      have HVL : Hid _ := hvl
      have HVD : Hid _ := hvd
      have HVA : Hid _ := hva
      have HVB : Hid _ := hvb
      clear hvl hvd hva hvb HK HS HP HE hw3
      refine wp_region_stage (fun wk => MInv w w.heap.size ⟨1, by_, no, seen, at_, many, text⟩ (.slice ad l.length cap) l wk) (fun i => i == 5 || i == 9 || i == 10) (fun wk => MInv w w.heap.size ⟨1, by_, no, seen, at_, many, text⟩ (.slice ad l.length cap) l wk) (by kernel_rfl) (by kernel_rfl) (by kernel_rfl) (fun _ h => h) HK3.out.drew ?_
      refine wpStage_still rfl (fun K hK => ?_)
      go_simp
      refine ⟨_, fun _ _ => rfl, hK _ ?_⟩
      clear hK K
      refine wpStage_still rfl (fun K hK => ?_)
      go_simp
      refine ⟨_, fun _ _ => rfl, hK _ ?_⟩
      clear hK K
      refine wpStage_still rfl (fun K hK => ?_)
      rw [if_pos (by rfl)]
      refine ⟨.slice aa na ca, fun wk _ => exec_slice rfl (HVA.out wk), hK _ ?_⟩
      clear hK K
      refine wpStage_still rfl (fun K hK => ?_)
      go_simp
      refine ⟨ddV ⟨1, by_, no, seen, at_, many, text⟩, fun wk hwk => ?_, hK _ ?_⟩
      · obtain ⟨_, c0, c1, c2, c3, c4, c5, c6⟩ := hwk.at_
        simp only [Nat.zero_add] at c0 c1 c2 c3 c4 c5 c6
        go_simp
      clear hK K
      refine wpStage_still rfl (fun K hK => ?_)
      go_simp
      refine ⟨_, fun _ _ => rfl, hK _ ?_⟩
      clear hK K
      refine wpStage_spine rfl rfl (fun u => ∃ a n c, u = .slice a n c) (fun u wk => MInv w w.heap.size ⟨1, by_, no, seen, at_, many, text⟩ (.slice ad l.length cap) l wk ∧ Lst wk u (newL ⟨1, by_, no, seen, at_, many, text⟩ number)) ⟨_, none, 0, 0, rfl⟩ (fun _ _ h => h.1) (fun wk hwk => ?_) (fun vn hvn => ?_)
      · go_simp
        refine (new_any ⟨1, by_, no, seen, at_, many, text⟩ number wk (by simp only; omega)).mono ?_
        rintro e w4 ⟨u, rfl, ho, hb⟩
        obtain ⟨a4, c4, rfl, _⟩ := ho.lst.len
        exact ⟨_, rfl, ⟨_, _, _, rfl⟩, hwk.after hb, ho.lst⟩
      obtain ⟨an, nn, cn, rfl⟩ := hvn
      refine wpStage_still rfl (fun K hK => ?_)
      go_simp
      refine ⟨_, fun _ _ => rfl, hK _ ?_⟩
      clear hK K
      refine wpStage_still rfl (fun K hK => ?_)
      go_simp
      refine ⟨_, fun _ _ => rfl, hK _ ?_⟩
      clear hK K
      refine wpStage_still rfl (fun K hK => ?_)
      rw [if_pos (by rfl)]
      refine ⟨.slice ab nb cb, fun wk _ => exec_slice rfl (HVB.out wk), hK _ ?_⟩
      clear hK K
      refine wpStage_spine rfl rfl (fun u => ∃ g, u = .slice (some ⟨g, 0, none⟩) 3 3) (fun u wk => ∃ g, u = .slice (some ⟨g, 0, none⟩) 3 3 ∧ MInv w w.heap.size ⟨1, by_, no, seen, at_, many, text⟩ (.slice ad l.length cap) l wk ∧ Three wk g (.slice aa na ca) (.slice an nn cn) (.slice ab nb cb) (l.take k) (newL ⟨1, by_, no, seen, at_, many, text⟩ number) (l.drop k)) ⟨_, 0, rfl⟩ (fun _ _ h => by obtain ⟨_, _, h, _⟩ := h; exact h) (fun wk hwk => ?_) (fun vs hvs => ?_)
      · go_simp
        exact ⟨⟨_, rfl⟩, _, rfl, hwk.1.after ((Below.refl _ _).alloc (Nat.le_refl _) _), three_start (HVL.out _ hwk.1.lst) hwk.2 (HVD.out _ hwk.1.lst)⟩
      obtain ⟨g, rfl⟩ := hvs
      refine wpStage_spine rfl rfl (fun _ => True) (fun u wk => MInv w w.heap.size ⟨1, by_, no, seen, at_, many, text⟩ (.slice ad l.length cap) l wk ∧ Own wk w.heap.size u (l.take k ++ (newL ⟨1, by_, no, seen, at_, many, text⟩ number ++ l.drop k))) ⟨.int .i64 0, trivial⟩ (fun _ _ h => h.1) (fun wk hwk => ?_) (fun vr _ => ?_)
      · obtain ⟨g', hg, hm, h3⟩ := hwk
        simp only [Value.slice.injEq, Option.some.injEq, Addr.mk.injEq, and_true] at hg
        subst hg
        go_simp
        refine (concat_three g _ _ _ _ _ _ wk h3 ?_).mono ?_
        · rw [List.length_take, List.length_drop, newL_len]; simp only; omega
        rintro e w5 ⟨u, rfl, ho, hb⟩
        exact ⟨u, rfl, hm.after hb, by have := ho.mono (base' := w.heap.size) hm.below.size; rwa [List.append_assoc] at this⟩
      refine wpStage_still rfl (fun K hK => ?_)
      go_simp
      refine ⟨_, fun _ _ => rfl, hK _ ?_⟩
      clear hK K
      refine wpStage_nil (fun w6 hw6 => ?_)
      have H6 : Hid _ := hw6
      clear hw6
      go_wp2
      go_ret
      exact ⟨_, rfl, by rw [HF.out]; exact H6.out.2, H6.out.1.below⟩

end Go.Proofs.Ytebhbhcjfnohmab
