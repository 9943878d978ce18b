/-
  The law DesksClear: TO CLEAR CHANGES NOTHING.
-/
import Derived.Test.YtnabhdfodckpdacTClM
namespace Go.Proofs.Ytnabhdfodckpdac
open Go Go.RowKit

/-- Two desks, and lists of deeds. -/
structure TwoL (w : World) (D G : Nat) (pw : Nat → Nat) (t : Twn) (E F : Nat) (qw : Nat → Nat) (u : Twn) (v1 v2 : Value) (l1 l2 : List Dd) (wk : World) : Prop where
  two : TwoD w D G pw t E F qw u wk
  a1 : DLst wk v1 l1
  a2 : DLst wk v2 l2

theorem DLst.nilT (w : World) : DLst w (.slice none 0 0) [] := (ownD_nil w 0).dlst

set_option maxRecDepth 20000 in
set_option maxHeartbeats 12800000 in
theorem desksClear_any (v : Value) (xs : List Tst) (w : World) (h : TLst w v xs) :
    Calls Try.prog 7 #[v] w fun e w' => e = .returned (.bool true) ∧ Below w.heap.size w w' := by
  have HD : Hid (TLst w v xs) := h
  obtain ⟨a, cap, rfl⟩ := h.len
  clear h
  go_enter Try.func7, Try.ntmps7
  go_wp2_with fail
  refine (tbegun_any _).mono ?_
  rintro e w0 ⟨rfl, hb0⟩
  have HB0 : Hid (Below w.heap.size w w0) := hb0
  clear hb0
  go_wp2_with fail
  refine (greatT_any _ xs _ (HD.out.below HB0.out)).mono ?_
  rintro e w1 ⟨gr, rfl, hgr, rfl⟩
  cases gr
  · have hl := hgr rfl
    clear hgr
    go_wp2_with fail
    have H0 : Hid (TwoD w1 (w1.heap.size + 1) w1.heap.size (fun _ => 0) twn0 (w1.heap.size + 3) (w1.heap.size + 2) (fun _ => 0) twn0 ((((w1.alloc (.cells logZ 80)).alloc (.cells (deskZ w1.heap.size) 63)).alloc (.cells logZ 80)).alloc (.cells (deskZ (w1.heap.size + 2)) 63))) := two_start w1
    refine (new_dk w1).mono ?_
    rintro e w2 ⟨rfl, rfl⟩
    go_wp2_with fail
    refine (new_dk _).mono ?_
    rintro e w2 ⟨rfl, rfl⟩
    rw [show ((w1.alloc (.cells logZ 80)).alloc (.cells (deskZ w1.heap.size) 63)).heap.size = w1.heap.size + 2 by simp]
    generalize World.alloc _ _ = w2 at *
    rw [show w1.heap.size + 2 + 1 = w1.heap.size + 3 by omega]
    generalize w1.heap.size + 3 = E at *
    generalize w1.heap.size + 2 = F at *
    generalize w1.heap.size + 1 = D at *
    have H2 : Hid (∃ G pw qw, TwoD w1 D G pw twn0 E F qw twn0 w2) := ⟨_, _, _, H0.out⟩
    clear H0
    obtain ⟨G, pw0, qw0, hd2⟩ := H2.out
    have H3 : Hid (TwoD w1 D G pw0 twn0 E F qw0 twn0 w2) := hd2
    clear hd2 H2
    go_wp2_with fail
    go_loopw [5] (fun i wr => ∃ (j : Nat) (t u : Twn) (pw qw : Nat → Nat), j ≤ xs.length ∧ i = .int .i64 j ∧ Hid (Twin t u) ∧ Hid (TwoD w1 D G pw t E F qw u wr)) (fun i _ => xs.length - (intOf i).toNat)
    case atStart => exact ⟨0, twn0, twn0, pw0, qw0, Nat.zero_le _, rfl, Twin.start, H3.out⟩
    case round =>
      obtain ⟨j, t, u, pw, qw, hj, rfl, HTW, HW⟩ := hrel
      clear H3
      by_cases hlt : j < xs.length
      · obtain ⟨bb, off, rfl, hr⟩ := (HD.out.below (below_after HB0.out HW.out.below)).row (by omega)
        have hjl : (j : Int) < (xs.length : Int) := by omega
        have hr0 := hr.at_ j hlt
        have HC : Hid (∀ wk, Below w1.heap.size w1 wk → TsAt wk bb (off + j * 5) xs[j]) := fun wk hb => by
          obtain ⟨b2, o2, he, hr2⟩ := (HD.out.below (below_after HB0.out hb)).row (by omega)
          simp only [Option.some.injEq, Addr.mk.injEq] at he
          obtain ⟨rfl, rfl, _⟩ := he
          exact hr2.at_ j hlt
        generalize xs[j] = x at *
        obtain ⟨kind, w_, at_, many, text⟩ := x
        clear hr
        obtain ⟨_, c0, c1, c2, c3, c4⟩ := hr0
        simp only at c0 c1 c2 c3 c4
        by_cases hk6 : kind = 6
        · subst hk6
          go_wp2_with fail
          clear c0 c1 c2 c3 c4
          refine (HW.out.doesD ⟨6, w_, at_, many, text⟩).mono ?_
          rintro e w5 ⟨rfl, pw5, h5⟩
          have H5 : Hid (TwoD w1 D G pw5 (tDo t ⟨6, w_, at_, many, text⟩).2 E F qw u w5) := h5
          clear h5 HW
          have HTC5 : Hid (Twin (tDo t ⟨6, w_, at_, many, text⟩).2 u) := HTW.out.clears _ rfl
          generalize (tDo t ⟨6, w_, at_, many, text⟩).1 = cz at *
          go_wp2_with fail
          go_roundw
          case rel => exact ⟨j + 1, _, u, pw5, qw, by omega, by go_num, HTC5.out, H5.out⟩
          case measure => simp [intOf]; omega
        · go_wp2_with fail
          clear c0 c1 c2 c3 c4
          obtain ⟨s1, hs1⟩ : ∃ s1, seenS u w_ = s1 := ⟨_, rfl⟩
          have HSB : Hid (seenS u w_ = s1) := hs1
          have HSA : Hid (seenS t w_ = s1) := by show _ = _; rw [seen_twin HTW.out]; exact hs1
          clear hs1
          refine wp_region_late (fun wk => TwoD w1 D G pw t E F qw u wk) (fun i => i == 6 || i == 13) (fun _ => false) (by kernel_rfl) (by kernel_rfl) (by kernel_rfl) (HW.out.after (Below.refl _ _).drew) ?_
          refine wpLate_big (some 34) w rfl (.pointer (some ⟨D, 0, none⟩)) rfl (by kernel_rfl) (fun wk hwk => ?_) ?_
          · generalize hA : Act.eval _ = ρ
            have s3 : ρ (.tmp 3) = .pointer (some ⟨D, 0, none⟩) := by rw [← hA]; kernel_rfl
            clear hA
            go_simp
          go_big_quiet_op
          refine wpLate_big (some 35) w rfl (.slice (some ⟨bb, off, none⟩) xs.length cap) rfl (by kernel_rfl) (fun wk hwk => ?_) ?_
          · generalize hA : Act.eval _ = ρ
            have s0 : ρ (.tmp 0) = .slice (some ⟨bb, off, none⟩) xs.length cap := by rw [← hA]; kernel_rfl
            clear hA
            go_simp
          go_big_quiet_op
          refine wpLate_big (some 36) w rfl (.int .i64 (j : Int)) rfl (by kernel_rfl) (fun wk hwk => ?_) ?_
          · generalize hA : Act.eval _ = ρ
            have s5 : ρ (.tmp 5) = .int .i64 (j : Int) := by rw [← hA]; kernel_rfl
            clear hA
            go_simp
          go_big_quiet_op
          refine wpLate_big (some 37) w rfl (.pointer (some ⟨bb, off + j * 5, none⟩)) rfl (by kernel_rfl) (fun wk hwk => ?_) ?_
          · generalize hA : Act.eval _ = ρ
            have s35 : ρ (.tmp 35) = .slice (some ⟨bb, off, none⟩) xs.length cap := by rw [← hA]; kernel_rfl
            have s36 : ρ (.tmp 36) = .int .i64 (j : Int) := by rw [← hA]; kernel_rfl
            clear hA
            have hj2 := hjl
            go_simp
          go_big_quiet_op
          refine wpLate_big (some 38) w rfl (.pointer (some ⟨bb, off + j * 5 + 1, none⟩)) rfl (by kernel_rfl) (fun wk hwk => ?_) ?_
          · generalize hA : Act.eval _ = ρ
            have s37 : ρ (.tmp 37) = .pointer (some ⟨bb, off + j * 5, none⟩) := by rw [← hA]; kernel_rfl
            clear hA
            go_simp
          go_big_quiet_op
          refine wpLate_big (some 39) w rfl (.int .i64 (w_)) rfl (by kernel_rfl) (fun wk hwk => ?_) ?_
          · generalize hA : Act.eval _ = ρ
            have s38 : ρ (.tmp 38) = .pointer (some ⟨bb, off + j * 5 + 1, none⟩) := by rw [← hA]; kernel_rfl
            clear hA
            obtain ⟨_, _, c1, _⟩ := HC.out wk (hwk.below)
            go_simp
          go_big_quiet_op
          refine wpLate_bigSpine (some 40) w rfl rfl (by kernel_rfl) (fun u => u = .string s1) (fun _ wk => TwoD w1 D G pw t E F qw u wk) (fun _ wk => TwoD w1 D G pw t E F qw u wk) (⟨_, rfl⟩) (fun _ _ h => h) (fun _ _ h => h) (fun wk hwk => ?_) (fun u9 hu9 => ?_)
          · generalize hA : Act.eval _ = ρ
            have s34 : ρ (.tmp 34) = .pointer (some ⟨D, 0, none⟩) := by rw [← hA]; kernel_rfl
            have s39 : ρ (.tmp 39) = .int .i64 (w_) := by rw [← hA]; kernel_rfl
            have sf : ρ (.func 35) = .func (.func 35) #[] #[] := by rw [← hA]; kernel_rfl
            clear hA
            go_simp
            refine (hwk.seenD w_).mono ?_
            rintro e w7 ⟨rfl, hb⟩
            exact ⟨_, rfl, by rw [HSA.out], hwk.after hb⟩
          subst hu9
          go_big_quiet_op
          refine wpLate_big (some 41) w rfl (.pointer (some ⟨E, 0, none⟩)) rfl (by kernel_rfl) (fun wk hwk => ?_) ?_
          · generalize hA : Act.eval _ = ρ
            have s4 : ρ (.tmp 4) = .pointer (some ⟨E, 0, none⟩) := by rw [← hA]; kernel_rfl
            clear hA
            go_simp
          go_big_quiet_op
          refine wpLate_big (some 42) w rfl (.slice (some ⟨bb, off, none⟩) xs.length cap) rfl (by kernel_rfl) (fun wk hwk => ?_) ?_
          · generalize hA : Act.eval _ = ρ
            have s0 : ρ (.tmp 0) = .slice (some ⟨bb, off, none⟩) xs.length cap := by rw [← hA]; kernel_rfl
            clear hA
            go_simp
          go_big_quiet_op
          refine wpLate_big (some 43) w rfl (.int .i64 (j : Int)) rfl (by kernel_rfl) (fun wk hwk => ?_) ?_
          · generalize hA : Act.eval _ = ρ
            have s5 : ρ (.tmp 5) = .int .i64 (j : Int) := by rw [← hA]; kernel_rfl
            clear hA
            go_simp
          go_big_quiet_op
          refine wpLate_big (some 44) w rfl (.pointer (some ⟨bb, off + j * 5, none⟩)) rfl (by kernel_rfl) (fun wk hwk => ?_) ?_
          · generalize hA : Act.eval _ = ρ
            have s42 : ρ (.tmp 42) = .slice (some ⟨bb, off, none⟩) xs.length cap := by rw [← hA]; kernel_rfl
            have s43 : ρ (.tmp 43) = .int .i64 (j : Int) := by rw [← hA]; kernel_rfl
            clear hA
            have hj2 := hjl
            go_simp
          go_big_quiet_op
          refine wpLate_big (some 45) w rfl (.pointer (some ⟨bb, off + j * 5 + 1, none⟩)) rfl (by kernel_rfl) (fun wk hwk => ?_) ?_
          · generalize hA : Act.eval _ = ρ
            have s44 : ρ (.tmp 44) = .pointer (some ⟨bb, off + j * 5, none⟩) := by rw [← hA]; kernel_rfl
            clear hA
            go_simp
          go_big_quiet_op
          refine wpLate_big (some 46) w rfl (.int .i64 (w_)) rfl (by kernel_rfl) (fun wk hwk => ?_) ?_
          · generalize hA : Act.eval _ = ρ
            have s45 : ρ (.tmp 45) = .pointer (some ⟨bb, off + j * 5 + 1, none⟩) := by rw [← hA]; kernel_rfl
            clear hA
            obtain ⟨_, _, c1, _⟩ := HC.out wk (hwk.below)
            go_simp
          go_big_quiet_op
          refine wpLate_bigSpine (some 47) w rfl rfl (by kernel_rfl) (fun u => u = .string s1) (fun _ wk => TwoD w1 D G pw t E F qw u wk) (fun _ wk => TwoD w1 D G pw t E F qw u wk) (⟨_, rfl⟩) (fun _ _ h => h) (fun _ _ h => h) (fun wk hwk => ?_) (fun u9 hu9 => ?_)
          · generalize hA : Act.eval _ = ρ
            have s41 : ρ (.tmp 41) = .pointer (some ⟨E, 0, none⟩) := by rw [← hA]; kernel_rfl
            have s46 : ρ (.tmp 46) = .int .i64 (w_) := by rw [← hA]; kernel_rfl
            have sf : ρ (.func 35) = .func (.func 35) #[] #[] := by rw [← hA]; kernel_rfl
            clear hA
            go_simp
            refine (hwk.seenE w_).mono ?_
            rintro e w7 ⟨rfl, hb⟩
            exact ⟨_, rfl, by rw [HSB.out], hwk.after hb⟩
          subst hu9
          go_big_quiet_op
          refine wpLate_big (some 6) w rfl (.string s1) rfl (by kernel_rfl) (fun wk hwk => ?_) ?_
          · generalize hA : Act.eval _ = ρ
            have s40 : ρ (.tmp 40) = .string s1 := by rw [← hA]; kernel_rfl
            clear hA
            go_simp
          go_big_quiet_op
          refine wpLate_big (some 7) w rfl (.string s1) rfl (by kernel_rfl) (fun wk hwk => ?_) ?_
          · generalize hA : Act.eval _ = ρ
            have s47 : ρ (.tmp 47) = .string s1 := by rw [← hA]; kernel_rfl
            clear hA
            go_simp
          go_big_quiet_op
          refine wpLate_nil (fun w9 hw9 => ?_)
          have H9 : Hid (TwoD w1 D G pw t E F qw u w9) := hw9
          clear hw9 HW
          clear HSA HSB
          obtain ⟨_, c0, c1, c2, c3, c4⟩ := HC.out w9 H9.out.below
          simp only at c0 c1 c2 c3 c4
          go_wp2_with fail
          refine (H9.out.writerE w_).mono ?_
          rintro e w10 ⟨rfl, hw10⟩
          rw [hw10]
          clear hw10 w10
          obtain ⟨pq, hpq⟩ : ∃ pq, deskP qw (hasW u) w_ = pq := ⟨_, rfl⟩
          rw [hpq]
          have HPQ : Hid (deskP qw (hasW u) w_ = pq) := hpq
          clear hpq
          go_wp2_with fail
          clear c0 c1 c2 c3 c4
          refine (H9.out.doesE ⟨kind, w_, at_, many, text⟩).mono ?_
          rintro e w11 ⟨rfl, qw2, h11⟩
          have H11 : Hid (TwoD w1 D G pw t E F qw2 (tDo u ⟨kind, w_, at_, many, text⟩).2 w11) := h11
          clear h11 H9
          obtain ⟨cq, hcq⟩ : ∃ cq, (tDo u ⟨kind, w_, at_, many, text⟩).1 = cq := ⟨_, rfl⟩
          have HCQ : Hid ((tDo u ⟨kind, w_, at_, many, text⟩).1 = cq) := hcq
          rw [hcq]
          by_cases hc9 : cq = 9
          · subst hc9
            clear hcq
            go_wp2_with fail
            go_ret
            exact ⟨rfl, below_after HB0.out H11.out.below⟩
          · have HST : (∀ r, u.ws w_ = some r → (tDo u ⟨kind, w_, at_, many, text⟩).2.ws w_ ≠ none ∨ kind = 7) → (tDo t ⟨kind, w_, at_, many, text⟩).1 = (tDo u ⟨kind, w_, at_, many, text⟩).1 ∧ Twin (tDo t ⟨kind, w_, at_, many, text⟩).2 (tDo u ⟨kind, w_, at_, many, text⟩).2 := fun hgo => HTW.out.steps ⟨kind, w_, at_, many, text⟩ hk6 (by rw [hcq]; exact hc9) hgo
            clear hcq
            obtain ⟨_, c0, c1, c2, c3, c4⟩ := HC.out w11 H11.out.below
            simp only at c0 c1 c2 c3 c4
            cases he : u.ws w_ with
            | none =>
              have hst := HST (fun r hr => by rw [he] at hr; cases hr)
              have HPN : Hid (pq = .pointer none) := by rw [← HPQ.out]; exact desk_none he
              obtain rfl := HPN.out
              have HSX : Hid _ := hst
              clear hst HST he HPN HPQ
              go_wp2_with fail
              clear c0 c1 c2 c3 c4
              have HTC2 : Hid (Twin (tDo t ⟨kind, w_, at_, many, text⟩).2 (tDo u ⟨kind, w_, at_, many, text⟩).2) := HSX.out.2
              have HCT : Hid ((tDo t ⟨kind, w_, at_, many, text⟩).1 = cq) := by have h5 := HSX.out.1; show _ = _; rw [h5]; exact HCQ.out
              obtain ⟨s2, hs2⟩ : ∃ s2, seenS (tDo u ⟨kind, w_, at_, many, text⟩).2 w_ = s2 := ⟨_, rfl⟩
              have HSD0 : Hid (seenS (tDo u ⟨kind, w_, at_, many, text⟩).2 w_ = s2) := hs2
              have HSC0 : Hid (seenS (tDo t ⟨kind, w_, at_, many, text⟩).2 w_ = s2) := by show _ = _; rw [seen_twin HTC2.out]; exact hs2
              clear hs2
              obtain ⟨u2, hu2⟩ : ∃ u2, (tDo u ⟨kind, w_, at_, many, text⟩).2 = u2 := ⟨_, rfl⟩
              obtain ⟨t2, ht2⟩ : ∃ t2, (tDo t ⟨kind, w_, at_, many, text⟩).2 = t2 := ⟨_, rfl⟩
              have HSD : Hid (seenS u2 w_ = s2) := by rw [← hu2]; exact HSD0.out
              have HSC : Hid (seenS t2 w_ = s2) := by rw [← ht2]; exact HSC0.out
              have HT2 : Hid ((tDo t ⟨kind, w_, at_, many, text⟩).2 = t2) := ht2
              have HTWN : Hid (Twin t2 u2) := by rw [← hu2, ← ht2]; exact HTC2.out
              have HDO : Hid (TwoD w1 D G pw t E F qw2 u2 w11) := by rw [← hu2]; exact H11.out
              clear HSC0 HSD0 HTC2 hu2 ht2
              go_wp2_with fail
              refine wp_region_lateD (fun wk => ∃ pw t qw u, TwoD w1 D G pw t E F qw u wk) (fun wk => TwoD w1 D G pw t E F qw2 u2 wk) (fun i => i == 5 || i == 8 || i == 15 || i == 22) (fun _ => false) (by kernel_rfl) (by kernel_rfl) (by kernel_rfl) (fun _ h => ⟨_, _, _, _, h⟩) (HDO.out.after (Below.refl _ _).drew) ?_
              refine wpLate_big (some 88) w rfl (.pointer (some ⟨D, 0, none⟩)) rfl (by kernel_rfl) (fun wk hwk => ?_) ?_
              · generalize hA : Act.eval _ = ρ
                have s3 : ρ (.tmp 3) = .pointer (some ⟨D, 0, none⟩) := by rw [← hA]; kernel_rfl
                clear hA
                go_simp
              go_big_quiet_op
              refine wpLate_big (some 89) w rfl (.slice (some ⟨bb, off, none⟩) xs.length cap) rfl (by kernel_rfl) (fun wk hwk => ?_) ?_
              · generalize hA : Act.eval _ = ρ
                have s0 : ρ (.tmp 0) = .slice (some ⟨bb, off, none⟩) xs.length cap := by rw [← hA]; kernel_rfl
                clear hA
                go_simp
              go_big_quiet_op
              refine wpLate_big (some 90) w rfl (.int .i64 (j : Int)) rfl (by kernel_rfl) (fun wk hwk => ?_) ?_
              · generalize hA : Act.eval _ = ρ
                have s5 : ρ (.tmp 5) = .int .i64 (j : Int) := by rw [← hA]; kernel_rfl
                clear hA
                go_simp
              go_big_quiet_op
              refine wpLate_big (some 91) w rfl (.pointer (some ⟨bb, off + j * 5, none⟩)) rfl (by kernel_rfl) (fun wk hwk => ?_) ?_
              · generalize hA : Act.eval _ = ρ
                have s89 : ρ (.tmp 89) = .slice (some ⟨bb, off, none⟩) xs.length cap := by rw [← hA]; kernel_rfl
                have s90 : ρ (.tmp 90) = .int .i64 (j : Int) := by rw [← hA]; kernel_rfl
                clear hA
                have hj2 := hjl
                go_simp
              go_big_quiet_op
              refine wpLate_big (some 92) w rfl (tsV ⟨kind, w_, at_, many, text⟩) rfl (by kernel_rfl) (fun wk hwk => ?_) ?_
              · generalize hA : Act.eval _ = ρ
                have s91 : ρ (.tmp 91) = .pointer (some ⟨bb, off + j * 5, none⟩) := by rw [← hA]; kernel_rfl
                clear hA
                obtain ⟨_, c0, c1, c2, c3, c4⟩ := HC.out wk (by obtain ⟨_, _, _, _, hq⟩ := hwk; exact hq.below)
                go_simp
              go_big_quiet_op
              refine wpLate_bigSpine (some 93) w rfl rfl (by kernel_rfl) (fun u => u = .int .i64 cq) (fun u wk => ∃ pw t qw u, TwoD w1 D G pw t E F qw u wk) (fun u wk => ∃ pw2, TwoD w1 D G pw2 t2 E F qw2 u2 wk) (⟨_, rfl⟩) (fun _ _ h => h) (fun _ _ h => by obtain ⟨p2, h⟩ := h; exact ⟨_, _, _, _, h⟩) (fun wk hwk => ?_) (fun u9 hu9 => ?_)
              · generalize hA : Act.eval _ = ρ
                have s88 : ρ (.tmp 88) = .pointer (some ⟨D, 0, none⟩) := by rw [← hA]; kernel_rfl
                have s92 : ρ (.tmp 92) = tsV ⟨kind, w_, at_, many, text⟩ := by rw [← hA]; kernel_rfl
                have sf : ρ (.func 34) = .func (.func 34) #[] #[] := by rw [← hA]; kernel_rfl
                clear hA
                go_simp
                refine (hwk.doesD ⟨kind, w_, at_, many, text⟩).mono ?_
                rintro e w7 ⟨rfl, pw7, h7⟩
                exact ⟨_, rfl, by rw [HCT.out], pw7, by rw [← HT2.out]; exact h7⟩
              subst hu9
              go_big_quiet_op
              refine wpLate_big (some 94) w rfl (.int .i64 (cq)) rfl (by kernel_rfl) (fun wk hwk => ?_) ?_
              · generalize hA : Act.eval _ = ρ
                have s9 : ρ (.tmp 9) = .int .i64 (cq) := by rw [← hA]; kernel_rfl
                clear hA
                go_simp
              go_big_quiet_op
              refine wpLate_big (some 95) w rfl (.bool false) rfl (by kernel_rfl) (fun wk hwk => ?_) ?_
              · generalize hA : Act.eval _ = ρ
                have s93 : ρ (.tmp 93) = .int .i64 (cq) := by rw [← hA]; kernel_rfl
                have s94 : ρ (.tmp 94) = .int .i64 (cq) := by rw [← hA]; kernel_rfl
                clear hA
                go_simp
              go_big_quiet_op
              refine wpLate_bigSpine (some 96) w rfl rfl (by kernel_rfl) (fun u => u = .bool false) (fun u wk => ∃ pw t qw u, TwoD w1 D G pw t E F qw u wk) (fun u wk => ∃ pw2, TwoD w1 D G pw2 t2 E F qw2 u2 wk) (⟨_, rfl⟩) (fun _ _ h => h) (fun _ _ h => by obtain ⟨p2, h⟩ := h; exact ⟨_, _, _, _, h⟩) (fun wk hwk => ?_) (fun u9 hu9 => ?_)
              · generalize hA : Act.eval _ = ρ
                have s95 : ρ (.tmp 95) = .bool false := by rw [← hA]; kernel_rfl
                clear hA
                go_simp
                exact ⟨rfl, hwk⟩
              subst hu9
              go_big_quiet_op
              refine wpLate_big (some 97) w rfl (.pointer (some ⟨D, 0, none⟩)) rfl (by kernel_rfl) (fun wk hwk => ?_) ?_
              · generalize hA : Act.eval _ = ρ
                have s3 : ρ (.tmp 3) = .pointer (some ⟨D, 0, none⟩) := by rw [← hA]; kernel_rfl
                clear hA
                go_simp
              go_big_quiet_op
              refine wpLate_big (some 98) w rfl (.slice (some ⟨bb, off, none⟩) xs.length cap) rfl (by kernel_rfl) (fun wk hwk => ?_) ?_
              · generalize hA : Act.eval _ = ρ
                have s0 : ρ (.tmp 0) = .slice (some ⟨bb, off, none⟩) xs.length cap := by rw [← hA]; kernel_rfl
                clear hA
                go_simp
              go_big_quiet_op
              refine wpLate_big (some 99) w rfl (.int .i64 (j : Int)) rfl (by kernel_rfl) (fun wk hwk => ?_) ?_
              · generalize hA : Act.eval _ = ρ
                have s5 : ρ (.tmp 5) = .int .i64 (j : Int) := by rw [← hA]; kernel_rfl
                clear hA
                go_simp
              go_big_quiet_op
              refine wpLate_big (some 100) w rfl (.pointer (some ⟨bb, off + j * 5, none⟩)) rfl (by kernel_rfl) (fun wk hwk => ?_) ?_
              · generalize hA : Act.eval _ = ρ
                have s98 : ρ (.tmp 98) = .slice (some ⟨bb, off, none⟩) xs.length cap := by rw [← hA]; kernel_rfl
                have s99 : ρ (.tmp 99) = .int .i64 (j : Int) := by rw [← hA]; kernel_rfl
                clear hA
                have hj2 := hjl
                go_simp
              go_big_quiet_op
              refine wpLate_big (some 101) w rfl (.pointer (some ⟨bb, off + j * 5 + 1, none⟩)) rfl (by kernel_rfl) (fun wk hwk => ?_) ?_
              · generalize hA : Act.eval _ = ρ
                have s100 : ρ (.tmp 100) = .pointer (some ⟨bb, off + j * 5, none⟩) := by rw [← hA]; kernel_rfl
                clear hA
                go_simp
              go_big_quiet_op
              refine wpLate_big (some 102) w rfl (.int .i64 (w_)) rfl (by kernel_rfl) (fun wk hwk => ?_) ?_
              · generalize hA : Act.eval _ = ρ
                have s101 : ρ (.tmp 101) = .pointer (some ⟨bb, off + j * 5 + 1, none⟩) := by rw [← hA]; kernel_rfl
                clear hA
                obtain ⟨_, _, c1, _⟩ := HC.out wk (by obtain ⟨_, _, _, _, hq⟩ := hwk; exact hq.below)
                go_simp
              go_big_quiet_op
              refine wpLate_bigSpine (some 103) w rfl rfl (by kernel_rfl) (fun u => u = .string s2) (fun u wk => ∃ pw t qw u, TwoD w1 D G pw t E F qw u wk) (fun u wk => ∃ pw2, TwoD w1 D G pw2 t2 E F qw2 u2 wk) (⟨_, rfl⟩) (fun _ _ h => h) (fun _ _ h => by obtain ⟨p2, h⟩ := h; exact ⟨_, _, _, _, h⟩) (fun wk hwk => ?_) (fun u9 hu9 => ?_)
              · generalize hA : Act.eval _ = ρ
                have s97 : ρ (.tmp 97) = .pointer (some ⟨D, 0, none⟩) := by rw [← hA]; kernel_rfl
                have s102 : ρ (.tmp 102) = .int .i64 (w_) := by rw [← hA]; kernel_rfl
                have sf : ρ (.func 35) = .func (.func 35) #[] #[] := by rw [← hA]; kernel_rfl
                clear hA
                go_simp
                obtain ⟨p2, hq⟩ := hwk
                refine (hq.seenD w_).mono ?_
                rintro e w7 ⟨rfl, hb⟩
                exact ⟨_, rfl, by rw [HSC.out], p2, hq.after hb⟩
              subst hu9
              go_big_quiet_op
              refine wpLate_big (some 104) w rfl (.pointer (some ⟨E, 0, none⟩)) rfl (by kernel_rfl) (fun wk hwk => ?_) ?_
              · generalize hA : Act.eval _ = ρ
                have s4 : ρ (.tmp 4) = .pointer (some ⟨E, 0, none⟩) := by rw [← hA]; kernel_rfl
                clear hA
                go_simp
              go_big_quiet_op
              refine wpLate_big (some 105) w rfl (.slice (some ⟨bb, off, none⟩) xs.length cap) rfl (by kernel_rfl) (fun wk hwk => ?_) ?_
              · generalize hA : Act.eval _ = ρ
                have s0 : ρ (.tmp 0) = .slice (some ⟨bb, off, none⟩) xs.length cap := by rw [← hA]; kernel_rfl
                clear hA
                go_simp
              go_big_quiet_op
              refine wpLate_big (some 106) w rfl (.int .i64 (j : Int)) rfl (by kernel_rfl) (fun wk hwk => ?_) ?_
              · generalize hA : Act.eval _ = ρ
                have s5 : ρ (.tmp 5) = .int .i64 (j : Int) := by rw [← hA]; kernel_rfl
                clear hA
                go_simp
              go_big_quiet_op
              refine wpLate_big (some 107) w rfl (.pointer (some ⟨bb, off + j * 5, none⟩)) rfl (by kernel_rfl) (fun wk hwk => ?_) ?_
              · generalize hA : Act.eval _ = ρ
                have s105 : ρ (.tmp 105) = .slice (some ⟨bb, off, none⟩) xs.length cap := by rw [← hA]; kernel_rfl
                have s106 : ρ (.tmp 106) = .int .i64 (j : Int) := by rw [← hA]; kernel_rfl
                clear hA
                have hj2 := hjl
                go_simp
              go_big_quiet_op
              refine wpLate_big (some 108) w rfl (.pointer (some ⟨bb, off + j * 5 + 1, none⟩)) rfl (by kernel_rfl) (fun wk hwk => ?_) ?_
              · generalize hA : Act.eval _ = ρ
                have s107 : ρ (.tmp 107) = .pointer (some ⟨bb, off + j * 5, none⟩) := by rw [← hA]; kernel_rfl
                clear hA
                go_simp
              go_big_quiet_op
              refine wpLate_big (some 109) w rfl (.int .i64 (w_)) rfl (by kernel_rfl) (fun wk hwk => ?_) ?_
              · generalize hA : Act.eval _ = ρ
                have s108 : ρ (.tmp 108) = .pointer (some ⟨bb, off + j * 5 + 1, none⟩) := by rw [← hA]; kernel_rfl
                clear hA
                obtain ⟨_, _, c1, _⟩ := HC.out wk (by obtain ⟨_, _, _, _, hq⟩ := hwk; exact hq.below)
                go_simp
              go_big_quiet_op
              refine wpLate_bigSpine (some 110) w rfl rfl (by kernel_rfl) (fun u => u = .string s2) (fun u wk => ∃ pw t qw u, TwoD w1 D G pw t E F qw u wk) (fun u wk => ∃ pw2, TwoD w1 D G pw2 t2 E F qw2 u2 wk) (⟨_, rfl⟩) (fun _ _ h => h) (fun _ _ h => by obtain ⟨p2, h⟩ := h; exact ⟨_, _, _, _, h⟩) (fun wk hwk => ?_) (fun u9 hu9 => ?_)
              · generalize hA : Act.eval _ = ρ
                have s104 : ρ (.tmp 104) = .pointer (some ⟨E, 0, none⟩) := by rw [← hA]; kernel_rfl
                have s109 : ρ (.tmp 109) = .int .i64 (w_) := by rw [← hA]; kernel_rfl
                have sf : ρ (.func 35) = .func (.func 35) #[] #[] := by rw [← hA]; kernel_rfl
                clear hA
                go_simp
                obtain ⟨p2, hq⟩ := hwk
                refine (hq.seenE w_).mono ?_
                rintro e w7 ⟨rfl, hb⟩
                exact ⟨_, rfl, by rw [HSD.out], p2, hq.after hb⟩
              subst hu9
              go_big_quiet_op
              refine wpLate_big (some 111) w rfl (.bool false) rfl (by kernel_rfl) (fun wk hwk => ?_) ?_
              · generalize hA : Act.eval _ = ρ
                have s103 : ρ (.tmp 103) = .string s2 := by rw [← hA]; kernel_rfl
                have s110 : ρ (.tmp 110) = .string s2 := by rw [← hA]; kernel_rfl
                clear hA
                go_simp
              go_big_quiet_op
              refine wpLate_big (some 112) w rfl (.bool false) rfl (by kernel_rfl) (fun wk hwk => ?_) ?_
              · generalize hA : Act.eval _ = ρ
                have s96 : ρ (.tmp 96) = .bool false := by rw [← hA]; kernel_rfl
                have k1 : ρ (.const (.bool true)) = .bool true := by rw [← hA]; kernel_rfl
                have s111 : ρ (.tmp 111) = .bool false := by rw [← hA]; kernel_rfl
                clear hA
                go_simp
              go_big_quiet_op
              refine wpLate_nil (fun w14 hw14 => ?_)
              have H14 : Hid (∃ pw2, TwoD w1 D G pw2 t2 E F qw2 u2 w14) := hw14
              clear hw14
              go_wp2_with fail
              go_roundw
              case rel =>
                obtain ⟨p2, hq⟩ := H14.out
                exact ⟨j + 1, t2, u2, p2, qw2, by omega, by go_num, HTWN.out, hq⟩
              case measure => simp [intOf]; omega
            | some r =>
              obtain ⟨k, rfl, hk⟩ := wr_nat (HTW.out.ui.is_here he).2
              have HPN : Hid (pq = .pointer (some ⟨qw k, 0, none⟩)) := by rw [← HPQ.out]; exact desk_some hk he
              obtain rfl := HPN.out
              clear HPN HPQ
              go_wp2_with fail
              refine (H11.out.writerE k).mono ?_
              rintro e w12 ⟨rfl, hw12⟩
              rw [hw12]
              clear hw12 w12
              cases hf : (tDo u ⟨kind, (k : Int), at_, many, text⟩).2.ws k with
              | none =>
                rw [desk_none hf]
                by_cases hk7 : kind = 7
                · subst hk7
                  have HSX : Hid _ := HST (fun r hr => .inr rfl)
                  clear HST he hf
                  go_wp2_with fail
                  clear c0 c1 c2 c3 c4
                  have HTC2 : Hid (Twin (tDo t ⟨7, (k : Int), at_, many, text⟩).2 (tDo u ⟨7, (k : Int), at_, many, text⟩).2) := HSX.out.2
                  have HCT : Hid ((tDo t ⟨7, (k : Int), at_, many, text⟩).1 = cq) := by have h5 := HSX.out.1; show _ = _; rw [h5]; exact HCQ.out
                  obtain ⟨s2, hs2⟩ : ∃ s2, seenS (tDo u ⟨7, (k : Int), at_, many, text⟩).2 (k : Int) = s2 := ⟨_, rfl⟩
                  have HSD0 : Hid (seenS (tDo u ⟨7, (k : Int), at_, many, text⟩).2 (k : Int) = s2) := hs2
                  have HSC0 : Hid (seenS (tDo t ⟨7, (k : Int), at_, many, text⟩).2 (k : Int) = s2) := by show _ = _; rw [seen_twin HTC2.out]; exact hs2
                  clear hs2
                  obtain ⟨u2, hu2⟩ : ∃ u2, (tDo u ⟨7, (k : Int), at_, many, text⟩).2 = u2 := ⟨_, rfl⟩
                  obtain ⟨t2, ht2⟩ : ∃ t2, (tDo t ⟨7, (k : Int), at_, many, text⟩).2 = t2 := ⟨_, rfl⟩
                  have HSD : Hid (seenS u2 (k : Int) = s2) := by rw [← hu2]; exact HSD0.out
                  have HSC : Hid (seenS t2 (k : Int) = s2) := by rw [← ht2]; exact HSC0.out
                  have HT2 : Hid ((tDo t ⟨7, (k : Int), at_, many, text⟩).2 = t2) := ht2
                  have HTWN : Hid (Twin t2 u2) := by rw [← hu2, ← ht2]; exact HTC2.out
                  have HDO : Hid (TwoD w1 D G pw t E F qw2 u2 w11) := by rw [← hu2]; exact H11.out
                  clear HSC0 HSD0 HTC2 hu2 ht2
                  go_wp2_with fail
                  refine wp_region_lateD (fun wk => ∃ pw t qw u, TwoD w1 D G pw t E F qw u wk) (fun wk => TwoD w1 D G pw t E F qw2 u2 wk) (fun i => i == 5 || i == 8 || i == 15 || i == 22) (fun _ => false) (by kernel_rfl) (by kernel_rfl) (by kernel_rfl) (fun _ h => ⟨_, _, _, _, h⟩) (HDO.out.after (Below.refl _ _).drew) ?_
                  refine wpLate_big (some 88) w rfl (.pointer (some ⟨D, 0, none⟩)) rfl (by kernel_rfl) (fun wk hwk => ?_) ?_
                  · generalize hA : Act.eval _ = ρ
                    have s3 : ρ (.tmp 3) = .pointer (some ⟨D, 0, none⟩) := by rw [← hA]; kernel_rfl
                    clear hA
                    go_simp
                  go_big_quiet_op
                  refine wpLate_big (some 89) w rfl (.slice (some ⟨bb, off, none⟩) xs.length cap) rfl (by kernel_rfl) (fun wk hwk => ?_) ?_
                  · generalize hA : Act.eval _ = ρ
                    have s0 : ρ (.tmp 0) = .slice (some ⟨bb, off, none⟩) xs.length cap := by rw [← hA]; kernel_rfl
                    clear hA
                    go_simp
                  go_big_quiet_op
                  refine wpLate_big (some 90) w rfl (.int .i64 (j : Int)) rfl (by kernel_rfl) (fun wk hwk => ?_) ?_
                  · generalize hA : Act.eval _ = ρ
                    have s5 : ρ (.tmp 5) = .int .i64 (j : Int) := by rw [← hA]; kernel_rfl
                    clear hA
                    go_simp
                  go_big_quiet_op
                  refine wpLate_big (some 91) w rfl (.pointer (some ⟨bb, off + j * 5, none⟩)) rfl (by kernel_rfl) (fun wk hwk => ?_) ?_
                  · generalize hA : Act.eval _ = ρ
                    have s89 : ρ (.tmp 89) = .slice (some ⟨bb, off, none⟩) xs.length cap := by rw [← hA]; kernel_rfl
                    have s90 : ρ (.tmp 90) = .int .i64 (j : Int) := by rw [← hA]; kernel_rfl
                    clear hA
                    have hj2 := hjl
                    go_simp
                  go_big_quiet_op
                  refine wpLate_big (some 92) w rfl (tsV ⟨7, (k : Int), at_, many, text⟩) rfl (by kernel_rfl) (fun wk hwk => ?_) ?_
                  · generalize hA : Act.eval _ = ρ
                    have s91 : ρ (.tmp 91) = .pointer (some ⟨bb, off + j * 5, none⟩) := by rw [← hA]; kernel_rfl
                    clear hA
                    obtain ⟨_, c0, c1, c2, c3, c4⟩ := HC.out wk (by obtain ⟨_, _, _, _, hq⟩ := hwk; exact hq.below)
                    go_simp
                  go_big_quiet_op
                  refine wpLate_bigSpine (some 93) w rfl rfl (by kernel_rfl) (fun u => u = .int .i64 cq) (fun u wk => ∃ pw t qw u, TwoD w1 D G pw t E F qw u wk) (fun u wk => ∃ pw2, TwoD w1 D G pw2 t2 E F qw2 u2 wk) (⟨_, rfl⟩) (fun _ _ h => h) (fun _ _ h => by obtain ⟨p2, h⟩ := h; exact ⟨_, _, _, _, h⟩) (fun wk hwk => ?_) (fun u9 hu9 => ?_)
                  · generalize hA : Act.eval _ = ρ
                    have s88 : ρ (.tmp 88) = .pointer (some ⟨D, 0, none⟩) := by rw [← hA]; kernel_rfl
                    have s92 : ρ (.tmp 92) = tsV ⟨7, (k : Int), at_, many, text⟩ := by rw [← hA]; kernel_rfl
                    have sf : ρ (.func 34) = .func (.func 34) #[] #[] := by rw [← hA]; kernel_rfl
                    clear hA
                    go_simp
                    refine (hwk.doesD ⟨7, (k : Int), at_, many, text⟩).mono ?_
                    rintro e w7 ⟨rfl, pw7, h7⟩
                    exact ⟨_, rfl, by rw [HCT.out], pw7, by rw [← HT2.out]; exact h7⟩
                  subst hu9
                  go_big_quiet_op
                  refine wpLate_big (some 94) w rfl (.int .i64 (cq)) rfl (by kernel_rfl) (fun wk hwk => ?_) ?_
                  · generalize hA : Act.eval _ = ρ
                    have s9 : ρ (.tmp 9) = .int .i64 (cq) := by rw [← hA]; kernel_rfl
                    clear hA
                    go_simp
                  go_big_quiet_op
                  refine wpLate_big (some 95) w rfl (.bool false) rfl (by kernel_rfl) (fun wk hwk => ?_) ?_
                  · generalize hA : Act.eval _ = ρ
                    have s93 : ρ (.tmp 93) = .int .i64 (cq) := by rw [← hA]; kernel_rfl
                    have s94 : ρ (.tmp 94) = .int .i64 (cq) := by rw [← hA]; kernel_rfl
                    clear hA
                    go_simp
                  go_big_quiet_op
                  refine wpLate_bigSpine (some 96) w rfl rfl (by kernel_rfl) (fun u => u = .bool false) (fun u wk => ∃ pw t qw u, TwoD w1 D G pw t E F qw u wk) (fun u wk => ∃ pw2, TwoD w1 D G pw2 t2 E F qw2 u2 wk) (⟨_, rfl⟩) (fun _ _ h => h) (fun _ _ h => by obtain ⟨p2, h⟩ := h; exact ⟨_, _, _, _, h⟩) (fun wk hwk => ?_) (fun u9 hu9 => ?_)
                  · generalize hA : Act.eval _ = ρ
                    have s95 : ρ (.tmp 95) = .bool false := by rw [← hA]; kernel_rfl
                    clear hA
                    go_simp
                    exact ⟨rfl, hwk⟩
                  subst hu9
                  go_big_quiet_op
                  refine wpLate_big (some 97) w rfl (.pointer (some ⟨D, 0, none⟩)) rfl (by kernel_rfl) (fun wk hwk => ?_) ?_
                  · generalize hA : Act.eval _ = ρ
                    have s3 : ρ (.tmp 3) = .pointer (some ⟨D, 0, none⟩) := by rw [← hA]; kernel_rfl
                    clear hA
                    go_simp
                  go_big_quiet_op
                  refine wpLate_big (some 98) w rfl (.slice (some ⟨bb, off, none⟩) xs.length cap) rfl (by kernel_rfl) (fun wk hwk => ?_) ?_
                  · generalize hA : Act.eval _ = ρ
                    have s0 : ρ (.tmp 0) = .slice (some ⟨bb, off, none⟩) xs.length cap := by rw [← hA]; kernel_rfl
                    clear hA
                    go_simp
                  go_big_quiet_op
                  refine wpLate_big (some 99) w rfl (.int .i64 (j : Int)) rfl (by kernel_rfl) (fun wk hwk => ?_) ?_
                  · generalize hA : Act.eval _ = ρ
                    have s5 : ρ (.tmp 5) = .int .i64 (j : Int) := by rw [← hA]; kernel_rfl
                    clear hA
                    go_simp
                  go_big_quiet_op
                  refine wpLate_big (some 100) w rfl (.pointer (some ⟨bb, off + j * 5, none⟩)) rfl (by kernel_rfl) (fun wk hwk => ?_) ?_
                  · generalize hA : Act.eval _ = ρ
                    have s98 : ρ (.tmp 98) = .slice (some ⟨bb, off, none⟩) xs.length cap := by rw [← hA]; kernel_rfl
                    have s99 : ρ (.tmp 99) = .int .i64 (j : Int) := by rw [← hA]; kernel_rfl
                    clear hA
                    have hj2 := hjl
                    go_simp
                  go_big_quiet_op
                  refine wpLate_big (some 101) w rfl (.pointer (some ⟨bb, off + j * 5 + 1, none⟩)) rfl (by kernel_rfl) (fun wk hwk => ?_) ?_
                  · generalize hA : Act.eval _ = ρ
                    have s100 : ρ (.tmp 100) = .pointer (some ⟨bb, off + j * 5, none⟩) := by rw [← hA]; kernel_rfl
                    clear hA
                    go_simp
                  go_big_quiet_op
                  refine wpLate_big (some 102) w rfl (.int .i64 ((k : Int))) rfl (by kernel_rfl) (fun wk hwk => ?_) ?_
                  · generalize hA : Act.eval _ = ρ
                    have s101 : ρ (.tmp 101) = .pointer (some ⟨bb, off + j * 5 + 1, none⟩) := by rw [← hA]; kernel_rfl
                    clear hA
                    obtain ⟨_, _, c1, _⟩ := HC.out wk (by obtain ⟨_, _, _, _, hq⟩ := hwk; exact hq.below)
                    go_simp
                  go_big_quiet_op
                  refine wpLate_bigSpine (some 103) w rfl rfl (by kernel_rfl) (fun u => u = .string s2) (fun u wk => ∃ pw t qw u, TwoD w1 D G pw t E F qw u wk) (fun u wk => ∃ pw2, TwoD w1 D G pw2 t2 E F qw2 u2 wk) (⟨_, rfl⟩) (fun _ _ h => h) (fun _ _ h => by obtain ⟨p2, h⟩ := h; exact ⟨_, _, _, _, h⟩) (fun wk hwk => ?_) (fun u9 hu9 => ?_)
                  · generalize hA : Act.eval _ = ρ
                    have s97 : ρ (.tmp 97) = .pointer (some ⟨D, 0, none⟩) := by rw [← hA]; kernel_rfl
                    have s102 : ρ (.tmp 102) = .int .i64 ((k : Int)) := by rw [← hA]; kernel_rfl
                    have sf : ρ (.func 35) = .func (.func 35) #[] #[] := by rw [← hA]; kernel_rfl
                    clear hA
                    go_simp
                    obtain ⟨p2, hq⟩ := hwk
                    refine (hq.seenD (k : Int)).mono ?_
                    rintro e w7 ⟨rfl, hb⟩
                    exact ⟨_, rfl, by rw [HSC.out], p2, hq.after hb⟩
                  subst hu9
                  go_big_quiet_op
                  refine wpLate_big (some 104) w rfl (.pointer (some ⟨E, 0, none⟩)) rfl (by kernel_rfl) (fun wk hwk => ?_) ?_
                  · generalize hA : Act.eval _ = ρ
                    have s4 : ρ (.tmp 4) = .pointer (some ⟨E, 0, none⟩) := by rw [← hA]; kernel_rfl
                    clear hA
                    go_simp
                  go_big_quiet_op
                  refine wpLate_big (some 105) w rfl (.slice (some ⟨bb, off, none⟩) xs.length cap) rfl (by kernel_rfl) (fun wk hwk => ?_) ?_
                  · generalize hA : Act.eval _ = ρ
                    have s0 : ρ (.tmp 0) = .slice (some ⟨bb, off, none⟩) xs.length cap := by rw [← hA]; kernel_rfl
                    clear hA
                    go_simp
                  go_big_quiet_op
                  refine wpLate_big (some 106) w rfl (.int .i64 (j : Int)) rfl (by kernel_rfl) (fun wk hwk => ?_) ?_
                  · generalize hA : Act.eval _ = ρ
                    have s5 : ρ (.tmp 5) = .int .i64 (j : Int) := by rw [← hA]; kernel_rfl
                    clear hA
                    go_simp
                  go_big_quiet_op
                  refine wpLate_big (some 107) w rfl (.pointer (some ⟨bb, off + j * 5, none⟩)) rfl (by kernel_rfl) (fun wk hwk => ?_) ?_
                  · generalize hA : Act.eval _ = ρ
                    have s105 : ρ (.tmp 105) = .slice (some ⟨bb, off, none⟩) xs.length cap := by rw [← hA]; kernel_rfl
                    have s106 : ρ (.tmp 106) = .int .i64 (j : Int) := by rw [← hA]; kernel_rfl
                    clear hA
                    have hj2 := hjl
                    go_simp
                  go_big_quiet_op
                  refine wpLate_big (some 108) w rfl (.pointer (some ⟨bb, off + j * 5 + 1, none⟩)) rfl (by kernel_rfl) (fun wk hwk => ?_) ?_
                  · generalize hA : Act.eval _ = ρ
                    have s107 : ρ (.tmp 107) = .pointer (some ⟨bb, off + j * 5, none⟩) := by rw [← hA]; kernel_rfl
                    clear hA
                    go_simp
                  go_big_quiet_op
                  refine wpLate_big (some 109) w rfl (.int .i64 ((k : Int))) rfl (by kernel_rfl) (fun wk hwk => ?_) ?_
                  · generalize hA : Act.eval _ = ρ
                    have s108 : ρ (.tmp 108) = .pointer (some ⟨bb, off + j * 5 + 1, none⟩) := by rw [← hA]; kernel_rfl
                    clear hA
                    obtain ⟨_, _, c1, _⟩ := HC.out wk (by obtain ⟨_, _, _, _, hq⟩ := hwk; exact hq.below)
                    go_simp
                  go_big_quiet_op
                  refine wpLate_bigSpine (some 110) w rfl rfl (by kernel_rfl) (fun u => u = .string s2) (fun u wk => ∃ pw t qw u, TwoD w1 D G pw t E F qw u wk) (fun u wk => ∃ pw2, TwoD w1 D G pw2 t2 E F qw2 u2 wk) (⟨_, rfl⟩) (fun _ _ h => h) (fun _ _ h => by obtain ⟨p2, h⟩ := h; exact ⟨_, _, _, _, h⟩) (fun wk hwk => ?_) (fun u9 hu9 => ?_)
                  · generalize hA : Act.eval _ = ρ
                    have s104 : ρ (.tmp 104) = .pointer (some ⟨E, 0, none⟩) := by rw [← hA]; kernel_rfl
                    have s109 : ρ (.tmp 109) = .int .i64 ((k : Int)) := by rw [← hA]; kernel_rfl
                    have sf : ρ (.func 35) = .func (.func 35) #[] #[] := by rw [← hA]; kernel_rfl
                    clear hA
                    go_simp
                    obtain ⟨p2, hq⟩ := hwk
                    refine (hq.seenE (k : Int)).mono ?_
                    rintro e w7 ⟨rfl, hb⟩
                    exact ⟨_, rfl, by rw [HSD.out], p2, hq.after hb⟩
                  subst hu9
                  go_big_quiet_op
                  refine wpLate_big (some 111) w rfl (.bool false) rfl (by kernel_rfl) (fun wk hwk => ?_) ?_
                  · generalize hA : Act.eval _ = ρ
                    have s103 : ρ (.tmp 103) = .string s2 := by rw [← hA]; kernel_rfl
                    have s110 : ρ (.tmp 110) = .string s2 := by rw [← hA]; kernel_rfl
                    clear hA
                    go_simp
                  go_big_quiet_op
                  refine wpLate_big (some 112) w rfl (.bool false) rfl (by kernel_rfl) (fun wk hwk => ?_) ?_
                  · generalize hA : Act.eval _ = ρ
                    have s96 : ρ (.tmp 96) = .bool false := by rw [← hA]; kernel_rfl
                    have k1 : ρ (.const (.bool true)) = .bool true := by rw [← hA]; kernel_rfl
                    have s111 : ρ (.tmp 111) = .bool false := by rw [← hA]; kernel_rfl
                    clear hA
                    go_simp
                  go_big_quiet_op
                  refine wpLate_nil (fun w14 hw14 => ?_)
                  have H14 : Hid (∃ pw2, TwoD w1 D G pw2 t2 E F qw2 u2 w14) := hw14
                  clear hw14
                  go_wp2_with fail
                  go_roundw
                  case rel =>
                    obtain ⟨p2, hq⟩ := H14.out
                    exact ⟨j + 1, t2, u2, p2, qw2, by omega, by go_num, HTWN.out, hq⟩
                  case measure => simp [intOf]; omega
                · have hb7 : (kind != 7) = true := by simp [hk7]
                  clear HST he hf
                  go_wp2_with fail
                  go_ret
                  exact ⟨rfl, below_after HB0.out H11.out.below⟩
              | some r2 =>
                rw [desk_some hk hf]
                have HSX : Hid _ := HST (fun r hr => .inl (by rw [hf]; simp))
                clear HST he hf
                go_wp2_with fail
                clear c0 c1 c2 c3 c4
                have HTC2 : Hid (Twin (tDo t ⟨kind, (k : Int), at_, many, text⟩).2 (tDo u ⟨kind, (k : Int), at_, many, text⟩).2) := HSX.out.2
                have HCT : Hid ((tDo t ⟨kind, (k : Int), at_, many, text⟩).1 = cq) := by have h5 := HSX.out.1; show _ = _; rw [h5]; exact HCQ.out
                obtain ⟨s2, hs2⟩ : ∃ s2, seenS (tDo u ⟨kind, (k : Int), at_, many, text⟩).2 (k : Int) = s2 := ⟨_, rfl⟩
                have HSD0 : Hid (seenS (tDo u ⟨kind, (k : Int), at_, many, text⟩).2 (k : Int) = s2) := hs2
                have HSC0 : Hid (seenS (tDo t ⟨kind, (k : Int), at_, many, text⟩).2 (k : Int) = s2) := by show _ = _; rw [seen_twin HTC2.out]; exact hs2
                clear hs2
                obtain ⟨u2, hu2⟩ : ∃ u2, (tDo u ⟨kind, (k : Int), at_, many, text⟩).2 = u2 := ⟨_, rfl⟩
                obtain ⟨t2, ht2⟩ : ∃ t2, (tDo t ⟨kind, (k : Int), at_, many, text⟩).2 = t2 := ⟨_, rfl⟩
                have HSD : Hid (seenS u2 (k : Int) = s2) := by rw [← hu2]; exact HSD0.out
                have HSC : Hid (seenS t2 (k : Int) = s2) := by rw [← ht2]; exact HSC0.out
                have HT2 : Hid ((tDo t ⟨kind, (k : Int), at_, many, text⟩).2 = t2) := ht2
                have HTWN : Hid (Twin t2 u2) := by rw [← hu2, ← ht2]; exact HTC2.out
                have HDO : Hid (TwoD w1 D G pw t E F qw2 u2 w11) := by rw [← hu2]; exact H11.out
                clear HSC0 HSD0 HTC2 hu2 ht2
                go_wp2_with fail
                refine wp_region_lateD (fun wk => ∃ pw t qw u, TwoD w1 D G pw t E F qw u wk) (fun wk => TwoD w1 D G pw t E F qw2 u2 wk) (fun i => i == 5 || i == 8 || i == 15 || i == 22) (fun _ => false) (by kernel_rfl) (by kernel_rfl) (by kernel_rfl) (fun _ h => ⟨_, _, _, _, h⟩) (HDO.out.after (Below.refl _ _).drew) ?_
                refine wpLate_big (some 88) w rfl (.pointer (some ⟨D, 0, none⟩)) rfl (by kernel_rfl) (fun wk hwk => ?_) ?_
                · generalize hA : Act.eval _ = ρ
                  have s3 : ρ (.tmp 3) = .pointer (some ⟨D, 0, none⟩) := by rw [← hA]; kernel_rfl
                  clear hA
                  go_simp
                go_big_quiet_op
                refine wpLate_big (some 89) w rfl (.slice (some ⟨bb, off, none⟩) xs.length cap) rfl (by kernel_rfl) (fun wk hwk => ?_) ?_
                · generalize hA : Act.eval _ = ρ
                  have s0 : ρ (.tmp 0) = .slice (some ⟨bb, off, none⟩) xs.length cap := by rw [← hA]; kernel_rfl
                  clear hA
                  go_simp
                go_big_quiet_op
                refine wpLate_big (some 90) w rfl (.int .i64 (j : Int)) rfl (by kernel_rfl) (fun wk hwk => ?_) ?_
                · generalize hA : Act.eval _ = ρ
                  have s5 : ρ (.tmp 5) = .int .i64 (j : Int) := by rw [← hA]; kernel_rfl
                  clear hA
                  go_simp
                go_big_quiet_op
                refine wpLate_big (some 91) w rfl (.pointer (some ⟨bb, off + j * 5, none⟩)) rfl (by kernel_rfl) (fun wk hwk => ?_) ?_
                · generalize hA : Act.eval _ = ρ
                  have s89 : ρ (.tmp 89) = .slice (some ⟨bb, off, none⟩) xs.length cap := by rw [← hA]; kernel_rfl
                  have s90 : ρ (.tmp 90) = .int .i64 (j : Int) := by rw [← hA]; kernel_rfl
                  clear hA
                  have hj2 := hjl
                  go_simp
                go_big_quiet_op
                refine wpLate_big (some 92) w rfl (tsV ⟨kind, (k : Int), at_, many, text⟩) rfl (by kernel_rfl) (fun wk hwk => ?_) ?_
                · generalize hA : Act.eval _ = ρ
                  have s91 : ρ (.tmp 91) = .pointer (some ⟨bb, off + j * 5, none⟩) := by rw [← hA]; kernel_rfl
                  clear hA
                  obtain ⟨_, c0, c1, c2, c3, c4⟩ := HC.out wk (by obtain ⟨_, _, _, _, hq⟩ := hwk; exact hq.below)
                  go_simp
                go_big_quiet_op
                refine wpLate_bigSpine (some 93) w rfl rfl (by kernel_rfl) (fun u => u = .int .i64 cq) (fun u wk => ∃ pw t qw u, TwoD w1 D G pw t E F qw u wk) (fun u wk => ∃ pw2, TwoD w1 D G pw2 t2 E F qw2 u2 wk) (⟨_, rfl⟩) (fun _ _ h => h) (fun _ _ h => by obtain ⟨p2, h⟩ := h; exact ⟨_, _, _, _, h⟩) (fun wk hwk => ?_) (fun u9 hu9 => ?_)
                · generalize hA : Act.eval _ = ρ
                  have s88 : ρ (.tmp 88) = .pointer (some ⟨D, 0, none⟩) := by rw [← hA]; kernel_rfl
                  have s92 : ρ (.tmp 92) = tsV ⟨kind, (k : Int), at_, many, text⟩ := by rw [← hA]; kernel_rfl
                  have sf : ρ (.func 34) = .func (.func 34) #[] #[] := by rw [← hA]; kernel_rfl
                  clear hA
                  go_simp
                  refine (hwk.doesD ⟨kind, (k : Int), at_, many, text⟩).mono ?_
                  rintro e w7 ⟨rfl, pw7, h7⟩
                  exact ⟨_, rfl, by rw [HCT.out], pw7, by rw [← HT2.out]; exact h7⟩
                subst hu9
                go_big_quiet_op
                refine wpLate_big (some 94) w rfl (.int .i64 (cq)) rfl (by kernel_rfl) (fun wk hwk => ?_) ?_
                · generalize hA : Act.eval _ = ρ
                  have s9 : ρ (.tmp 9) = .int .i64 (cq) := by rw [← hA]; kernel_rfl
                  clear hA
                  go_simp
                go_big_quiet_op
                refine wpLate_big (some 95) w rfl (.bool false) rfl (by kernel_rfl) (fun wk hwk => ?_) ?_
                · generalize hA : Act.eval _ = ρ
                  have s93 : ρ (.tmp 93) = .int .i64 (cq) := by rw [← hA]; kernel_rfl
                  have s94 : ρ (.tmp 94) = .int .i64 (cq) := by rw [← hA]; kernel_rfl
                  clear hA
                  go_simp
                go_big_quiet_op
                refine wpLate_bigSpine (some 96) w rfl rfl (by kernel_rfl) (fun u => u = .bool false) (fun u wk => ∃ pw t qw u, TwoD w1 D G pw t E F qw u wk) (fun u wk => ∃ pw2, TwoD w1 D G pw2 t2 E F qw2 u2 wk) (⟨_, rfl⟩) (fun _ _ h => h) (fun _ _ h => by obtain ⟨p2, h⟩ := h; exact ⟨_, _, _, _, h⟩) (fun wk hwk => ?_) (fun u9 hu9 => ?_)
                · generalize hA : Act.eval _ = ρ
                  have s95 : ρ (.tmp 95) = .bool false := by rw [← hA]; kernel_rfl
                  clear hA
                  go_simp
                  exact ⟨rfl, hwk⟩
                subst hu9
                go_big_quiet_op
                refine wpLate_big (some 97) w rfl (.pointer (some ⟨D, 0, none⟩)) rfl (by kernel_rfl) (fun wk hwk => ?_) ?_
                · generalize hA : Act.eval _ = ρ
                  have s3 : ρ (.tmp 3) = .pointer (some ⟨D, 0, none⟩) := by rw [← hA]; kernel_rfl
                  clear hA
                  go_simp
                go_big_quiet_op
                refine wpLate_big (some 98) w rfl (.slice (some ⟨bb, off, none⟩) xs.length cap) rfl (by kernel_rfl) (fun wk hwk => ?_) ?_
                · generalize hA : Act.eval _ = ρ
                  have s0 : ρ (.tmp 0) = .slice (some ⟨bb, off, none⟩) xs.length cap := by rw [← hA]; kernel_rfl
                  clear hA
                  go_simp
                go_big_quiet_op
                refine wpLate_big (some 99) w rfl (.int .i64 (j : Int)) rfl (by kernel_rfl) (fun wk hwk => ?_) ?_
                · generalize hA : Act.eval _ = ρ
                  have s5 : ρ (.tmp 5) = .int .i64 (j : Int) := by rw [← hA]; kernel_rfl
                  clear hA
                  go_simp
                go_big_quiet_op
                refine wpLate_big (some 100) w rfl (.pointer (some ⟨bb, off + j * 5, none⟩)) rfl (by kernel_rfl) (fun wk hwk => ?_) ?_
                · generalize hA : Act.eval _ = ρ
                  have s98 : ρ (.tmp 98) = .slice (some ⟨bb, off, none⟩) xs.length cap := by rw [← hA]; kernel_rfl
                  have s99 : ρ (.tmp 99) = .int .i64 (j : Int) := by rw [← hA]; kernel_rfl
                  clear hA
                  have hj2 := hjl
                  go_simp
                go_big_quiet_op
                refine wpLate_big (some 101) w rfl (.pointer (some ⟨bb, off + j * 5 + 1, none⟩)) rfl (by kernel_rfl) (fun wk hwk => ?_) ?_
                · generalize hA : Act.eval _ = ρ
                  have s100 : ρ (.tmp 100) = .pointer (some ⟨bb, off + j * 5, none⟩) := by rw [← hA]; kernel_rfl
                  clear hA
                  go_simp
                go_big_quiet_op
                refine wpLate_big (some 102) w rfl (.int .i64 ((k : Int))) rfl (by kernel_rfl) (fun wk hwk => ?_) ?_
                · generalize hA : Act.eval _ = ρ
                  have s101 : ρ (.tmp 101) = .pointer (some ⟨bb, off + j * 5 + 1, none⟩) := by rw [← hA]; kernel_rfl
                  clear hA
                  obtain ⟨_, _, c1, _⟩ := HC.out wk (by obtain ⟨_, _, _, _, hq⟩ := hwk; exact hq.below)
                  go_simp
                go_big_quiet_op
                refine wpLate_bigSpine (some 103) w rfl rfl (by kernel_rfl) (fun u => u = .string s2) (fun u wk => ∃ pw t qw u, TwoD w1 D G pw t E F qw u wk) (fun u wk => ∃ pw2, TwoD w1 D G pw2 t2 E F qw2 u2 wk) (⟨_, rfl⟩) (fun _ _ h => h) (fun _ _ h => by obtain ⟨p2, h⟩ := h; exact ⟨_, _, _, _, h⟩) (fun wk hwk => ?_) (fun u9 hu9 => ?_)
                · generalize hA : Act.eval _ = ρ
                  have s97 : ρ (.tmp 97) = .pointer (some ⟨D, 0, none⟩) := by rw [← hA]; kernel_rfl
                  have s102 : ρ (.tmp 102) = .int .i64 ((k : Int)) := by rw [← hA]; kernel_rfl
                  have sf : ρ (.func 35) = .func (.func 35) #[] #[] := by rw [← hA]; kernel_rfl
                  clear hA
                  go_simp
                  obtain ⟨p2, hq⟩ := hwk
                  refine (hq.seenD (k : Int)).mono ?_
                  rintro e w7 ⟨rfl, hb⟩
                  exact ⟨_, rfl, by rw [HSC.out], p2, hq.after hb⟩
                subst hu9
                go_big_quiet_op
                refine wpLate_big (some 104) w rfl (.pointer (some ⟨E, 0, none⟩)) rfl (by kernel_rfl) (fun wk hwk => ?_) ?_
                · generalize hA : Act.eval _ = ρ
                  have s4 : ρ (.tmp 4) = .pointer (some ⟨E, 0, none⟩) := by rw [← hA]; kernel_rfl
                  clear hA
                  go_simp
                go_big_quiet_op
                refine wpLate_big (some 105) w rfl (.slice (some ⟨bb, off, none⟩) xs.length cap) rfl (by kernel_rfl) (fun wk hwk => ?_) ?_
                · generalize hA : Act.eval _ = ρ
                  have s0 : ρ (.tmp 0) = .slice (some ⟨bb, off, none⟩) xs.length cap := by rw [← hA]; kernel_rfl
                  clear hA
                  go_simp
                go_big_quiet_op
                refine wpLate_big (some 106) w rfl (.int .i64 (j : Int)) rfl (by kernel_rfl) (fun wk hwk => ?_) ?_
                · generalize hA : Act.eval _ = ρ
                  have s5 : ρ (.tmp 5) = .int .i64 (j : Int) := by rw [← hA]; kernel_rfl
                  clear hA
                  go_simp
                go_big_quiet_op
                refine wpLate_big (some 107) w rfl (.pointer (some ⟨bb, off + j * 5, none⟩)) rfl (by kernel_rfl) (fun wk hwk => ?_) ?_
                · generalize hA : Act.eval _ = ρ
                  have s105 : ρ (.tmp 105) = .slice (some ⟨bb, off, none⟩) xs.length cap := by rw [← hA]; kernel_rfl
                  have s106 : ρ (.tmp 106) = .int .i64 (j : Int) := by rw [← hA]; kernel_rfl
                  clear hA
                  have hj2 := hjl
                  go_simp
                go_big_quiet_op
                refine wpLate_big (some 108) w rfl (.pointer (some ⟨bb, off + j * 5 + 1, none⟩)) rfl (by kernel_rfl) (fun wk hwk => ?_) ?_
                · generalize hA : Act.eval _ = ρ
                  have s107 : ρ (.tmp 107) = .pointer (some ⟨bb, off + j * 5, none⟩) := by rw [← hA]; kernel_rfl
                  clear hA
                  go_simp
                go_big_quiet_op
                refine wpLate_big (some 109) w rfl (.int .i64 ((k : Int))) rfl (by kernel_rfl) (fun wk hwk => ?_) ?_
                · generalize hA : Act.eval _ = ρ
                  have s108 : ρ (.tmp 108) = .pointer (some ⟨bb, off + j * 5 + 1, none⟩) := by rw [← hA]; kernel_rfl
                  clear hA
                  obtain ⟨_, _, c1, _⟩ := HC.out wk (by obtain ⟨_, _, _, _, hq⟩ := hwk; exact hq.below)
                  go_simp
                go_big_quiet_op
                refine wpLate_bigSpine (some 110) w rfl rfl (by kernel_rfl) (fun u => u = .string s2) (fun u wk => ∃ pw t qw u, TwoD w1 D G pw t E F qw u wk) (fun u wk => ∃ pw2, TwoD w1 D G pw2 t2 E F qw2 u2 wk) (⟨_, rfl⟩) (fun _ _ h => h) (fun _ _ h => by obtain ⟨p2, h⟩ := h; exact ⟨_, _, _, _, h⟩) (fun wk hwk => ?_) (fun u9 hu9 => ?_)
                · generalize hA : Act.eval _ = ρ
                  have s104 : ρ (.tmp 104) = .pointer (some ⟨E, 0, none⟩) := by rw [← hA]; kernel_rfl
                  have s109 : ρ (.tmp 109) = .int .i64 ((k : Int)) := by rw [← hA]; kernel_rfl
                  have sf : ρ (.func 35) = .func (.func 35) #[] #[] := by rw [← hA]; kernel_rfl
                  clear hA
                  go_simp
                  obtain ⟨p2, hq⟩ := hwk
                  refine (hq.seenE (k : Int)).mono ?_
                  rintro e w7 ⟨rfl, hb⟩
                  exact ⟨_, rfl, by rw [HSD.out], p2, hq.after hb⟩
                subst hu9
                go_big_quiet_op
                refine wpLate_big (some 111) w rfl (.bool false) rfl (by kernel_rfl) (fun wk hwk => ?_) ?_
                · generalize hA : Act.eval _ = ρ
                  have s103 : ρ (.tmp 103) = .string s2 := by rw [← hA]; kernel_rfl
                  have s110 : ρ (.tmp 110) = .string s2 := by rw [← hA]; kernel_rfl
                  clear hA
                  go_simp
                go_big_quiet_op
                refine wpLate_big (some 112) w rfl (.bool false) rfl (by kernel_rfl) (fun wk hwk => ?_) ?_
                · generalize hA : Act.eval _ = ρ
                  have s96 : ρ (.tmp 96) = .bool false := by rw [← hA]; kernel_rfl
                  have k1 : ρ (.const (.bool true)) = .bool true := by rw [← hA]; kernel_rfl
                  have s111 : ρ (.tmp 111) = .bool false := by rw [← hA]; kernel_rfl
                  clear hA
                  go_simp
                go_big_quiet_op
                refine wpLate_nil (fun w14 hw14 => ?_)
                have H14 : Hid (∃ pw2, TwoD w1 D G pw2 t2 E F qw2 u2 w14) := hw14
                clear hw14
                go_wp2_with fail
                go_roundw
                case rel =>
                  obtain ⟨p2, hq⟩ := H14.out
                  exact ⟨j + 1, t2, u2, p2, qw2, by omega, by go_num, HTWN.out, hq⟩
                case measure => simp [intOf]; omega
      · have HSM : Hid (t.b.ds = u.b.ds) := by show _ = _; rw [HTW.out.same]
        have HSL : Hid (t.b.ds.length ≤ 120) := HTW.out.ti.good.small
        obtain ⟨s1, hs1⟩ : ∃ s1, strOfNums (textL u.b.chars) = s1 := ⟨_, rfl⟩
        have HTB : Hid (strOfNums (textL u.b.chars) = s1) := hs1
        have HTA : Hid (strOfNums (textL t.b.chars) = s1) := by show _ = _; rw [HTW.out.same]; exact hs1
        clear hs1
        go_wp2_with fail
        refine wp_region_late (fun wk => TwoD w1 D G pw t E F qw u wk) (fun i => i == 1 || i == 3 || i == 4 || i == 5 || i == 10 || i == 15) (fun _ => false) (by kernel_rfl) (by kernel_rfl) (by kernel_rfl) (HW.out.after (Below.refl _ _).drew) ?_
        refine wpLate_big (some 113) w rfl (.pointer (some ⟨D, 0, none⟩)) rfl (by kernel_rfl) (fun wk hwk => ?_) ?_
        · generalize hA : Act.eval _ = ρ
          have s3 : ρ (.tmp 3) = .pointer (some ⟨D, 0, none⟩) := by rw [← hA]; kernel_rfl
          clear hA
          go_simp
        go_big_quiet_op
        refine wpLate_bigSpine (some 114) w rfl rfl (by kernel_rfl) (fun _ => True) (fun _ wk => TwoD w1 D G pw t E F qw u wk) (fun v0 wk => TwoL w1 D G pw t E F qw u v0 (.slice none 0 0) (t.b.ds) ([]) wk) (⟨.int .i64 0, trivial⟩) (fun _ _ h => h) (fun _ _ h => h.two) (fun wk hwk => ?_) (fun v1 _ => ?_)
        · generalize hA : Act.eval _ = ρ
          have s113 : ρ (.tmp 113) = .pointer (some ⟨D, 0, none⟩) := by rw [← hA]; kernel_rfl
          have sf : ρ (.func 36) = .func (.func 36) #[] #[] := by rw [← hA]; kernel_rfl
          clear hA
          go_simp
          obtain ⟨T, h1, _⟩ := hwk.fst
          refine (deedsOf_any h1).mono ?_
          rintro e w7 ⟨v7, rfl, hl7, hb⟩
          exact ⟨_, rfl, hwk.after hb, hl7, DLst.nilT _⟩
        go_big_quiet_op
        refine wpLate_big (some 115) w rfl (.pointer (some ⟨E, 0, none⟩)) rfl (by kernel_rfl) (fun wk hwk => ?_) ?_
        · generalize hA : Act.eval _ = ρ
          have s4 : ρ (.tmp 4) = .pointer (some ⟨E, 0, none⟩) := by rw [← hA]; kernel_rfl
          clear hA
          go_simp
        go_big_quiet_op
        refine wpLate_bigSpine (some 116) w rfl rfl (by kernel_rfl) (fun _ => True) (fun _ wk => TwoD w1 D G pw t E F qw u wk) (fun v0 wk => TwoL w1 D G pw t E F qw u v1 v0 (t.b.ds) (t.b.ds) wk) (⟨.int .i64 0, trivial⟩) (fun _ _ h => h) (fun _ _ h => h.two) (fun wk hwk => ?_) (fun v2 _ => ?_)
        · generalize hA : Act.eval _ = ρ
          have s115 : ρ (.tmp 115) = .pointer (some ⟨E, 0, none⟩) := by rw [← hA]; kernel_rfl
          have sf : ρ (.func 36) = .func (.func 36) #[] #[] := by rw [← hA]; kernel_rfl
          clear hA
          go_simp
          obtain ⟨T, h1, _⟩ := hwk.two.snd
          refine (deedsOf_any h1).mono ?_
          rintro e w7 ⟨v7, rfl, hl7, hb⟩
          rw [← HSM.out] at hl7
          exact ⟨_, rfl, hwk.two.after hb, hwk.a1.below hb, hl7⟩
        go_big_quiet_op
        refine wpLate_bigSpine (some 117) w rfl rfl (by kernel_rfl) (fun u => u = .bool true) (fun _ wk => TwoD w1 D G pw t E F qw u wk) (fun _ wk => TwoD w1 D G pw t E F qw u wk) (⟨_, rfl⟩) (fun _ _ h => h) (fun _ _ h => h) (fun wk hwk => ?_) (fun u9 hu9 => ?_)
        · generalize hA : Act.eval _ = ρ
          have s114 : ρ (.tmp 114) = v1 := by rw [← hA]; kernel_rfl
          have s116 : ρ (.tmp 116) = v2 := by rw [← hA]; kernel_rfl
          have sf : ρ (.func 20) = .func (.func 20) #[] #[] := by rw [← hA]; kernel_rfl
          clear hA
          go_simp
          refine (sameDeeds_eqT hwk.a1 hwk.a2 (by have := HSL.out; omega)).mono ?_
          rintro e w7 ⟨rfl, hb⟩
          exact ⟨_, rfl, rfl, hwk.two.after hb⟩
        subst hu9
        go_big_quiet_op
        refine wpLate_bigSpine (some 118) w rfl rfl (by kernel_rfl) (fun u => u = .bool true) (fun _ wk => TwoD w1 D G pw t E F qw u wk) (fun _ wk => TwoD w1 D G pw t E F qw u wk) (⟨_, rfl⟩) (fun _ _ h => h) (fun _ _ h => h) (fun wk hwk => ?_) (fun u9 hu9 => ?_)
        · generalize hA : Act.eval _ = ρ
          have s117 : ρ (.tmp 117) = .bool true := by rw [← hA]; kernel_rfl
          clear hA
          go_simp
          exact ⟨rfl, hwk⟩
        subst hu9
        go_big_quiet_op
        refine wpLate_big (some 119) w rfl (.pointer (some ⟨D, 0, none⟩)) rfl (by kernel_rfl) (fun wk hwk => ?_) ?_
        · generalize hA : Act.eval _ = ρ
          have s3 : ρ (.tmp 3) = .pointer (some ⟨D, 0, none⟩) := by rw [← hA]; kernel_rfl
          clear hA
          go_simp
        go_big_quiet_op
        refine wpLate_big (some 120) w rfl (.pointer (some ⟨D, 0, none⟩)) rfl (by kernel_rfl) (fun wk hwk => ?_) ?_
        · generalize hA : Act.eval _ = ρ
          have s119 : ρ (.tmp 119) = .pointer (some ⟨D, 0, none⟩) := by rw [← hA]; kernel_rfl
          clear hA
          go_simp
        go_big_quiet_op
        refine wpLate_big (some 121) w rfl (.pointer (some ⟨D, 0, none⟩)) rfl (by kernel_rfl) (fun wk hwk => ?_) ?_
        · generalize hA : Act.eval _ = ρ
          have s120 : ρ (.tmp 120) = .pointer (some ⟨D, 0, none⟩) := by rw [← hA]; kernel_rfl
          clear hA
          go_simp
        go_big_quiet_op
        refine wpLate_big (some 122) w rfl (.pointer (some ⟨G, 0, none⟩)) rfl (by kernel_rfl) (fun wk hwk => ?_) ?_
        · generalize hA : Act.eval _ = ρ
          have s121 : ρ (.tmp 121) = .pointer (some ⟨D, 0, none⟩) := by rw [← hA]; kernel_rfl
          clear hA
          obtain ⟨T, h1, _⟩ := hwk.fst
          have g0 := h1.cells.book
          have hlt := h1.cells.lt
          go_simp
        go_big_quiet_op
        refine wpLate_bigSpine (some 123) w rfl rfl (by kernel_rfl) (fun u => u = .string s1) (fun _ wk => TwoD w1 D G pw t E F qw u wk) (fun _ wk => TwoD w1 D G pw t E F qw u wk) (⟨_, rfl⟩) (fun _ _ h => h) (fun _ _ h => h) (fun wk hwk => ?_) (fun u9 hu9 => ?_)
        · generalize hA : Act.eval _ = ρ
          have s122 : ρ (.tmp 122) = .pointer (some ⟨G, 0, none⟩) := by rw [← hA]; kernel_rfl
          have sf : ρ (.func 31) = .func (.func 31) #[] #[] := by rw [← hA]; kernel_rfl
          clear hA
          go_simp
          obtain ⟨T, h1, _⟩ := hwk.fst
          refine h1.text.mono ?_
          rintro e w7 ⟨rfl, hb⟩
          exact ⟨_, rfl, by rw [HTA.out], hwk.after hb⟩
        subst hu9
        go_big_quiet_op
        refine wpLate_big (some 124) w rfl (.pointer (some ⟨E, 0, none⟩)) rfl (by kernel_rfl) (fun wk hwk => ?_) ?_
        · generalize hA : Act.eval _ = ρ
          have s4 : ρ (.tmp 4) = .pointer (some ⟨E, 0, none⟩) := by rw [← hA]; kernel_rfl
          clear hA
          go_simp
        go_big_quiet_op
        refine wpLate_big (some 125) w rfl (.pointer (some ⟨E, 0, none⟩)) rfl (by kernel_rfl) (fun wk hwk => ?_) ?_
        · generalize hA : Act.eval _ = ρ
          have s124 : ρ (.tmp 124) = .pointer (some ⟨E, 0, none⟩) := by rw [← hA]; kernel_rfl
          clear hA
          go_simp
        go_big_quiet_op
        refine wpLate_big (some 126) w rfl (.pointer (some ⟨E, 0, none⟩)) rfl (by kernel_rfl) (fun wk hwk => ?_) ?_
        · generalize hA : Act.eval _ = ρ
          have s125 : ρ (.tmp 125) = .pointer (some ⟨E, 0, none⟩) := by rw [← hA]; kernel_rfl
          clear hA
          go_simp
        go_big_quiet_op
        refine wpLate_big (some 127) w rfl (.pointer (some ⟨F, 0, none⟩)) rfl (by kernel_rfl) (fun wk hwk => ?_) ?_
        · generalize hA : Act.eval _ = ρ
          have s126 : ρ (.tmp 126) = .pointer (some ⟨E, 0, none⟩) := by rw [← hA]; kernel_rfl
          clear hA
          obtain ⟨T, h1, _⟩ := hwk.snd
          have g0 := h1.cells.book
          have hlt := h1.cells.lt
          go_simp
        go_big_quiet_op
        refine wpLate_bigSpine (some 128) w rfl rfl (by kernel_rfl) (fun u => u = .string s1) (fun _ wk => TwoD w1 D G pw t E F qw u wk) (fun _ wk => TwoD w1 D G pw t E F qw u wk) (⟨_, rfl⟩) (fun _ _ h => h) (fun _ _ h => h) (fun wk hwk => ?_) (fun u9 hu9 => ?_)
        · generalize hA : Act.eval _ = ρ
          have s127 : ρ (.tmp 127) = .pointer (some ⟨F, 0, none⟩) := by rw [← hA]; kernel_rfl
          have sf : ρ (.func 31) = .func (.func 31) #[] #[] := by rw [← hA]; kernel_rfl
          clear hA
          go_simp
          obtain ⟨T, h1, _⟩ := hwk.snd
          refine h1.text.mono ?_
          rintro e w7 ⟨rfl, hb⟩
          exact ⟨_, rfl, by rw [HTB.out], hwk.after hb⟩
        subst hu9
        go_big_quiet_op
        refine wpLate_big (some 129) w rfl (.bool true) rfl (by kernel_rfl) (fun wk hwk => ?_) ?_
        · generalize hA : Act.eval _ = ρ
          have s123 : ρ (.tmp 123) = .string s1 := by rw [← hA]; kernel_rfl
          have s128 : ρ (.tmp 128) = .string s1 := by rw [← hA]; kernel_rfl
          clear hA
          go_simp
        go_big_quiet_op
        refine wpLate_big (some 130) w rfl (.bool true) rfl (by kernel_rfl) (fun wk hwk => ?_) ?_
        · generalize hA : Act.eval _ = ρ
          have s118 : ρ (.tmp 118) = .bool true := by rw [← hA]; kernel_rfl
          have s129 : ρ (.tmp 129) = .bool true := by rw [← hA]; kernel_rfl
          have k2 : ρ (.const (.bool false)) = .bool false := by rw [← hA]; kernel_rfl
          clear hA
          go_simp
        go_big_quiet_op
        refine wpLate_big (some 2) w rfl (.bool true) rfl (by kernel_rfl) (fun wk hwk => ?_) ?_
        · generalize hA : Act.eval _ = ρ
          have s130 : ρ (.tmp 130) = .bool true := by rw [← hA]; kernel_rfl
          clear hA
          go_simp
        go_big_quiet_op
        refine wpLate_nil (fun w9 hw9 => ?_)
        have H9 : Hid (TwoD w1 D G pw t E F qw u w9) := hw9
        clear hw9
        go_wp2_with fail
        go_ret
        exact ⟨rfl, below_after HB0.out H9.out.below⟩
  · go_wp2
    go_ret
    exact ⟨rfl, HB0.out⟩

theorem law_desksclear (w : World) {v : Value} {xs : List Tst} (h : TLst w v xs) :
    Calls Try.prog 7 #[v] w fun e w' => e = .returned (.bool true) ∧ Below w.heap.size w w' := desksClear_any v xs w h

end Go.Proofs.Ytnabhdfodckpdac
