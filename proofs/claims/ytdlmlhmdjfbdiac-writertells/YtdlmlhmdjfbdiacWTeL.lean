/-
  The law WriterTells: what a writer sends are its deeds by their numbers, and the log takes each.
-/
import Derived.Test.YtdlmlhmdjfbdiacWTeR
namespace Go.Proofs.Ytdlmlhmdjfbdiac
open Go Go.RowKit

set_option maxRecDepth 20000 in
set_option maxHeartbeats 6400000 in
theorem writerTells_any (v : Value) (xs : List RStep) (w : World) (h : RLst w v xs) :
    Calls Try.prog 4 #[v] w fun e w' => e = .returned (.bool true) ∧ Below w.heap.size w w' := by
  have HD : Hid (RLst w v xs) := h
  obtain ⟨a, cap, rfl⟩ := h.len
  clear h
  go_enter Try.func4, Try.ntmps4
  go_wp2_with fail
  refine (wbegun_any _).mono ?_
  rintro e w1 ⟨rfl, hb1⟩
  have HB1 : Hid (Below w.heap.size w w1) := hb1
  clear hb1
  go_wp2_with fail
  refine (greatR_any _ xs _ (HD.out.below HB1.out)).mono ?_
  rintro e w2 ⟨gr, rfl, hgr, rfl⟩
  cases gr
  · have hl := hgr rfl
    clear hgr
    go_wp2_with fail
    refine (newRoom_any _).mono ?_
    rintro e w3 ⟨rfl, hw3⟩
    have HR0 : Hid (RR w (w2.heap.size + 1) w2.heap.size false rm0 w3) := by show RR _ _ _ _ _ _; rw [hw3]; exact rr_start HB1.out false
    clear HB1 hw3
    generalize w2.heap.size + 1 = R at *
    generalize w2.heap.size = G at *
    have HT0 : Hid (RT w R G w3.heap.size (w3.heap.size + 1) rm0 (fun _ => 0) (fun _ => 0) ((w3.alloc (.cells fourZ 48)).alloc (.cells fourZ 48))) := rt_start HR0.out _ _
    clear HR0
    go_wp2
    generalize World.alloc _ _ = w4 at *
    generalize w3.heap.size + 1 = S at *
    generalize w3.heap.size = D at *
    go_loopw [6] (fun i wr => ∃ (j : Nat) (m : Rm) (dn st : Nat → Int), j ≤ xs.length ∧ i = .int .i64 j ∧ Hid (RT w R G D S m dn st wr)) (fun i _ => xs.length - (intOf i).toNat)
    case atStart => exact ⟨0, rm0, _, _, Nat.zero_le _, rfl, HT0⟩
    case round =>
      obtain ⟨j, m, dn, st, hj, rfl, HR⟩ := hrel
      clear HT0
      by_cases hlt : j < xs.length
      · have hkl : j < xs.length := hlt
        obtain ⟨bb, off, rfl, hr⟩ := (HD.out.below HR.out.below).row (by omega)
        obtain ⟨_, c0, c1, c2, c3, c4⟩ := hr.at_ j hkl
        generalize xs[j] = x at *
        obtain ⟨pw, sc, hrm⟩ := HR.out.room
        have HI : Hid (TQ wr w.heap.size R G D S wr.heap.size pw sc m x dn st [] (wr.alloc (.cells (rsCells x) 28))) := tq_start HR.out hrm x
        obtain ⟨xdo, xw, xat, xmany, xtext⟩ := x
        simp only at c0 c1 c2 c3 c4
        clear hr hrm
        go_upto_region 11 with fail
        clear c0 c1 c2 c3 c4
        generalize World.alloc _ _ = w5 at *
        have g0 := HI.out.room.cells.log
        go_wp2_with fail
        obtain ⟨Sl, dv, lv, hlg, _⟩ := HI.out.room.log
        refine (len_lg hlg).mono ?_
        rintro e w6 ⟨rfl, hw6⟩
        rw [hw6]
        clear hw6 w6 hlg
        go_wp2_with fail
        clear g0
        obtain ⟨_, c0, c1, c2, c3, c4⟩ := HI.out.step
        simp only [Nat.zero_add] at c0 c1 c2 c3 c4
        by_cases hw : wrB xw = true
        · have HW : Hid (∀ wk, Calls Try.prog 9 #[.int .i64 xw] wk fun e w' => e = .returned (.bool true) ∧ w' = wk) := fun wk => by
            have h1 := isWriter_any xw wk
            rw [hw] at h1
            exact h1
          obtain ⟨k, hxk, hk⟩ := wr_nat hw
          subst hxk
          have hk4 : (k : Int) < 4 := by omega
          have g1' := HI.out.room.cells.wr k hk
          cases hp : m.p k with
          | none =>
            have hps : (m.p k).isSome = false := by rw [hp]; rfl
            have HP : Hid (m.p k = none) := hp
            simp only [hps, ptrOf, Bool.false_eq_true, if_false] at g1'
            clear hp
            go_quiet ((go_at_call 9; exact Calls.quiet_of_same (HW.out _)))
            have HI6 : Hid (TQ wr w.heap.size R G D S wr.heap.size pw sc m ⟨xdo, k, xat, xmany, xtext⟩ dn st [] (w5.drewN nq)) := HI.out.after (below_drewN (Below.refl _ _) nq)
            go_wp2_with fail
            generalize w5.drewN nq = w6 at *
            clear HI c0 c1 c2 c3 c4
            clear g1'
            obtain ⟨_, c0, c1, c2, c3, c4⟩ := HI6.out.step
            simp only [Nat.zero_add] at c0 c1 c2 c3 c4
            go_wp2_with fail
            refine (HI6.out.stepped HR.out.inv ⟨xdo, k, xat, xmany, xtext⟩).mono ?_
            rintro e w7 ⟨rfl, hst, hbl⟩
            have HBL : Hid (Below w.heap.size w w7) := HR.out.below.trans hbl
            have HS7 : Hid (overRm m ⟨xdo, k, xat, xmany, xtext⟩ = false → ∃ pw' sc', TQ wr w.heap.size R G D S wr.heap.size pw' sc' (stepRm false m ⟨xdo, k, xat, xmany, xtext⟩) ⟨xdo, k, xat, xmany, xtext⟩ dn st [] w7 ∧ RmI false (stepRm false m ⟨xdo, k, xat, xmany, xtext⟩)) := hst
            clear hst hbl c0 c1 c2 c3 c4
            obtain ⟨over, hov⟩ : ∃ o, overRm m ⟨xdo, k, xat, xmany, xtext⟩ = o := ⟨_, rfl⟩
            rw [hov]
            have HOV : Hid (overRm m ⟨xdo, k, xat, xmany, xtext⟩ = over) := hov
            clear hov
            cases over
            · obtain ⟨pw', sc', h7, hi7⟩ := HS7.out HOV.out
              have HI7 : Hid (RmI false (stepRm false m ⟨xdo, k, xat, xmany, xtext⟩)) := hi7
              have H7 : Hid (TQ wr w.heap.size R G D S wr.heap.size pw' sc' (stepRm false m ⟨xdo, k, xat, xmany, xtext⟩) ⟨xdo, k, xat, xmany, xtext⟩ dn st [] w7) := h7
              clear HS7 h7 hi7 HI6
              by_cases hd0 : xdo = 0
              · subst hd0
                obtain ⟨j1, j2, j3⟩ := tl_join (bare := false) (x := ⟨0, k, xat, xmany, xtext⟩) hk rfl HP.out rfl HR.out.tt
                have HDS : Hid ((stepRm false m ⟨0, k, xat, xmany, xtext⟩).b.ds = m.b.ds) := j2
                have HTT : Hid (TT (stepRm false m ⟨0, k, xat, xmany, xtext⟩) dn st) := j3
                have hps' : ((stepRm false m ⟨0, k, xat, xmany, xtext⟩).p k).isSome = true := j1
                clear j1 j2 j3 HOV
                generalize stepRm false m ⟨0, k, xat, xmany, xtext⟩ = m' at *
                obtain ⟨_, c0, c1, c2, c3, c4⟩ := H7.out.step
                simp only [Nat.zero_add] at c0 c1 c2 c3 c4
                have g1' := H7.out.room.cells.wr k hk
                simp only [hps', ptrOf, if_true] at g1'
                go_wp2_with fail
                go_quiet ((go_at_call 9; exact Calls.quiet_of_same (HW.out _)))
                have H8 : Hid (TQ wr w.heap.size R G D S wr.heap.size pw' sc' m' ⟨0, k, xat, xmany, xtext⟩ dn st [] (w7.drewN nq)) := H7.out.after (below_drewN (Below.refl _ _) nq)
                generalize w7.drewN nq = w8 at *
                clear H7 c0 c1 c2 c3 c4
                clear g1'
                have g0 := H8.out.room.cells.log
                go_wp2_with fail
                obtain ⟨Sl, dv, lv, hlg, _⟩ := H8.out.room.log
                have hln := len_lg hlg
                rw [HDS.out] at hln
                refine hln.mono ?_
                rintro e w9 ⟨rfl, hw9⟩
                rw [hw9]
                clear hw9 w9 hlg hln g0
                go_wp2_with fail
                go_roundw
                case rel => exact ⟨j + 1, m', dn, st, by omega, by go_num, rt_of HR.out.below H8.out HI7.out HTT.out⟩
                case measure => simp [intOf]; omega
              · have hst : stepRm false m ⟨xdo, k, xat, xmany, xtext⟩ = m := tl_none hk rfl HP.out hd0
                have HDS : Hid ((stepRm false m ⟨xdo, k, xat, xmany, xtext⟩).b.ds = m.b.ds) := by show _ = _; rw [hst]
                have HTT : Hid (TT (stepRm false m ⟨xdo, k, xat, xmany, xtext⟩) dn st) := by show TT _ _ _; rw [hst]; exact HR.out.tt
                have hps' : ((stepRm false m ⟨xdo, k, xat, xmany, xtext⟩).p k).isSome = false := by rw [hst, HP.out]; rfl
                clear hst HOV
                generalize stepRm false m ⟨xdo, k, xat, xmany, xtext⟩ = m' at *
                obtain ⟨_, c0, c1, c2, c3, c4⟩ := H7.out.step
                simp only [Nat.zero_add] at c0 c1 c2 c3 c4
                have g1' := H7.out.room.cells.wr k hk
                simp only [hps', ptrOf, Bool.false_eq_true, if_false] at g1'
                go_wp2_with fail
                go_quiet ((go_at_call 9; exact Calls.quiet_of_same (HW.out _)))
                have H8 : Hid (TQ wr w.heap.size R G D S wr.heap.size pw' sc' m' ⟨xdo, k, xat, xmany, xtext⟩ dn st [] (w7.drewN nq)) := H7.out.after (below_drewN (Below.refl _ _) nq)
                generalize w7.drewN nq = w8 at *
                clear H7 c0 c1 c2 c3 c4
                clear g1'
                have g0 := H8.out.room.cells.log
                go_wp2_with fail
                obtain ⟨Sl, dv, lv, hlg, _⟩ := H8.out.room.log
                have hln := len_lg hlg
                rw [HDS.out] at hln
                refine hln.mono ?_
                rintro e w9 ⟨rfl, hw9⟩
                rw [hw9]
                clear hw9 w9 hlg hln g0
                go_wp2_with fail
                go_roundw
                case rel => exact ⟨j + 1, m', dn, st, by omega, by go_num, rt_of HR.out.below H8.out HI7.out HTT.out⟩
                case measure => simp [intOf]; omega
            · go_wp2_with fail
              go_ret
              exact ⟨rfl, HBL.out⟩
          | some q =>
            obtain ⟨r, ts⟩ := q
            have hps : (m.p k).isSome = true := by rw [hp]; rfl
            have HP : Hid (m.p k = some (r, ts)) := hp
            have HO : Hid (WOk r ts) := rmi_wok HR.out.inv hk hp
            simp only [hps, ptrOf, if_true] at g1'
            clear hp
            go_quiet ((go_at_call 9; exact Calls.quiet_of_same (HW.out _)))
            have HI6 : Hid (TQ wr w.heap.size R G D S wr.heap.size pw sc m ⟨xdo, k, xat, xmany, xtext⟩ dn st [] (w5.drewN nq)) := HI.out.after (below_drewN (Below.refl _ _) nq)
            go_wp2_with fail
            generalize w5.drewN nq = w6 at *
            clear HI c0 c1 c2 c3 c4
            clear g1'
            refine wp_region_grow (fun wk => TQ wr w.heap.size R G D S wr.heap.size pw sc m ⟨xdo, k, xat, xmany, xtext⟩ dn st [] wk) (fun i => i == 7) (fun wk => TQ wr w.heap.size R G D S wr.heap.size pw sc m ⟨xdo, k, xat, xmany, xtext⟩ dn st [] wk) (by kernel_rfl) (by kernel_rfl) (by kernel_rfl) (fun _ h => h) (TQ.shut) (HI6.out.after (Below.refl _ _).drew) ?_
            refine wpGrow_big (some 47) w rfl (.pointer (some ⟨R, 0, none⟩)) rfl (by kernel_rfl) (fun wk hwk => ?_) ?_
            · refine growUpon_same ?_
              generalize hA : Act.eval _ = ρ
              have s3 : ρ (.tmp 3) = .pointer (some ⟨R, 0, none⟩) := by rw [← hA]; kernel_rfl
              clear hA
              go_simp
            go_big_quiet_op
            refine wpGrow_big (some 48) w rfl (.pointer (some ⟨wr.heap.size, 1, none⟩)) rfl (by kernel_rfl) (fun wk hwk => ?_) ?_
            · refine growUpon_same ?_
              generalize hA : Act.eval _ = ρ
              have s7 : ρ (.tmp 7) = .pointer (some ⟨wr.heap.size, 0, none⟩) := by rw [← hA]; kernel_rfl
              clear hA
              go_simp
            go_big_quiet_op
            refine wpGrow_big (some 49) w rfl (.int .i64 (k : Int)) rfl (by kernel_rfl) (fun wk hwk => ?_) ?_
            · refine growUpon_same ?_
              generalize hA : Act.eval _ = ρ
              have s48 : ρ (.tmp 48) = .pointer (some ⟨wr.heap.size, 1, none⟩) := by rw [← hA]; kernel_rfl
              clear hA
              have c1 := hwk.step.c1
              simp only [Nat.zero_add] at c1
              go_simp
            go_big_quiet_op
            refine wpGrow_big (some 50) w rfl (.pointer (some ⟨R, 0, none⟩)) rfl (by kernel_rfl) (fun wk hwk => ?_) ?_
            · refine growUpon_same ?_
              generalize hA : Act.eval _ = ρ
              have s47 : ρ (.tmp 47) = .pointer (some ⟨R, 0, none⟩) := by rw [← hA]; kernel_rfl
              clear hA
              go_simp
            go_big_quiet_op
            refine wpGrow_big (some 51) w rfl (.pointer (some ⟨R, 1, none⟩)) rfl (by kernel_rfl) (fun wk hwk => ?_) ?_
            · refine growUpon_same ?_
              generalize hA : Act.eval _ = ρ
              have s50 : ρ (.tmp 50) = .pointer (some ⟨R, 0, none⟩) := by rw [← hA]; kernel_rfl
              clear hA
              go_simp
            go_big_quiet_op
            refine wpGrow_big (some 52) w rfl (.pointer (some ⟨R, 1 + k, none⟩)) rfl (by kernel_rfl) (fun wk hwk => ?_) ?_
            · refine growUpon_same ?_
              generalize hA : Act.eval _ = ρ
              have s51 : ρ (.tmp 51) = .pointer (some ⟨R, 1, none⟩) := by rw [← hA]; kernel_rfl
              have s49 : ρ (.tmp 49) = .int .i64 (k : Int) := by rw [← hA]; kernel_rfl
              clear hA
              go_simp
            go_big_quiet_op
            refine wpGrow_big (some 53) w rfl (.pointer (some ⟨pw k, 0, none⟩)) rfl (by kernel_rfl) (fun wk hwk => ?_) ?_
            · refine growUpon_same ?_
              generalize hA : Act.eval _ = ρ
              have s52 : ρ (.tmp 52) = .pointer (some ⟨R, 1 + k, none⟩) := by rw [← hA]; kernel_rfl
              clear hA
              have g1 := hwk.room.cells.wr k hk
              simp only [hps, ptrOf, if_true] at g1
              go_simp
            go_big_quiet_op
            refine wpGrow_bigSpine (some 54) w rfl rfl rfl (fun u => ∃ a c, u = .slice a r.opens.length c) (fun u wk => TQ wr w.heap.size R G D S wr.heap.size pw sc m ⟨xdo, k, xat, xmany, xtext⟩ dn st [] wk) (⟨.slice none r.opens.length 0, none, 0, rfl⟩) (fun _ _ h => h) (fun _ _ _ h hb => h.after hb) (fun wk hwk => ?_) (fun u7 hu7 => ?_)
            · generalize hA : Act.eval _ = ρ
              have s53 : ρ (.tmp 53) = .pointer (some ⟨pw k, 0, none⟩) := by rw [← hA]; kernel_rfl
              have sf : ρ (.func 13) = .func (.func 13) #[] #[] := by rw [← hA]; kernel_rfl
              clear hA
              obtain ⟨Sw, lv, ov, tvs, hp, _⟩ := hwk.room.wr hk HP.out
              go_simp
              refine (open_pw hp (by have := HO.out.few; omega)).mono ?_
              rintro e w7 ⟨v7, rfl, ho, hb⟩
              obtain ⟨a7, c7, rfl⟩ := OwnD.len ho
              exact ⟨_, rfl, ⟨a7, c7, rfl⟩, hwk.after hb⟩
            obtain ⟨na, nc, rfl⟩ := hu7
            go_big_quiet_op
            refine wpGrow_big (some 55) w rfl (.int .i64 (r.opens.length : Int)) rfl (by kernel_rfl) (fun wk hwk => ?_) ?_
            · refine growUpon_same ?_
              generalize hA : Act.eval _ = ρ
              have s54 : ρ (.tmp 54) = .slice na r.opens.length nc := by rw [← hA]; kernel_rfl
              clear hA
              go_simp
            go_big_quiet_op
            refine wpGrow_big (some 9) w rfl (.int .i64 (r.opens.length : Int)) rfl (by kernel_rfl) (fun wk hwk => ?_) ?_
            · refine growUpon_same ?_
              generalize hA : Act.eval _ = ρ
              have s55 : ρ (.tmp 55) = .int .i64 (r.opens.length : Int) := by rw [← hA]; kernel_rfl
              clear hA
              go_simp
            go_big_quiet_op
            refine wpGrow_nil (fun wa hwa => ?_)
            have HA : Hid (TQ wr w.heap.size R G D S wr.heap.size pw sc m ⟨xdo, k, xat, xmany, xtext⟩ dn st [] wa) := hwa
            clear hwa HI6
            obtain ⟨_, c0, c1, c2, c3, c4⟩ := HA.out.step
            simp only [Nat.zero_add] at c0 c1 c2 c3 c4
            go_wp2_with fail
            refine (HA.out.stepped HR.out.inv ⟨xdo, k, xat, xmany, xtext⟩).mono ?_
            rintro e w7 ⟨rfl, hst, hbl⟩
            have HBL : Hid (Below w.heap.size w w7) := HR.out.below.trans hbl
            have HS7 : Hid (overRm m ⟨xdo, k, xat, xmany, xtext⟩ = false → ∃ pw' sc', TQ wr w.heap.size R G D S wr.heap.size pw' sc' (stepRm false m ⟨xdo, k, xat, xmany, xtext⟩) ⟨xdo, k, xat, xmany, xtext⟩ dn st [] w7 ∧ RmI false (stepRm false m ⟨xdo, k, xat, xmany, xtext⟩)) := hst
            clear hst hbl c0 c1 c2 c3 c4
            obtain ⟨over, hov⟩ : ∃ o, overRm m ⟨xdo, k, xat, xmany, xtext⟩ = o := ⟨_, rfl⟩
            rw [hov]
            have HOV : Hid (overRm m ⟨xdo, k, xat, xmany, xtext⟩ = over) := hov
            clear hov
            cases over
            · obtain ⟨pw', sc', h7, hi7⟩ := HS7.out HOV.out
              have HI7 : Hid (RmI false (stepRm false m ⟨xdo, k, xat, xmany, xtext⟩)) := hi7
              have H7 : Hid (TQ wr w.heap.size R G D S wr.heap.size pw' sc' (stepRm false m ⟨xdo, k, xat, xmany, xtext⟩) ⟨xdo, k, xat, xmany, xtext⟩ dn st [] w7) := h7
              clear HS7 h7 hi7 HA
              by_cases hd1 : xdo = 1
              · subst hd1
                obtain ⟨r', ts', j1, j2, j3⟩ := tl_does (bare := false) (x := ⟨1, k, xat, xmany, xtext⟩) hk rfl HP.out (.inl rfl) HR.out.tt
                have HDS : Hid ((stepRm false m ⟨1, k, xat, xmany, xtext⟩).b.ds = m.b.ds) := j2
                have HTT : Hid (TT (stepRm false m ⟨1, k, xat, xmany, xtext⟩) (setI dn k (dn k + ((r'.opens.length : Int) - r.opens.length))) st) := j3
                have HP' : Hid ((stepRm false m ⟨1, k, xat, xmany, xtext⟩).p k = some (r', ts')) := j1
                have HO' : Hid (WOk r' ts') := rmi_wok HI7.out hk j1
                have hps' : ((stepRm false m ⟨1, k, xat, xmany, xtext⟩).p k).isSome = true := by rw [j1]; rfl
                have HDN : Hid (0 ≤ dn k ∧ dn k ≤ 120) := by
                  have h1 := HR.out.tt.dn k hk
                  have h2 : nxN m k = r.next - 1 := by unfold nxN; rw [HP.out]
                  have h3 := HO.out.n1
                  have h4 := HO.out.n2
                  show _ ∧ _
                  omega
                clear j1 j2 j3 HOV
                generalize stepRm false m ⟨1, k, xat, xmany, xtext⟩ = m' at *
                obtain ⟨_, c0, c1, c2, c3, c4⟩ := H7.out.step
                simp only [Nat.zero_add] at c0 c1 c2 c3 c4
                have g1' := H7.out.room.cells.wr k hk
                simp only [hps', ptrOf, if_true] at g1'
                go_wp2_with fail
                go_quiet ((go_at_call 9; exact Calls.quiet_of_same (HW.out _)))
                have H8 : Hid (TQ wr w.heap.size R G D S wr.heap.size pw' sc' m' ⟨1, k, xat, xmany, xtext⟩ dn st [] (w7.drewN nq)) := H7.out.after (below_drewN (Below.refl _ _) nq)
                go_wp2_with fail
                generalize w7.drewN nq = w8 at *
                clear H7 c0 c1 c2 c3 c4 g1'
                refine wp_region_fin (fun wk => TQ wr w.heap.size R G D S wr.heap.size pw' sc' m' ⟨1, k, xat, xmany, xtext⟩ dn st [] wk) (fun i => i == 11 || i == 17) (fun i => i == 17) (fun wk => TQ wr w.heap.size R G D S wr.heap.size pw' sc' m' ⟨1, k, xat, xmany, xtext⟩ dn st [] wk) (by kernel_rfl) (by kernel_rfl) (by kernel_rfl) (by kernel_rfl) (fun _ h => h) (H8.out.after (Below.refl _ _).drew) ?_
                refine wpFin_big (some 91) w rfl (.pointer (some ⟨wr.heap.size, 1, none⟩)) rfl (by kernel_rfl) (fun wk hwk => ?_) ?_
                · generalize hA : Act.eval _ = ρ
                  have s7 : ρ (.tmp 7) = .pointer (some ⟨wr.heap.size, 0, none⟩) := by rw [← hA]; kernel_rfl
                  clear hA
                  go_simp
                go_big_quiet_op
                refine wpFin_big (some 92) w rfl (.int .i64 (k : Int)) rfl (by kernel_rfl) (fun wk hwk => ?_) ?_
                · generalize hA : Act.eval _ = ρ
                  have s91 : ρ (.tmp 91) = .pointer (some ⟨wr.heap.size, 1, none⟩) := by rw [← hA]; kernel_rfl
                  clear hA
                  have c1 := hwk.step.c1
                  simp only [Nat.zero_add] at c1
                  go_simp
                go_big_quiet_op
                refine wpFin_big (some 93) w rfl (.pointer (some ⟨D, k, none⟩)) rfl (by kernel_rfl) (fun wk hwk => ?_) ?_
                · generalize hA : Act.eval _ = ρ
                  have s4 : ρ (.tmp 4) = .pointer (some ⟨D, 0, none⟩) := by rw [← hA]; kernel_rfl
                  have s92 : ρ (.tmp 92) = .int .i64 (k : Int) := by rw [← hA]; kernel_rfl
                  clear hA
                  go_simp
                go_big_quiet_op
                refine wpFin_big (some 94) w rfl (.int .i64 (dn k)) rfl (by kernel_rfl) (fun wk hwk => ?_) ?_
                · generalize hA : Act.eval _ = ρ
                  have s93 : ρ (.tmp 93) = .pointer (some ⟨D, k, none⟩) := by rw [← hA]; kernel_rfl
                  clear hA
                  have g3 := hwk.dn.at_ k hk
                  go_simp
                go_big_quiet_op
                refine wpFin_big (some 95) w rfl (.pointer (some ⟨R, 0, none⟩)) rfl (by kernel_rfl) (fun wk hwk => ?_) ?_
                · generalize hA : Act.eval _ = ρ
                  have s3 : ρ (.tmp 3) = .pointer (some ⟨R, 0, none⟩) := by rw [← hA]; kernel_rfl
                  clear hA
                  go_simp
                go_big_quiet_op
                refine wpFin_big (some 96) w rfl (.pointer (some ⟨wr.heap.size, 1, none⟩)) rfl (by kernel_rfl) (fun wk hwk => ?_) ?_
                · generalize hA : Act.eval _ = ρ
                  have s7 : ρ (.tmp 7) = .pointer (some ⟨wr.heap.size, 0, none⟩) := by rw [← hA]; kernel_rfl
                  clear hA
                  go_simp
                go_big_quiet_op
                refine wpFin_big (some 97) w rfl (.int .i64 (k : Int)) rfl (by kernel_rfl) (fun wk hwk => ?_) ?_
                · generalize hA : Act.eval _ = ρ
                  have s96 : ρ (.tmp 96) = .pointer (some ⟨wr.heap.size, 1, none⟩) := by rw [← hA]; kernel_rfl
                  clear hA
                  have c1 := hwk.step.c1
                  simp only [Nat.zero_add] at c1
                  go_simp
                go_big_quiet_op
                refine wpFin_big (some 98) w rfl (.pointer (some ⟨R, 0, none⟩)) rfl (by kernel_rfl) (fun wk hwk => ?_) ?_
                · generalize hA : Act.eval _ = ρ
                  have s95 : ρ (.tmp 95) = .pointer (some ⟨R, 0, none⟩) := by rw [← hA]; kernel_rfl
                  clear hA
                  go_simp
                go_big_quiet_op
                refine wpFin_big (some 99) w rfl (.pointer (some ⟨R, 1, none⟩)) rfl (by kernel_rfl) (fun wk hwk => ?_) ?_
                · generalize hA : Act.eval _ = ρ
                  have s98 : ρ (.tmp 98) = .pointer (some ⟨R, 0, none⟩) := by rw [← hA]; kernel_rfl
                  clear hA
                  go_simp
                go_big_quiet_op
                refine wpFin_big (some 100) w rfl (.pointer (some ⟨R, 1 + k, none⟩)) rfl (by kernel_rfl) (fun wk hwk => ?_) ?_
                · generalize hA : Act.eval _ = ρ
                  have s99 : ρ (.tmp 99) = .pointer (some ⟨R, 1, none⟩) := by rw [← hA]; kernel_rfl
                  have s97 : ρ (.tmp 97) = .int .i64 (k : Int) := by rw [← hA]; kernel_rfl
                  clear hA
                  go_simp
                go_big_quiet_op
                refine wpFin_big (some 101) w rfl (.pointer (some ⟨pw' k, 0, none⟩)) rfl (by kernel_rfl) (fun wk hwk => ?_) ?_
                · generalize hA : Act.eval _ = ρ
                  have s100 : ρ (.tmp 100) = .pointer (some ⟨R, 1 + k, none⟩) := by rw [← hA]; kernel_rfl
                  clear hA
                  have g1 := hwk.room.cells.wr k hk
                  simp only [hps', ptrOf, if_true] at g1
                  go_simp
                go_big_quiet_op
                refine wpFin_bigSpine (some 102) w rfl rfl rfl (fun u => ∃ a c, u = .slice a r'.opens.length c) (fun u wk => TQ wr w.heap.size R G D S wr.heap.size pw' sc' m' ⟨1, k, xat, xmany, xtext⟩ dn st [] wk) (⟨.slice none r'.opens.length 0, none, 0, rfl⟩) (fun _ _ h => h) (fun wk hwk => ?_) (fun u9 hu9 => ?_)
                · generalize hA : Act.eval _ = ρ
                  have s101 : ρ (.tmp 101) = .pointer (some ⟨pw' k, 0, none⟩) := by rw [← hA]; kernel_rfl
                  have sf : ρ (.func 13) = .func (.func 13) #[] #[] := by rw [← hA]; kernel_rfl
                  clear hA
                  obtain ⟨Sw, lv, ov, tvs, hp, _⟩ := hwk.room.wr hk HP'.out
                  go_simp
                  refine (open_pw hp (by have := HO'.out.few; omega)).mono ?_
                  rintro e w7 ⟨v7, rfl, ho, hb⟩
                  obtain ⟨a7, c7, rfl⟩ := OwnD.len ho
                  exact ⟨_, rfl, ⟨a7, c7, rfl⟩, hwk.after hb⟩
                obtain ⟨na', nc', rfl⟩ := hu9
                go_big_quiet_op
                refine wpFin_big (some 103) w rfl (.int .i64 (r'.opens.length : Int)) rfl (by kernel_rfl) (fun wk hwk => ?_) ?_
                · generalize hA : Act.eval _ = ρ
                  have s102 : ρ (.tmp 102) = .slice na' r'.opens.length nc' := by rw [← hA]; kernel_rfl
                  clear hA
                  go_simp
                go_big_quiet_op
                refine wpFin_big (some 104) w rfl (.int .i64 (r.opens.length : Int)) rfl (by kernel_rfl) (fun wk hwk => ?_) ?_
                · generalize hA : Act.eval _ = ρ
                  have s9 : ρ (.tmp 9) = .int .i64 (r.opens.length : Int) := by rw [← hA]; kernel_rfl
                  clear hA
                  go_simp
                go_big_quiet_op
                refine wpFin_big (some 105) w rfl (.int .i64 ((r'.opens.length : Int) - r.opens.length)) rfl (by kernel_rfl) (fun wk hwk => ?_) ?_
                · generalize hA : Act.eval _ = ρ
                  have s103 : ρ (.tmp 103) = .int .i64 (r'.opens.length : Int) := by rw [← hA]; kernel_rfl
                  have s104 : ρ (.tmp 104) = .int .i64 (r.opens.length : Int) := by rw [← hA]; kernel_rfl
                  clear hA
                  have hf1 := HO.out.few
                  have hf2 := HO'.out.few
                  go_simp
                  rw [wrapEq]
                  unfold wrap64
                  omega
                go_big_quiet_op
                refine wpFin_big (some 106) w rfl (.int .i64 (dn k + ((r'.opens.length : Int) - r.opens.length))) rfl (by kernel_rfl) (fun wk hwk => ?_) ?_
                · generalize hA : Act.eval _ = ρ
                  have s94 : ρ (.tmp 94) = .int .i64 (dn k) := by rw [← hA]; kernel_rfl
                  have s105 : ρ (.tmp 105) = .int .i64 ((r'.opens.length : Int) - r.opens.length) := by rw [← hA]; kernel_rfl
                  clear hA
                  have hf1 := HO.out.few
                  have hf2 := HO'.out.few
                  have hf3 := HDN.out
                  go_simp
                  rw [wrapEq]
                  unfold wrap64
                  omega
                go_big_quiet_op
                refine wpFin_big (some 107) w rfl (.pointer (some ⟨D, k, none⟩)) rfl (by kernel_rfl) (fun wk hwk => ?_) ?_
                · generalize hA : Act.eval _ = ρ
                  have s4 : ρ (.tmp 4) = .pointer (some ⟨D, 0, none⟩) := by rw [← hA]; kernel_rfl
                  have s92 : ρ (.tmp 92) = .int .i64 (k : Int) := by rw [← hA]; kernel_rfl
                  clear hA
                  go_simp
                go_big_quiet_op
                refine wpFin_bigLast rfl rfl rfl rfl (fun wk => TQ wr w.heap.size R G D S wr.heap.size pw' sc' m' ⟨1, k, xat, xmany, xtext⟩ (setI dn k (dn k + ((r'.opens.length : Int) - r.opens.length))) st [] wk) (fun wk hwk => ?_) ?_
                · generalize hA : Act.eval _ = ρ
                  have s107 : ρ (.tmp 107) = .pointer (some ⟨D, k, none⟩) := by rw [← hA]; kernel_rfl
                  have s106 : ρ (.tmp 106) = .int .i64 (dn k + ((r'.opens.length : Int) - r.opens.length)) := by rw [← hA]; kernel_rfl
                  clear hA
                  have g3 := hwk.dn.at_ k hk
                  have g4 := hwk.dn.free k hk
                  have hq := hwk.putD hk (dn k + ((r'.opens.length : Int) - r.opens.length))
                  go_simp
                  exact hq
                refine wpFin_nil (fun wb hwb => ?_)
                have HB : Hid (TQ wr w.heap.size R G D S wr.heap.size pw' sc' m' ⟨1, k, xat, xmany, xtext⟩ (setI dn k (dn k + ((r'.opens.length : Int) - r.opens.length))) st [] wb) := hwb
                clear hwb H8
                have g0 := HB.out.room.cells.log
                go_wp2_with fail
                obtain ⟨Sl, dv, lv, hlg, _⟩ := HB.out.room.log
                have hln := len_lg hlg
                rw [HDS.out] at hln
                refine hln.mono ?_
                rintro e w9 ⟨rfl, hw9⟩
                rw [hw9]
                clear hw9 w9 hlg hln g0
                go_wp2_with fail
                go_roundw
                case rel => exact ⟨j + 1, m', (setI dn k (dn k + ((r'.opens.length : Int) - r.opens.length))), st, by omega, by go_num, rt_of HR.out.below HB.out HI7.out HTT.out⟩
                case measure => simp [intOf]; omega
              · by_cases hd2 : xdo = 2
                · subst hd2
                  obtain ⟨r', ts', j1, j2, j3⟩ := tl_does (bare := false) (x := ⟨2, k, xat, xmany, xtext⟩) hk rfl HP.out (.inr rfl) HR.out.tt
                  have HDS : Hid ((stepRm false m ⟨2, k, xat, xmany, xtext⟩).b.ds = m.b.ds) := j2
                  have HTT : Hid (TT (stepRm false m ⟨2, k, xat, xmany, xtext⟩) (setI dn k (dn k + ((r'.opens.length : Int) - r.opens.length))) st) := j3
                  have HP' : Hid ((stepRm false m ⟨2, k, xat, xmany, xtext⟩).p k = some (r', ts')) := j1
                  have HO' : Hid (WOk r' ts') := rmi_wok HI7.out hk j1
                  have hps' : ((stepRm false m ⟨2, k, xat, xmany, xtext⟩).p k).isSome = true := by rw [j1]; rfl
                  have HDN : Hid (0 ≤ dn k ∧ dn k ≤ 120) := by
                    have h1 := HR.out.tt.dn k hk
                    have h2 : nxN m k = r.next - 1 := by unfold nxN; rw [HP.out]
                    have h3 := HO.out.n1
                    have h4 := HO.out.n2
                    show _ ∧ _
                    omega
                  clear j1 j2 j3 HOV
                  generalize stepRm false m ⟨2, k, xat, xmany, xtext⟩ = m' at *
                  obtain ⟨_, c0, c1, c2, c3, c4⟩ := H7.out.step
                  simp only [Nat.zero_add] at c0 c1 c2 c3 c4
                  have g1' := H7.out.room.cells.wr k hk
                  simp only [hps', ptrOf, if_true] at g1'
                  go_wp2_with fail
                  go_quiet ((go_at_call 9; exact Calls.quiet_of_same (HW.out _)))
                  have H8 : Hid (TQ wr w.heap.size R G D S wr.heap.size pw' sc' m' ⟨2, k, xat, xmany, xtext⟩ dn st [] (w7.drewN nq)) := H7.out.after (below_drewN (Below.refl _ _) nq)
                  go_wp2_with fail
                  generalize w7.drewN nq = w8 at *
                  clear H7 c0 c1 c2 c3 c4 g1'
                  refine wp_region_fin (fun wk => TQ wr w.heap.size R G D S wr.heap.size pw' sc' m' ⟨2, k, xat, xmany, xtext⟩ dn st [] wk) (fun i => i == 11 || i == 17) (fun i => i == 17) (fun wk => TQ wr w.heap.size R G D S wr.heap.size pw' sc' m' ⟨2, k, xat, xmany, xtext⟩ dn st [] wk) (by kernel_rfl) (by kernel_rfl) (by kernel_rfl) (by kernel_rfl) (fun _ h => h) (H8.out.after (Below.refl _ _).drew) ?_
                  refine wpFin_big (some 91) w rfl (.pointer (some ⟨wr.heap.size, 1, none⟩)) rfl (by kernel_rfl) (fun wk hwk => ?_) ?_
                  · generalize hA : Act.eval _ = ρ
                    have s7 : ρ (.tmp 7) = .pointer (some ⟨wr.heap.size, 0, none⟩) := by rw [← hA]; kernel_rfl
                    clear hA
                    go_simp
                  go_big_quiet_op
                  refine wpFin_big (some 92) w rfl (.int .i64 (k : Int)) rfl (by kernel_rfl) (fun wk hwk => ?_) ?_
                  · generalize hA : Act.eval _ = ρ
                    have s91 : ρ (.tmp 91) = .pointer (some ⟨wr.heap.size, 1, none⟩) := by rw [← hA]; kernel_rfl
                    clear hA
                    have c1 := hwk.step.c1
                    simp only [Nat.zero_add] at c1
                    go_simp
                  go_big_quiet_op
                  refine wpFin_big (some 93) w rfl (.pointer (some ⟨D, k, none⟩)) rfl (by kernel_rfl) (fun wk hwk => ?_) ?_
                  · generalize hA : Act.eval _ = ρ
                    have s4 : ρ (.tmp 4) = .pointer (some ⟨D, 0, none⟩) := by rw [← hA]; kernel_rfl
                    have s92 : ρ (.tmp 92) = .int .i64 (k : Int) := by rw [← hA]; kernel_rfl
                    clear hA
                    go_simp
                  go_big_quiet_op
                  refine wpFin_big (some 94) w rfl (.int .i64 (dn k)) rfl (by kernel_rfl) (fun wk hwk => ?_) ?_
                  · generalize hA : Act.eval _ = ρ
                    have s93 : ρ (.tmp 93) = .pointer (some ⟨D, k, none⟩) := by rw [← hA]; kernel_rfl
                    clear hA
                    have g3 := hwk.dn.at_ k hk
                    go_simp
                  go_big_quiet_op
                  refine wpFin_big (some 95) w rfl (.pointer (some ⟨R, 0, none⟩)) rfl (by kernel_rfl) (fun wk hwk => ?_) ?_
                  · generalize hA : Act.eval _ = ρ
                    have s3 : ρ (.tmp 3) = .pointer (some ⟨R, 0, none⟩) := by rw [← hA]; kernel_rfl
                    clear hA
                    go_simp
                  go_big_quiet_op
                  refine wpFin_big (some 96) w rfl (.pointer (some ⟨wr.heap.size, 1, none⟩)) rfl (by kernel_rfl) (fun wk hwk => ?_) ?_
                  · generalize hA : Act.eval _ = ρ
                    have s7 : ρ (.tmp 7) = .pointer (some ⟨wr.heap.size, 0, none⟩) := by rw [← hA]; kernel_rfl
                    clear hA
                    go_simp
                  go_big_quiet_op
                  refine wpFin_big (some 97) w rfl (.int .i64 (k : Int)) rfl (by kernel_rfl) (fun wk hwk => ?_) ?_
                  · generalize hA : Act.eval _ = ρ
                    have s96 : ρ (.tmp 96) = .pointer (some ⟨wr.heap.size, 1, none⟩) := by rw [← hA]; kernel_rfl
                    clear hA
                    have c1 := hwk.step.c1
                    simp only [Nat.zero_add] at c1
                    go_simp
                  go_big_quiet_op
                  refine wpFin_big (some 98) w rfl (.pointer (some ⟨R, 0, none⟩)) rfl (by kernel_rfl) (fun wk hwk => ?_) ?_
                  · generalize hA : Act.eval _ = ρ
                    have s95 : ρ (.tmp 95) = .pointer (some ⟨R, 0, none⟩) := by rw [← hA]; kernel_rfl
                    clear hA
                    go_simp
                  go_big_quiet_op
                  refine wpFin_big (some 99) w rfl (.pointer (some ⟨R, 1, none⟩)) rfl (by kernel_rfl) (fun wk hwk => ?_) ?_
                  · generalize hA : Act.eval _ = ρ
                    have s98 : ρ (.tmp 98) = .pointer (some ⟨R, 0, none⟩) := by rw [← hA]; kernel_rfl
                    clear hA
                    go_simp
                  go_big_quiet_op
                  refine wpFin_big (some 100) w rfl (.pointer (some ⟨R, 1 + k, none⟩)) rfl (by kernel_rfl) (fun wk hwk => ?_) ?_
                  · generalize hA : Act.eval _ = ρ
                    have s99 : ρ (.tmp 99) = .pointer (some ⟨R, 1, none⟩) := by rw [← hA]; kernel_rfl
                    have s97 : ρ (.tmp 97) = .int .i64 (k : Int) := by rw [← hA]; kernel_rfl
                    clear hA
                    go_simp
                  go_big_quiet_op
                  refine wpFin_big (some 101) w rfl (.pointer (some ⟨pw' k, 0, none⟩)) rfl (by kernel_rfl) (fun wk hwk => ?_) ?_
                  · generalize hA : Act.eval _ = ρ
                    have s100 : ρ (.tmp 100) = .pointer (some ⟨R, 1 + k, none⟩) := by rw [← hA]; kernel_rfl
                    clear hA
                    have g1 := hwk.room.cells.wr k hk
                    simp only [hps', ptrOf, if_true] at g1
                    go_simp
                  go_big_quiet_op
                  refine wpFin_bigSpine (some 102) w rfl rfl rfl (fun u => ∃ a c, u = .slice a r'.opens.length c) (fun u wk => TQ wr w.heap.size R G D S wr.heap.size pw' sc' m' ⟨2, k, xat, xmany, xtext⟩ dn st [] wk) (⟨.slice none r'.opens.length 0, none, 0, rfl⟩) (fun _ _ h => h) (fun wk hwk => ?_) (fun u9 hu9 => ?_)
                  · generalize hA : Act.eval _ = ρ
                    have s101 : ρ (.tmp 101) = .pointer (some ⟨pw' k, 0, none⟩) := by rw [← hA]; kernel_rfl
                    have sf : ρ (.func 13) = .func (.func 13) #[] #[] := by rw [← hA]; kernel_rfl
                    clear hA
                    obtain ⟨Sw, lv, ov, tvs, hp, _⟩ := hwk.room.wr hk HP'.out
                    go_simp
                    refine (open_pw hp (by have := HO'.out.few; omega)).mono ?_
                    rintro e w7 ⟨v7, rfl, ho, hb⟩
                    obtain ⟨a7, c7, rfl⟩ := OwnD.len ho
                    exact ⟨_, rfl, ⟨a7, c7, rfl⟩, hwk.after hb⟩
                  obtain ⟨na', nc', rfl⟩ := hu9
                  go_big_quiet_op
                  refine wpFin_big (some 103) w rfl (.int .i64 (r'.opens.length : Int)) rfl (by kernel_rfl) (fun wk hwk => ?_) ?_
                  · generalize hA : Act.eval _ = ρ
                    have s102 : ρ (.tmp 102) = .slice na' r'.opens.length nc' := by rw [← hA]; kernel_rfl
                    clear hA
                    go_simp
                  go_big_quiet_op
                  refine wpFin_big (some 104) w rfl (.int .i64 (r.opens.length : Int)) rfl (by kernel_rfl) (fun wk hwk => ?_) ?_
                  · generalize hA : Act.eval _ = ρ
                    have s9 : ρ (.tmp 9) = .int .i64 (r.opens.length : Int) := by rw [← hA]; kernel_rfl
                    clear hA
                    go_simp
                  go_big_quiet_op
                  refine wpFin_big (some 105) w rfl (.int .i64 ((r'.opens.length : Int) - r.opens.length)) rfl (by kernel_rfl) (fun wk hwk => ?_) ?_
                  · generalize hA : Act.eval _ = ρ
                    have s103 : ρ (.tmp 103) = .int .i64 (r'.opens.length : Int) := by rw [← hA]; kernel_rfl
                    have s104 : ρ (.tmp 104) = .int .i64 (r.opens.length : Int) := by rw [← hA]; kernel_rfl
                    clear hA
                    have hf1 := HO.out.few
                    have hf2 := HO'.out.few
                    go_simp
                    rw [wrapEq]
                    unfold wrap64
                    omega
                  go_big_quiet_op
                  refine wpFin_big (some 106) w rfl (.int .i64 (dn k + ((r'.opens.length : Int) - r.opens.length))) rfl (by kernel_rfl) (fun wk hwk => ?_) ?_
                  · generalize hA : Act.eval _ = ρ
                    have s94 : ρ (.tmp 94) = .int .i64 (dn k) := by rw [← hA]; kernel_rfl
                    have s105 : ρ (.tmp 105) = .int .i64 ((r'.opens.length : Int) - r.opens.length) := by rw [← hA]; kernel_rfl
                    clear hA
                    have hf1 := HO.out.few
                    have hf2 := HO'.out.few
                    have hf3 := HDN.out
                    go_simp
                    rw [wrapEq]
                    unfold wrap64
                    omega
                  go_big_quiet_op
                  refine wpFin_big (some 107) w rfl (.pointer (some ⟨D, k, none⟩)) rfl (by kernel_rfl) (fun wk hwk => ?_) ?_
                  · generalize hA : Act.eval _ = ρ
                    have s4 : ρ (.tmp 4) = .pointer (some ⟨D, 0, none⟩) := by rw [← hA]; kernel_rfl
                    have s92 : ρ (.tmp 92) = .int .i64 (k : Int) := by rw [← hA]; kernel_rfl
                    clear hA
                    go_simp
                  go_big_quiet_op
                  refine wpFin_bigLast rfl rfl rfl rfl (fun wk => TQ wr w.heap.size R G D S wr.heap.size pw' sc' m' ⟨2, k, xat, xmany, xtext⟩ (setI dn k (dn k + ((r'.opens.length : Int) - r.opens.length))) st [] wk) (fun wk hwk => ?_) ?_
                  · generalize hA : Act.eval _ = ρ
                    have s107 : ρ (.tmp 107) = .pointer (some ⟨D, k, none⟩) := by rw [← hA]; kernel_rfl
                    have s106 : ρ (.tmp 106) = .int .i64 (dn k + ((r'.opens.length : Int) - r.opens.length)) := by rw [← hA]; kernel_rfl
                    clear hA
                    have g3 := hwk.dn.at_ k hk
                    have g4 := hwk.dn.free k hk
                    have hq := hwk.putD hk (dn k + ((r'.opens.length : Int) - r.opens.length))
                    go_simp
                    exact hq
                  refine wpFin_nil (fun wb hwb => ?_)
                  have HB : Hid (TQ wr w.heap.size R G D S wr.heap.size pw' sc' m' ⟨2, k, xat, xmany, xtext⟩ (setI dn k (dn k + ((r'.opens.length : Int) - r.opens.length))) st [] wb) := hwb
                  clear hwb H8
                  have g0 := HB.out.room.cells.log
                  go_wp2_with fail
                  obtain ⟨Sl, dv, lv, hlg, _⟩ := HB.out.room.log
                  have hln := len_lg hlg
                  rw [HDS.out] at hln
                  refine hln.mono ?_
                  rintro e w9 ⟨rfl, hw9⟩
                  rw [hw9]
                  clear hw9 w9 hlg hln g0
                  go_wp2_with fail
                  go_roundw
                  case rel => exact ⟨j + 1, m', (setI dn k (dn k + ((r'.opens.length : Int) - r.opens.length))), st, by omega, by go_num, rt_of HR.out.below HB.out HI7.out HTT.out⟩
                  case measure => simp [intOf]; omega
                · by_cases hd3 : xdo = 3
                  · subst hd3
                    cases hd : r.opens[r.sent]? with
                    | none =>
                      have hd3 : (3 : Int) = 3 → r.opens[r.sent]? = none := fun _ => hd
                      clear hd
                      obtain ⟨j1, j2, j3⟩ := tl_else (bare := false) (x := ⟨3, k, xat, xmany, xtext⟩) hk rfl HP.out hd1 hd2 hd3 HR.out.tt
                      have HDS : Hid ((stepRm false m ⟨3, k, xat, xmany, xtext⟩).b.ds = m.b.ds) := j2
                      have HTT : Hid (TT (stepRm false m ⟨3, k, xat, xmany, xtext⟩) dn st) := j3
                      have hps' : ((stepRm false m ⟨3, k, xat, xmany, xtext⟩).p k).isSome = true := j1
                      have hq1 : ((3 : Int) == 1) = false := rfl
                      have hq2 : ((3 : Int) == 2) = false := rfl
                      clear j1 j2 j3 HOV hd1 hd2 hd3
                      generalize stepRm false m ⟨3, k, xat, xmany, xtext⟩ = m' at *
                      obtain ⟨_, c0, c1, c2, c3, c4⟩ := H7.out.step
                      simp only [Nat.zero_add] at c0 c1 c2 c3 c4
                      have g1' := H7.out.room.cells.wr k hk
                      simp only [hps', ptrOf, if_true] at g1'
                      go_wp2_with fail
                      go_quiet ((go_at_call 9; exact Calls.quiet_of_same (HW.out _)))
                      have H8 : Hid (TQ wr w.heap.size R G D S wr.heap.size pw' sc' m' ⟨3, k, xat, xmany, xtext⟩ dn st [] (w7.drewN nq)) := H7.out.after (below_drewN (Below.refl _ _) nq)
                      generalize w7.drewN nq = w8 at *
                      clear H7 c0 c1 c2 c3 c4
                      clear g1'
                      have g0 := H8.out.room.cells.log
                      go_wp2_with fail
                      obtain ⟨Sl, dv, lv, hlg, _⟩ := H8.out.room.log
                      have hln := len_lg hlg
                      rw [HDS.out] at hln
                      refine hln.mono ?_
                      rintro e w9 ⟨rfl, hw9⟩
                      rw [hw9]
                      clear hw9 w9 hlg hln g0
                      go_wp2_with fail
                      go_roundw
                      case rel => exact ⟨j + 1, m', dn, st, by omega, by go_num, rt_of HR.out.below H8.out HI7.out HTT.out⟩
                      case measure => simp [intOf]; omega
                    | some d =>
                      obtain ⟨j1, j2, j3, j4, j5, j6, j7⟩ := tl_sends (bare := false) (x := ⟨3, k, xat, xmany, xtext⟩) HR.out.inv hk rfl HP.out rfl hd HOV.out HR.out.tt
                      have HDS : Hid ((stepRm false m ⟨3, k, xat, xmany, xtext⟩).b.ds = m.b.ds ++ [d]) := j2
                      have HTT : Hid (TT (stepRm false m ⟨3, k, xat, xmany, xtext⟩) dn (setI st k d.no)) := j7
                      have HBY : Hid (d.by_ = (k : Int)) := j3
                      have HNO : Hid (d.no = st k + 1 ∧ d.no ≤ dn k ∧ 1 ≤ d.no ∧ d.no ≤ 120) := ⟨j4, j5, j6.1, j6.2⟩
                      have hps' : ((stepRm false m ⟨3, k, xat, xmany, xtext⟩).p k).isSome = true := j1
                      clear j1 j2 j3 j4 j5 j6 j7 HOV hd
                      generalize stepRm false m ⟨3, k, xat, xmany, xtext⟩ = m' at *
                      obtain ⟨_, c0, c1, c2, c3, c4⟩ := H7.out.step
                      simp only [Nat.zero_add] at c0 c1 c2 c3 c4
                      have g1' := H7.out.room.cells.wr k hk
                      simp only [hps', ptrOf, if_true] at g1'
                      go_wp2_with fail
                      go_quiet ((go_at_call 9; exact Calls.quiet_of_same (HW.out _)))
                      have H8 : Hid (TQ wr w.heap.size R G D S wr.heap.size pw' sc' m' ⟨3, k, xat, xmany, xtext⟩ dn st [] (w7.drewN nq)) := H7.out.after (below_drewN (Below.refl _ _) nq)
                      generalize w7.drewN nq = w8 at *
                      clear H7 c0 c1 c2 c3 c4 g1'
                      have HLE : Hid ((m'.b.ds.length : Int) = (m.b.ds.length : Int) + 1) := by show _ = _; rw [HDS.out, List.length_append]; simp
                      have HND : Hid (nthD m'.b ((m.b.ds.length : Int) + 1) = d ∧ isD m'.b ((m.b.ds.length : Int) + 1) = true) := by
                        obtain ⟨y1, y2⟩ := is_yes (b := m'.b) (i := m.b.ds.length) (by have := HLE.out; omega)
                        refine ⟨?_, y1⟩
                        rw [y2]
                        simp [HDS.out]
                      have HSM : Hid (m.b.ds.length ≤ 120) := HR.out.inv.good.small
                      have HSM' : Hid (m'.b.ds.length ≤ 120) := HI7.out.good.small
                      have g0 := H8.out.room.cells.log
                      go_wp2_with fail
                      obtain ⟨Sl, dv, lv, hlg, _⟩ := H8.out.room.log
                      have hln := len_lg hlg
                      rw [HLE.out] at hln
                      refine hln.mono ?_
                      rintro e w9 ⟨rfl, hw9⟩
                      rw [hw9]
                      clear hw9 w9 hln
                      have hsm := HSM.out
                      have hne : ((m.b.ds.length : Int) + 1 == (m.b.ds.length : Int)) = false := by simp; omega
                      generalize m.b.ds.length = NN at *
                      go_wp2_with fail
                      have hdg := deed_lg hlg HSM'.out ((NN : Int) + 1)
                      rw [HND.out.1, HND.out.2] at hdg
                      first
                        | refine hdg.mono ?_
                        | (rw [wrapEq (by unfold wrap64; omega)]; refine hdg.mono ?_)
                      rintro e wb ⟨rfl, hb⟩
                      have HB : Hid (TQ wr w.heap.size R G D S wr.heap.size pw' sc' m' ⟨3, k, xat, xmany, xtext⟩ dn st [] wb) := H8.out.after hb
                      clear hlg hdg hb H8 g0
                      have HC : Hid (TQ wr w.heap.size R G D S wr.heap.size pw' sc' m' ⟨3, k, xat, xmany, xtext⟩ dn st [(wb.heap.size, d)] (wb.alloc (dObj d))) := HB.out.boxed d
                      go_wp2_with fail
                      generalize World.alloc _ _ = wc at *
                      generalize wb.heap.size = E at *
                      clear HB
                      obtain ⟨_, c0, c1, c2, c3, c4⟩ := HC.out.step
                      simp only [Nat.zero_add] at c0 c1 c2 c3 c4
                      obtain ⟨_, b0, b1, b2, b3, b4, b5, b6⟩ := HC.out.deeds (E, d) (by simp)
                      simp only [Nat.zero_add] at b0 b1 b2 b3 b4 b5 b6
                      have g0 := HC.out.room.cells.log
                      have g3 := HC.out.dn.at_ k hk
                      have g4 := HC.out.st.at_ k hk
                      obtain ⟨z1, z2, z3, z4⟩ := HNO.out
                      rw [HBY.out] at b1
                      rw [z1] at b2
                      have hgt : (dn k < st k + 1) = False := by simp; omega
                      have HLN : Hid (∀ n, Calls Try.prog 16 #[.pointer (some ⟨G, 0, none⟩)] (wc.drewN n) fun e w' => e = .returned (.int .i64 ((NN : Int) + 1)) ∧ w' = wc.drewN n) := fun n => by
                        obtain ⟨Sl, dv, lv, hlg, _⟩ := (HC.out.after (below_drewN (Below.refl _ _) n)).room.log
                        have hln := len_lg hlg
                        rw [HLE.out] at hln
                        exact hln
                      go_quiet ((go_at_call 16; exact Calls.quiet_of_same (HLN.out _)))
                      have HE : Hid (TQ wr w.heap.size R G D S wr.heap.size pw' sc' m' ⟨3, k, xat, xmany, xtext⟩ dn st [(E, d)] (wc.drewN nq)) := HC.out.after (below_drewN (Below.refl _ _) nq)
                      generalize wc.drewN nq = we at *
                      go_upto_region 24 with fail
                      clear HC c0 c1 c2 c3 c4 b0 b1 b2 b3 b4 b5 b6 g0 g3 g4 z1 z2 z3 z4 hgt
                      obtain ⟨_, c0, c1, c2, c3, c4⟩ := HE.out.step
                      simp only [Nat.zero_add] at c0 c1 c2 c3 c4
                      obtain ⟨_, b0, b1, b2, b3, b4, b5, b6⟩ := HE.out.deeds (E, d) (by simp)
                      simp only [Nat.zero_add] at b0 b1 b2 b3 b4 b5 b6
                      have g4 := HE.out.st.at_ k hk
                      have g5 := HE.out.st.free k hk
                      have HF := HE.out.putS hk d.no
                      go_wp2_with fail
                      go_roundw
                      case rel => exact ⟨j + 1, m', dn, setI st k d.no, by omega, by go_num, rt_of HR.out.below HF HI7.out HTT.out⟩
                      case measure => simp [intOf]; omega
                  · have hd3 : xdo = 3 → r.opens[r.sent]? = none := fun e => absurd e hd3
                    obtain ⟨j1, j2, j3⟩ := tl_else (bare := false) (x := ⟨xdo, k, xat, xmany, xtext⟩) hk rfl HP.out hd1 hd2 hd3 HR.out.tt
                    have HDS : Hid ((stepRm false m ⟨xdo, k, xat, xmany, xtext⟩).b.ds = m.b.ds) := j2
                    have HTT : Hid (TT (stepRm false m ⟨xdo, k, xat, xmany, xtext⟩) dn st) := j3
                    have hps' : ((stepRm false m ⟨xdo, k, xat, xmany, xtext⟩).p k).isSome = true := j1
                    have hq1 : (xdo == 1) = false := by simpa using hd1
                    have hq2 : (xdo == 2) = false := by simpa using hd2
                    clear j1 j2 j3 HOV hd1 hd2 hd3
                    generalize stepRm false m ⟨xdo, k, xat, xmany, xtext⟩ = m' at *
                    obtain ⟨_, c0, c1, c2, c3, c4⟩ := H7.out.step
                    simp only [Nat.zero_add] at c0 c1 c2 c3 c4
                    have g1' := H7.out.room.cells.wr k hk
                    simp only [hps', ptrOf, if_true] at g1'
                    go_wp2_with fail
                    go_quiet ((go_at_call 9; exact Calls.quiet_of_same (HW.out _)))
                    have H8 : Hid (TQ wr w.heap.size R G D S wr.heap.size pw' sc' m' ⟨xdo, k, xat, xmany, xtext⟩ dn st [] (w7.drewN nq)) := H7.out.after (below_drewN (Below.refl _ _) nq)
                    generalize w7.drewN nq = w8 at *
                    clear H7 c0 c1 c2 c3 c4
                    clear g1'
                    have g0 := H8.out.room.cells.log
                    go_wp2_with fail
                    obtain ⟨Sl, dv, lv, hlg, _⟩ := H8.out.room.log
                    have hln := len_lg hlg
                    rw [HDS.out] at hln
                    refine hln.mono ?_
                    rintro e w9 ⟨rfl, hw9⟩
                    rw [hw9]
                    clear hw9 w9 hlg hln g0
                    go_wp2_with fail
                    go_roundw
                    case rel => exact ⟨j + 1, m', dn, st, by omega, by go_num, rt_of HR.out.below H8.out HI7.out HTT.out⟩
                    case measure => simp [intOf]; omega
            · go_wp2_with fail
              go_ret
              exact ⟨rfl, HBL.out⟩
        · have hw' : wrB xw = false := by simpa using hw
          have HW : Hid (∀ wk, Calls Try.prog 9 #[.int .i64 xw] wk fun e w' => e = .returned (.bool false) ∧ w' = wk) := fun wk => by
            have h1 := isWriter_any xw wk
            rw [hw'] at h1
            exact h1
          go_quiet ((go_at_call 9; exact Calls.quiet_of_same (HW.out _)))
          have HI6 : Hid (TQ wr w.heap.size R G D S wr.heap.size pw sc m ⟨xdo, xw, xat, xmany, xtext⟩ dn st [] (w5.drewN nq)) := HI.out.after (below_drewN (Below.refl _ _) nq)
          go_wp2_with fail
          generalize w5.drewN nq = w6 at *
          clear HI c0 c1 c2 c3 c4
          obtain ⟨_, c0, c1, c2, c3, c4⟩ := HI6.out.step
          simp only [Nat.zero_add] at c0 c1 c2 c3 c4
          go_wp2_with fail
          refine (HI6.out.stepped HR.out.inv ⟨xdo, xw, xat, xmany, xtext⟩).mono ?_
          rintro e w7 ⟨rfl, hst, hbl⟩
          have HBL : Hid (Below w.heap.size w w7) := HR.out.below.trans hbl
          have HS7 : Hid (overRm m ⟨xdo, xw, xat, xmany, xtext⟩ = false → ∃ pw' sc', TQ wr w.heap.size R G D S wr.heap.size pw' sc' (stepRm false m ⟨xdo, xw, xat, xmany, xtext⟩) ⟨xdo, xw, xat, xmany, xtext⟩ dn st [] w7 ∧ RmI false (stepRm false m ⟨xdo, xw, xat, xmany, xtext⟩)) := hst
          clear hst hbl c0 c1 c2 c3 c4
          obtain ⟨over, hov⟩ : ∃ o, overRm m ⟨xdo, xw, xat, xmany, xtext⟩ = o := ⟨_, rfl⟩
          rw [hov]
          have HOV : Hid (overRm m ⟨xdo, xw, xat, xmany, xtext⟩ = over) := hov
          clear hov
          cases over
          · obtain ⟨pw', sc', h7, hi7⟩ := HS7.out HOV.out
            have HI7 : Hid (RmI false (stepRm false m ⟨xdo, xw, xat, xmany, xtext⟩)) := hi7
            have H7 : Hid (TQ wr w.heap.size R G D S wr.heap.size pw' sc' (stepRm false m ⟨xdo, xw, xat, xmany, xtext⟩) ⟨xdo, xw, xat, xmany, xtext⟩ dn st [] w7) := h7
            clear HS7 h7 hi7 HI6
            have hst : stepRm false m ⟨xdo, xw, xat, xmany, xtext⟩ = m := tl_off hw'
            have HDS : Hid ((stepRm false m ⟨xdo, xw, xat, xmany, xtext⟩).b.ds = m.b.ds) := by show _ = _; rw [hst]
            have HTT : Hid (TT (stepRm false m ⟨xdo, xw, xat, xmany, xtext⟩) dn st) := by show TT _ _ _; rw [hst]; exact HR.out.tt
            clear hst HOV
            generalize stepRm false m ⟨xdo, xw, xat, xmany, xtext⟩ = m' at *
            obtain ⟨_, c0, c1, c2, c3, c4⟩ := H7.out.step
            simp only [Nat.zero_add] at c0 c1 c2 c3 c4
            go_wp2_with fail
            go_quiet ((go_at_call 9; exact Calls.quiet_of_same (HW.out _)))
            have H8 : Hid (TQ wr w.heap.size R G D S wr.heap.size pw' sc' m' ⟨xdo, xw, xat, xmany, xtext⟩ dn st [] (w7.drewN nq)) := H7.out.after (below_drewN (Below.refl _ _) nq)
            generalize w7.drewN nq = w8 at *
            clear H7 c0 c1 c2 c3 c4
            have g0 := H8.out.room.cells.log
            go_wp2_with fail
            obtain ⟨Sl, dv, lv, hlg, _⟩ := H8.out.room.log
            have hln := len_lg hlg
            rw [HDS.out] at hln
            refine hln.mono ?_
            rintro e w9 ⟨rfl, hw9⟩
            rw [hw9]
            clear hw9 w9 hlg hln g0
            go_wp2_with fail
            go_roundw
            case rel => exact ⟨j + 1, m', dn, st, by omega, by go_num, rt_of HR.out.below H8.out HI7.out HTT.out⟩
            case measure => simp [intOf]; omega
          · go_wp2_with fail
            go_ret
            exact ⟨rfl, HBL.out⟩
      · go_wp2
        go_ret
        exact ⟨rfl, HR.out.below⟩
  · go_wp2
    go_ret
    exact ⟨rfl, HB1.out⟩

/-- THE LAW. -/
theorem law_writertells (w : World) {v : Value} {xs : List RStep} (h : RLst w v xs) :
    Calls Try.prog 4 #[v] w fun e w' => e = .returned (.bool true) ∧ Below w.heap.size w w' := writerTells_any v xs w h

end Go.Proofs.Ytdlmlhmdjfbdiac
