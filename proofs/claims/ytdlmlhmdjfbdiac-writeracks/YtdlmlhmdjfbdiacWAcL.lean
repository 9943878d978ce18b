/-
  The law WriterAcks: to hear its own changes nothing that it sees.
-/
import Derived.Test.YtdlmlhmdjfbdiacWAcD
import Derived.Test.YtdlmlhmdjfbdiacWBk
namespace Go.Proofs.Ytdlmlhmdjfbdiac
open Go Go.RowKit

set_option maxRecDepth 20000 in
set_option maxHeartbeats 6400000 in
theorem writerAcks_any (v : Value) (xs : List RStep) (w : World) (h : RLst w v xs) :
    Calls Try.prog 3 #[v] w fun e w' => e = .returned (.bool true) ∧ Below w.heap.size w w' := by
  have HD : Hid (RLst w v xs) := h
  obtain ⟨a, cap, rfl⟩ := h.len
  clear h
  go_enter Try.func3, Try.ntmps3
  go_wp2_with fail
  refine (wbegun_any _).mono ?_
  rintro e w1 ⟨rfl, hb1⟩
  have HB1 : Hid (Below w.heap.size w w1) := hb1
  clear hb1
  go_wp2_with fail
  refine (greatR_any _ xs _ (HD.out.below HB1.out)).mono ?_
  rintro e w2 ⟨gr, rfl, hgr, rfl⟩
  cases gr
  · have hl := hgr rfl
    clear hgr
    go_wp2_with fail
    refine (newRoom_any _).mono ?_
    rintro e w3 ⟨rfl, rfl⟩
    have HR0 : Hid (RR w (w2.heap.size + 1) w2.heap.size false rm0 ((w2.alloc (.cells logZ 65)).alloc (.cells (roomZ w2.heap.size false) 37))) := rr_start HB1.out false
    clear HB1
    go_wp2
    generalize World.alloc _ _ = w4 at *
    generalize w2.heap.size + 1 = R at *
    generalize w2.heap.size = G at *
    go_loopw [4] (fun i wr => ∃ (j : Nat) (m : Rm), j ≤ xs.length ∧ i = .int .i64 j ∧ Hid (RR w R G false m wr)) (fun i _ => xs.length - (intOf i).toNat)
    case atStart => exact ⟨0, rm0, Nat.zero_le _, rfl, HR0⟩
    case round =>
      obtain ⟨j, m, hj, rfl, HR⟩ := hrel
      clear HR0
      by_cases hlt : j < xs.length
      · have hkl : j < xs.length := hlt
        obtain ⟨bb, off, rfl, hr⟩ := (HD.out.below HR.out.below).row (by omega)
        obtain ⟨_, c0, c1, c2, c3, c4⟩ := hr.at_ j hkl
        generalize xs[j] = x at *
        obtain ⟨pw, sc, hrm⟩ := HR.out.room
        have HI : Hid (RIn wr w.heap.size R G pw sc false (fun _ => False) m x [] (wr.alloc (.cells (rsCells x) 28))) := rin_start hrm x
        obtain ⟨xdo, xw, xat, xmany, xtext⟩ := x
        simp only at c0 c1 c2 c3 c4
        clear hr
        go_wp2_with fail
        clear c0 c1 c2 c3 c4
        generalize World.alloc _ _ = w5 at *
        obtain ⟨_, c0, c1, c2, c3, c4⟩ := HI.out.step
        simp only [Nat.zero_add] at c0 c1 c2 c3 c4
        by_cases hw : wrB xw = true
        · have HW : Hid (∀ wk, Calls Try.prog 9 #[.int .i64 xw] wk fun e w' => e = .returned (.bool true) ∧ w' = wk) := fun wk => by
            have h1 := isWriter_any xw wk
            rw [hw] at h1
            exact h1
          obtain ⟨k, hxk, hk⟩ := wr_nat hw
          subst hxk
          have hk4 : (k : Int) < 4 := by omega
          have g1 := hrm.cells.wr k hk
          cases hp : m.p k with
          | none =>
            have hps : (m.p k).isSome = false := by rw [hp]; rfl
            have g1' := HI.out.room.cells.wr k hk
            simp only [hps, ptrOf, Bool.false_eq_true, if_false] at g1'
            clear hrm hp g1
            go_quiet ((go_at_call 9; exact Calls.quiet_of_same (HW.out _)))
            have HI6 : Hid (RIn wr w.heap.size R G pw sc false (fun _ => False) m ⟨xdo, k, xat, xmany, xtext⟩ [] (w5.drewN nq)) := HI.out.after (below_drewN (Below.refl _ _) nq)
            go_wp2_with fail
            generalize w5.drewN nq = w6 at *
            clear HI c0 c1 c2 c3 c4
            clear g1'
            obtain ⟨_, c0, c1, c2, c3, c4⟩ := HI6.out.step
            simp only [Nat.zero_add] at c0 c1 c2 c3 c4
            go_wp2_with fail
            refine (HI6.out.stepped HR.out.inv ⟨xdo, k, xat, xmany, xtext⟩).mono ?_
            rintro e w7 ⟨rfl, hst, hbl⟩
            have HBL : Hid (Below w.heap.size w w7) := HR.out.below.trans hbl
            have HS7 : Hid (overRm m ⟨xdo, k, xat, xmany, xtext⟩ = false → ∃ m', RR w R G false m' w7) := fun ho => by
              obtain ⟨pw', sc', h7, hi7⟩ := hst ho
              exact ⟨_, rr_of HR.out h7 hi7⟩
            clear hst hbl c0 c1 c2 c3 c4
            generalize overRm m ⟨xdo, k, xat, xmany, xtext⟩ = over at *
            cases over
            · obtain ⟨m', hm'⟩ := HS7.out rfl
              have HR7 : Hid (RR w R G false m' w7) := hm'
              clear hm' HS7
              go_wp2_with fail
              go_roundw
              case rel => exact ⟨j + 1, m', by omega, by go_num, HR7⟩
              case measure => simp [intOf]; omega
            · go_wp2_with fail
              go_ret
              exact ⟨rfl, HBL.out⟩
          | some q =>
            obtain ⟨r, ts⟩ := q
            have hps : (m.p k).isSome = true := by rw [hp]; rfl
            have HP : Hid (m.p k = some (r, ts)) := hp
            have HO : Hid (WOk r ts) := rmi_wok HR.out.inv hk hp
            have g1' := HI.out.room.cells.wr k hk
            simp only [hps, ptrOf, if_true] at g1'
            clear hrm hp g1
            by_cases hd4 : xdo = 4
            · subst hd4
              go_quiet ((go_at_call 9; exact Calls.quiet_of_same (HW.out _)))
              have HI6 : Hid (RIn wr w.heap.size R G pw sc false (fun _ => False) m ⟨4, k, xat, xmany, xtext⟩ [] (w5.drewN nq)) := HI.out.after (below_drewN (Below.refl _ _) nq)
              go_wp2_with fail
              generalize w5.drewN nq = w6 at *
              clear HI c0 c1 c2 c3 c4
              clear g1'
              have HME : Hid (r.me = (k : Int)) := (HR.out.inv.some k hk r ts HP.out).1
              obtain ⟨d, hnd⟩ : ∃ d, nthD m.b ((r.seen : Int) + 1) = d := ⟨_, rfl⟩
              have HND : Hid (nthD m.b ((r.seen : Int) + 1) = d) := hnd
              clear hnd
              by_cases hs : r.seen < m.b.ds.length
              · have HIS : Hid (isD m.b ((r.seen : Int) + 1) = true) := (is_yes hs).1
                have HDS : Hid (m.b.ds[r.seen] = d) := by show _ = _; rw [← HND.out]; exact (is_yes hs).2.symm
                obtain ⟨ow, how⟩ : ∃ ow, (d.by_ == (k : Int)) = ow := ⟨_, rfl⟩
                have HBB : Hid ((d.by_ == (k : Int)) = ow) := how
                clear how
                refine wp_region_grow (fun wk => RIn wr w.heap.size R G pw sc false (fun _ => False) m ⟨4, k, xat, xmany, xtext⟩ [] wk) (fun i => i == 17 || i == 18) (fun wk => RIn wr w.heap.size R G pw sc false (fun _ => False) m ⟨4, k, xat, xmany, xtext⟩ [] wk) (by kernel_rfl) (by kernel_rfl) (by kernel_rfl) (fun _ h => h) (RIn.shut) (HI6.out.after (Below.refl _ _).drew) ?_
                refine wpGrow_big (some 49) w rfl (.pointer (some ⟨R, 0, none⟩)) rfl (by kernel_rfl) (fun wk hwk => ?_) ?_
                · refine growUpon_same ?_
                  generalize hA : Act.eval _ = ρ
                  have s3 : ρ (.tmp 3) = .pointer (some ⟨R, 0, none⟩) := by rw [← hA]; kernel_rfl
                  clear hA
                  go_simp
                go_big_quiet_op
                refine wpGrow_big (some 50) w rfl (.pointer (some ⟨R, 0, none⟩)) rfl (by kernel_rfl) (fun wk hwk => ?_) ?_
                · refine growUpon_same ?_
                  generalize hA : Act.eval _ = ρ
                  have s49 : ρ (.tmp 49) = .pointer (some ⟨R, 0, none⟩) := by rw [← hA]; kernel_rfl
                  clear hA
                  go_simp
                go_big_quiet_op
                refine wpGrow_big (some 51) w rfl (.pointer (some ⟨R, 0, none⟩)) rfl (by kernel_rfl) (fun wk hwk => ?_) ?_
                · refine growUpon_same ?_
                  generalize hA : Act.eval _ = ρ
                  have s50 : ρ (.tmp 50) = .pointer (some ⟨R, 0, none⟩) := by rw [← hA]; kernel_rfl
                  clear hA
                  go_simp
                go_big_quiet_op
                refine wpGrow_big (some 52) w rfl (.pointer (some ⟨G, 0, none⟩)) rfl (by kernel_rfl) (fun wk hwk => ?_) ?_
                · refine growUpon_same ?_
                  generalize hA : Act.eval _ = ρ
                  have s51 : ρ (.tmp 51) = .pointer (some ⟨R, 0, none⟩) := by rw [← hA]; kernel_rfl
                  clear hA
                  have g0 := hwk.room.cells.log
                  go_simp
                go_big_quiet_op
                refine wpGrow_big (some 53) w rfl (.pointer (some ⟨R, 0, none⟩)) rfl (by kernel_rfl) (fun wk hwk => ?_) ?_
                · refine growUpon_same ?_
                  generalize hA : Act.eval _ = ρ
                  have s3 : ρ (.tmp 3) = .pointer (some ⟨R, 0, none⟩) := by rw [← hA]; kernel_rfl
                  clear hA
                  go_simp
                go_big_quiet_op
                refine wpGrow_big (some 54) w rfl (.pointer (some ⟨wr.heap.size, 1, none⟩)) rfl (by kernel_rfl) (fun wk hwk => ?_) ?_
                · refine growUpon_same ?_
                  generalize hA : Act.eval _ = ρ
                  have s5 : ρ (.tmp 5) = .pointer (some ⟨wr.heap.size, 0, none⟩) := by rw [← hA]; kernel_rfl
                  clear hA
                  go_simp
                go_big_quiet_op
                refine wpGrow_big (some 55) w rfl (.int .i64 (k : Int)) rfl (by kernel_rfl) (fun wk hwk => ?_) ?_
                · refine growUpon_same ?_
                  generalize hA : Act.eval _ = ρ
                  have s54 : ρ (.tmp 54) = .pointer (some ⟨wr.heap.size, 1, none⟩) := by rw [← hA]; kernel_rfl
                  clear hA
                  have c1 := hwk.step.c1
                  simp only [Nat.zero_add] at c1
                  go_simp
                go_big_quiet_op
                refine wpGrow_big (some 56) w rfl (.pointer (some ⟨R, 0, none⟩)) rfl (by kernel_rfl) (fun wk hwk => ?_) ?_
                · refine growUpon_same ?_
                  generalize hA : Act.eval _ = ρ
                  have s53 : ρ (.tmp 53) = .pointer (some ⟨R, 0, none⟩) := by rw [← hA]; kernel_rfl
                  clear hA
                  go_simp
                go_big_quiet_op
                refine wpGrow_big (some 57) w rfl (.pointer (some ⟨R, 1, none⟩)) rfl (by kernel_rfl) (fun wk hwk => ?_) ?_
                · refine growUpon_same ?_
                  generalize hA : Act.eval _ = ρ
                  have s56 : ρ (.tmp 56) = .pointer (some ⟨R, 0, none⟩) := by rw [← hA]; kernel_rfl
                  clear hA
                  go_simp
                go_big_quiet_op
                refine wpGrow_big (some 58) w rfl (.pointer (some ⟨R, 1 + k, none⟩)) rfl (by kernel_rfl) (fun wk hwk => ?_) ?_
                · refine growUpon_same ?_
                  generalize hA : Act.eval _ = ρ
                  have s57 : ρ (.tmp 57) = .pointer (some ⟨R, 1, none⟩) := by rw [← hA]; kernel_rfl
                  have s55 : ρ (.tmp 55) = .int .i64 (k : Int) := by rw [← hA]; kernel_rfl
                  clear hA
                  go_simp
                go_big_quiet_op
                refine wpGrow_big (some 59) w rfl (.pointer (some ⟨pw k, 0, none⟩)) rfl (by kernel_rfl) (fun wk hwk => ?_) ?_
                · refine growUpon_same ?_
                  generalize hA : Act.eval _ = ρ
                  have s58 : ρ (.tmp 58) = .pointer (some ⟨R, 1 + k, none⟩) := by rw [← hA]; kernel_rfl
                  clear hA
                  have g1 := hwk.room.cells.wr k hk
                  simp only [hps, ptrOf, if_true] at g1
                  go_simp
                go_big_quiet_op
                refine wpGrow_big (some 60) w rfl (.int .i64 ((r.seen : Int))) rfl (by kernel_rfl) (fun wk hwk => ?_) ?_
                · generalize hA : Act.eval _ = ρ
                  have s59 : ρ (.tmp 59) = .pointer (some ⟨pw k, 0, none⟩) := by rw [← hA]; kernel_rfl
                  have sf : ρ (.func 11) = .func (.func 11) #[] #[] := by rw [← hA]; kernel_rfl
                  clear hA
                  unfold growUpon
                  go_simp
                  obtain ⟨S, lv, ov, tvs, hp, _⟩ := hwk.wr hk HP.out
                  refine (seen_pw hp).mono ?_
                  rintro e w7 ⟨rfl, rfl⟩
                  exact ⟨rfl, Below.refl _ _⟩
                go_big_quiet_op
                refine wpGrow_big (some 61) w rfl (.int .i64 ((r.seen : Int) + 1)) rfl (by kernel_rfl) (fun wk hwk => ?_) ?_
                · refine growUpon_same ?_
                  generalize hA : Act.eval _ = ρ
                  have s60 : ρ (.tmp 60) = .int .i64 ((r.seen : Int)) := by rw [← hA]; kernel_rfl
                  have k1 : ρ (.const (.int .i64 1)) = .int .i64 1 := by rw [← hA]; kernel_rfl
                  clear hA
                  have hsn := HO.out.seen
                  go_simp
                  rw [wrapEq]
                  unfold wrap64
                  omega
                go_big_quiet_op
                refine wpGrow_big (some 62) w rfl (.tuple #[ddV d, .bool true]) rfl (by kernel_rfl) (fun wk hwk => ?_) ?_
                · generalize hA : Act.eval _ = ρ
                  have s52 : ρ (.tmp 52) = .pointer (some ⟨G, 0, none⟩) := by rw [← hA]; kernel_rfl
                  have s61 : ρ (.tmp 61) = .int .i64 ((r.seen : Int) + 1) := by rw [← hA]; kernel_rfl
                  have sf : ρ (.func 10) = .func (.func 10) #[] #[] := by rw [← hA]; kernel_rfl
                  clear hA
                  unfold growUpon
                  go_simp
                  obtain ⟨S, dv, lv, hl, _⟩ := hwk.log
                  refine (deed_lg hl HR.out.inv.good.small _).mono ?_
                  rintro e w7 ⟨rfl, hb⟩
                  exact ⟨by rw [HND.out, HIS.out], hb⟩
                go_big_quiet_op
                refine wpGrow_big (some 48) w rfl (.tuple #[ddV d, .bool true]) rfl (by kernel_rfl) (fun wk hwk => ?_) ?_
                · refine growUpon_same ?_
                  generalize hA : Act.eval _ = ρ
                  have s62 : ρ (.tmp 62) = .tuple #[ddV d, .bool true] := by rw [← hA]; kernel_rfl
                  clear hA
                  go_simp
                go_big_quiet_op
                refine wpGrow_big (some 63) w rfl (ddV d) rfl (by kernel_rfl) (fun wk hwk => ?_) ?_
                · refine growUpon_same ?_
                  generalize hA : Act.eval _ = ρ
                  have s48 : ρ (.tmp 48) = .tuple #[ddV d, .bool true] := by rw [← hA]; kernel_rfl
                  clear hA
                  go_simp
                go_big_quiet_op
                refine wpGrow_big (some 64) w rfl (.bool true) rfl (by kernel_rfl) (fun wk hwk => ?_) ?_
                · refine growUpon_same ?_
                  generalize hA : Act.eval _ = ρ
                  have s48 : ρ (.tmp 48) = .tuple #[ddV d, .bool true] := by rw [← hA]; kernel_rfl
                  clear hA
                  go_simp
                go_big_quiet_op
                refine wpGrow_bigSpine (some 10) w rfl rfl rfl (fun u => ∃ E, u = .pointer (some ⟨E, 0, none⟩)) (fun u wk => ∃ E, u = .pointer (some ⟨E, 0, none⟩) ∧ RBox wr w.heap.size R G pw sc false (fun _ => False) m ⟨4, k, xat, xmany, xtext⟩ [] E ⟨0, 0, 0, 0, 0, 0, ⟨#[]⟩⟩ wk) (⟨.pointer (some ⟨0, 0, none⟩), 0, rfl⟩) (fun _ _ ⟨_, _, h⟩ => h.ri.fewer (fun _ e => by cases e)) (fun _ _ _ ⟨E, e, h⟩ hb => ⟨E, e, RBox.shut _ _ h hb⟩) (fun wk hwk => ?_) (fun u11 hu11 => ?_)
                · generalize hA : Act.eval _ = ρ
                  clear hA
                  have hq := hwk.lay (fun _ e => e.elim)
                  go_simp
                  exact ⟨⟨_, rfl⟩, _, rfl, hq⟩
                obtain ⟨E, rfl⟩ := hu11
                go_big_quiet_op
                refine wpGrow_bigStore rfl rfl rfl (fun wk => RBox wr w.heap.size R G pw sc false (fun _ => False) m ⟨4, k, xat, xmany, xtext⟩ [] E d wk) (fun _ h => h.ri.fewer (fun _ e => by cases e)) (RBox.shut) (fun wk hwk => ?_) ?_
                · generalize hA : Act.eval _ = ρ
                  have s10 : ρ (.tmp 10) = .pointer (some ⟨E, 0, none⟩) := by rw [← hA]; kernel_rfl
                  have s63 : ρ (.tmp 63) = ddV d := by rw [← hA]; kernel_rfl
                  clear hA
                  obtain ⟨E', he, hq⟩ := hwk
                  obtain rfl : E = E' := by simpa using he
                  clear he
                  have hst := hq.store d
                  obtain ⟨hlt, c0, c1, c2, c3, c4, c5, c6⟩ := hq.ri.deeds (E, ⟨0, 0, 0, 0, 0, 0, ⟨#[]⟩⟩) (by simp)
                  simp only [Nat.zero_add] at hlt c0 c1 c2 c3 c4 c5 c6
                  have f0 := hq.free 0 (by omega)
                  have f1 := hq.free 1 (by omega)
                  have f2 := hq.free 2 (by omega)
                  have f3 := hq.free 3 (by omega)
                  have f4 := hq.free 4 (by omega)
                  have f5 := hq.free 5 (by omega)
                  have f6 := hq.free 6 (by omega)
                  go_simp
                  exact hst
                refine wpGrow_big (some 11) w rfl (.bool true) rfl (by kernel_rfl) (fun wk hwk => ?_) ?_
                · refine growUpon_same ?_
                  generalize hA : Act.eval _ = ρ
                  have s64 : ρ (.tmp 64) = .bool true := by rw [← hA]; kernel_rfl
                  clear hA
                  go_simp
                go_big_quiet_op
                refine wpGrow_nil (fun w9 hw9 => ?_)
                have H9 : Hid (RIn wr w.heap.size R G pw sc false (fun _ => False) m ⟨4, k, xat, xmany, xtext⟩ [(E, d)] w9) := hw9.ri
                clear hw9 HI6
                have hbb := HBB.out
                obtain ⟨_, b0, b1, b2, b3, b4, b5, b6⟩ := H9.out.deeds (E, d) (by simp)
                obtain ⟨_, c0, c1, c2, c3, c4⟩ := H9.out.step
                simp only [Nat.zero_add] at b0 b1 b2 b3 b4 b5 b6 c0 c1 c2 c3 c4
                go_wp2_with fail
                clear b0 b1 b2 b3 b4 b5 b6 c0 c1 c2 c3 c4
                clear hbb
                refine wp_region_grow (fun wk => RIn wr w.heap.size R G pw sc false (fun _ => False) m ⟨4, k, xat, xmany, xtext⟩ [] wk) (fun i => i == 15) (fun wk => RIn wr w.heap.size R G pw sc false (fun _ => False) m ⟨4, k, xat, xmany, xtext⟩ [(E, d)] wk) (by kernel_rfl) (by kernel_rfl) (by kernel_rfl) (fun _ h => h.fewer (fun _ e => by cases e)) (RIn.shut) (H9.out.after (Below.refl _ _).drew) ?_
                refine wpGrow_big (some 74) w rfl (.pointer (some ⟨R, 0, none⟩)) rfl (by kernel_rfl) (fun wk hwk => ?_) ?_
                · refine growUpon_same ?_
                  generalize hA : Act.eval _ = ρ
                  have s3 : ρ (.tmp 3) = .pointer (some ⟨R, 0, none⟩) := by rw [← hA]; kernel_rfl
                  clear hA
                  go_simp
                go_big_quiet_op
                refine wpGrow_big (some 75) w rfl (.pointer (some ⟨wr.heap.size, 1, none⟩)) rfl (by kernel_rfl) (fun wk hwk => ?_) ?_
                · refine growUpon_same ?_
                  generalize hA : Act.eval _ = ρ
                  have s5 : ρ (.tmp 5) = .pointer (some ⟨wr.heap.size, 0, none⟩) := by rw [← hA]; kernel_rfl
                  clear hA
                  go_simp
                go_big_quiet_op
                refine wpGrow_big (some 76) w rfl (.int .i64 (k : Int)) rfl (by kernel_rfl) (fun wk hwk => ?_) ?_
                · refine growUpon_same ?_
                  generalize hA : Act.eval _ = ρ
                  have s75 : ρ (.tmp 75) = .pointer (some ⟨wr.heap.size, 1, none⟩) := by rw [← hA]; kernel_rfl
                  clear hA
                  have c1 := hwk.step.c1
                  simp only [Nat.zero_add] at c1
                  go_simp
                go_big_quiet_op
                refine wpGrow_big (some 77) w rfl (.pointer (some ⟨R, 0, none⟩)) rfl (by kernel_rfl) (fun wk hwk => ?_) ?_
                · refine growUpon_same ?_
                  generalize hA : Act.eval _ = ρ
                  have s74 : ρ (.tmp 74) = .pointer (some ⟨R, 0, none⟩) := by rw [← hA]; kernel_rfl
                  clear hA
                  go_simp
                go_big_quiet_op
                refine wpGrow_big (some 78) w rfl (.pointer (some ⟨R, 1, none⟩)) rfl (by kernel_rfl) (fun wk hwk => ?_) ?_
                · refine growUpon_same ?_
                  generalize hA : Act.eval _ = ρ
                  have s77 : ρ (.tmp 77) = .pointer (some ⟨R, 0, none⟩) := by rw [← hA]; kernel_rfl
                  clear hA
                  go_simp
                go_big_quiet_op
                refine wpGrow_big (some 79) w rfl (.pointer (some ⟨R, 1 + k, none⟩)) rfl (by kernel_rfl) (fun wk hwk => ?_) ?_
                · refine growUpon_same ?_
                  generalize hA : Act.eval _ = ρ
                  have s78 : ρ (.tmp 78) = .pointer (some ⟨R, 1, none⟩) := by rw [← hA]; kernel_rfl
                  have s76 : ρ (.tmp 76) = .int .i64 (k : Int) := by rw [← hA]; kernel_rfl
                  clear hA
                  go_simp
                go_big_quiet_op
                refine wpGrow_big (some 80) w rfl (.pointer (some ⟨pw k, 0, none⟩)) rfl (by kernel_rfl) (fun wk hwk => ?_) ?_
                · refine growUpon_same ?_
                  generalize hA : Act.eval _ = ρ
                  have s79 : ρ (.tmp 79) = .pointer (some ⟨R, 1 + k, none⟩) := by rw [← hA]; kernel_rfl
                  clear hA
                  have g1 := hwk.room.cells.wr k hk
                  simp only [hps, ptrOf, if_true] at g1
                  go_simp
                go_big_quiet_op
                refine wpGrow_big (some 81) w rfl (.string (strOfNums (vw r.list r.seen r.me))) rfl (by kernel_rfl) (fun wk hwk => ?_) ?_
                · generalize hA : Act.eval _ = ρ
                  have s80 : ρ (.tmp 80) = .pointer (some ⟨pw k, 0, none⟩) := by rw [← hA]; kernel_rfl
                  have sf : ρ (.func 12) = .func (.func 12) #[] #[] := by rw [← hA]; kernel_rfl
                  clear hA
                  unfold growUpon
                  go_simp
                  obtain ⟨S, lv, ov, tvs, hp, _⟩ := hwk.wr hk HP.out
                  refine (text_pw hp (by have := HO.out.len; omega)).mono ?_
                  rintro e w7 ⟨rfl, hb⟩
                  exact ⟨rfl, hb⟩
                go_big_quiet_op
                refine wpGrow_big (some 82) w rfl (.pointer (some ⟨R, 0, none⟩)) rfl (by kernel_rfl) (fun wk hwk => ?_) ?_
                · refine growUpon_same ?_
                  generalize hA : Act.eval _ = ρ
                  have s3 : ρ (.tmp 3) = .pointer (some ⟨R, 0, none⟩) := by rw [← hA]; kernel_rfl
                  clear hA
                  go_simp
                go_big_quiet_op
                refine wpGrow_big (some 83) w rfl (.pointer (some ⟨wr.heap.size, 1, none⟩)) rfl (by kernel_rfl) (fun wk hwk => ?_) ?_
                · refine growUpon_same ?_
                  generalize hA : Act.eval _ = ρ
                  have s5 : ρ (.tmp 5) = .pointer (some ⟨wr.heap.size, 0, none⟩) := by rw [← hA]; kernel_rfl
                  clear hA
                  go_simp
                go_big_quiet_op
                refine wpGrow_big (some 84) w rfl (.int .i64 (k : Int)) rfl (by kernel_rfl) (fun wk hwk => ?_) ?_
                · refine growUpon_same ?_
                  generalize hA : Act.eval _ = ρ
                  have s83 : ρ (.tmp 83) = .pointer (some ⟨wr.heap.size, 1, none⟩) := by rw [← hA]; kernel_rfl
                  clear hA
                  have c1 := hwk.step.c1
                  simp only [Nat.zero_add] at c1
                  go_simp
                go_big_quiet_op
                refine wpGrow_big (some 85) w rfl (.pointer (some ⟨R, 0, none⟩)) rfl (by kernel_rfl) (fun wk hwk => ?_) ?_
                · refine growUpon_same ?_
                  generalize hA : Act.eval _ = ρ
                  have s82 : ρ (.tmp 82) = .pointer (some ⟨R, 0, none⟩) := by rw [← hA]; kernel_rfl
                  clear hA
                  go_simp
                go_big_quiet_op
                refine wpGrow_big (some 86) w rfl (.pointer (some ⟨R, 1, none⟩)) rfl (by kernel_rfl) (fun wk hwk => ?_) ?_
                · refine growUpon_same ?_
                  generalize hA : Act.eval _ = ρ
                  have s85 : ρ (.tmp 85) = .pointer (some ⟨R, 0, none⟩) := by rw [← hA]; kernel_rfl
                  clear hA
                  go_simp
                go_big_quiet_op
                refine wpGrow_big (some 87) w rfl (.pointer (some ⟨R, 1 + k, none⟩)) rfl (by kernel_rfl) (fun wk hwk => ?_) ?_
                · refine growUpon_same ?_
                  generalize hA : Act.eval _ = ρ
                  have s86 : ρ (.tmp 86) = .pointer (some ⟨R, 1, none⟩) := by rw [← hA]; kernel_rfl
                  have s84 : ρ (.tmp 84) = .int .i64 (k : Int) := by rw [← hA]; kernel_rfl
                  clear hA
                  go_simp
                go_big_quiet_op
                refine wpGrow_big (some 88) w rfl (.pointer (some ⟨pw k, 0, none⟩)) rfl (by kernel_rfl) (fun wk hwk => ?_) ?_
                · refine growUpon_same ?_
                  generalize hA : Act.eval _ = ρ
                  have s87 : ρ (.tmp 87) = .pointer (some ⟨R, 1 + k, none⟩) := by rw [← hA]; kernel_rfl
                  clear hA
                  have g1 := hwk.room.cells.wr k hk
                  simp only [hps, ptrOf, if_true] at g1
                  go_simp
                go_big_quiet_op
                refine wpGrow_bigSpine (some 89) w rfl rfl rfl (fun u => ∃ a c, u = .slice a r.opens.length c) (fun u wk => AQ wr w.heap.size R G pw sc m wr.heap.size ⟨4, k, xat, xmany, xtext⟩ E d u r.opens wk) (⟨.slice none r.opens.length 0, none, 0, rfl⟩) (fun _ _ h => h.rin) (fun _ => AQ.shut) (fun wk hwk => ?_) (fun u15 hu15 => ?_)
                · generalize hA : Act.eval _ = ρ
                  have s88 : ρ (.tmp 88) = .pointer (some ⟨pw k, 0, none⟩) := by rw [← hA]; kernel_rfl
                  have sf : ρ (.func 13) = .func (.func 13) #[] #[] := by rw [← hA]; kernel_rfl
                  clear hA
                  obtain ⟨S, lv, ov, tvs, hp, _⟩ := hwk.wr hk HP.out
                  go_simp
                  refine (open_pw hp (by have := HO.out.few; omega)).mono ?_
                  rintro e w7 ⟨v7, rfl, ho, hb⟩
                  have hq := AQ.of hwk hb ho
                  obtain ⟨a7, c7, rfl⟩ := OwnD.len ho
                  exact ⟨_, rfl, ⟨a7, c7, rfl⟩, hq⟩
                obtain ⟨oa, oc, rfl⟩ := hu15
                go_big_quiet_op
                refine wpGrow_big (some 6) w rfl (.string (strOfNums (vw r.list r.seen r.me))) rfl (by kernel_rfl) (fun wk hwk => ?_) ?_
                · refine growUpon_same ?_
                  generalize hA : Act.eval _ = ρ
                  have s81 : ρ (.tmp 81) = .string (strOfNums (vw r.list r.seen r.me)) := by rw [← hA]; kernel_rfl
                  clear hA
                  go_simp
                go_big_quiet_op
                refine wpGrow_big (some 7) w rfl (.slice oa r.opens.length oc) rfl (by kernel_rfl) (fun wk hwk => ?_) ?_
                · refine growUpon_same ?_
                  generalize hA : Act.eval _ = ρ
                  have s89 : ρ (.tmp 89) = .slice oa r.opens.length oc := by rw [← hA]; kernel_rfl
                  clear hA
                  go_simp
                go_big_quiet_op
                refine wpGrow_nil (fun w10 hw10 => ?_)
                have H10 : Hid (AQ wr w.heap.size R G pw sc m wr.heap.size ⟨4, k, xat, xmany, xtext⟩ E d (.slice oa r.opens.length oc) r.opens w10) := hw10
                clear hw10 H9
                obtain ⟨_, b0, b1, b2, b3, b4, b5, b6⟩ := H10.out.deed
                obtain ⟨_, c0, c1, c2, c3, c4⟩ := H10.out.step
                simp only [Nat.zero_add] at b0 b1 b2 b3 b4 b5 b6 c0 c1 c2 c3 c4
                go_wp2_with fail
                refine (H10.out.stepped HR.out.inv ⟨4, k, xat, xmany, xtext⟩).mono ?_
                rintro e w11 ⟨rfl, hst, hbl⟩
                have HBL : Hid (Below w.heap.size w w11) := HR.out.below.trans hbl
                have HS7 : Hid (overRm m ⟨4, k, xat, xmany, xtext⟩ = false → ∃ pw' sc', AQ wr w.heap.size R G pw' sc' (stepRm false m ⟨4, k, xat, xmany, xtext⟩) wr.heap.size ⟨4, k, xat, xmany, xtext⟩ E d (.slice oa r.opens.length oc) r.opens w11 ∧ RmI false (stepRm false m ⟨4, k, xat, xmany, xtext⟩)) := hst
                clear hst hbl
                clear b0 b1 b2 b3 b4 b5 b6 c0 c1 c2 c3 c4
                generalize overRm m ⟨4, k, xat, xmany, xtext⟩ = over at *
                cases over
                · obtain ⟨pw', sc', h7, hi7⟩ := HS7.out rfl
                  clear HS7
                  have HQ : Hid (AQ wr w.heap.size R G pw' sc' (stepRm false m ⟨4, k, xat, xmany, xtext⟩) wr.heap.size ⟨4, k, xat, xmany, xtext⟩ E d (.slice oa r.opens.length oc) r.opens w11) := h7
                  have HI7 : Hid (RmI false (stepRm false m ⟨4, k, xat, xmany, xtext⟩)) := hi7
                  obtain ⟨r', ts', hp', hown, hoth⟩ := step_hear HR.out.inv (x := ⟨4, k, xat, xmany, xtext⟩) rfl hk rfl HP.out hs
                  have HP' : Hid ((stepRm false m ⟨4, k, xat, xmany, xtext⟩).p k = some (r', ts')) := hp'
                  have HO' : Hid (WOk r' ts') := rmi_wok hi7 hk hp'
                  have hps' : ((stepRm false m ⟨4, k, xat, xmany, xtext⟩).p k).isSome = true := by rw [hp']; rfl
                  have HHO : Hid (ow = true → r.opens = d :: r'.opens ∧ vw r'.list r'.seen r'.me = vw r.list r.seen r.me) := fun e => by
                    have h9 := hown (by rw [HDS.out, HME.out]; have := HBB.out; rw [e] at this; simpa using this)
                    rw [HDS.out] at h9
                    exact h9
                  have HHT : Hid (ow = false → r'.opens = r.opens) := fun e => hoth (by rw [HDS.out, HME.out]; have := HBB.out; rw [e] at this; simpa using this)
                  clear hown hoth hp' h7 hi7 H10 HDS HBB hs
                  generalize stepRm false m ⟨4, k, xat, xmany, xtext⟩ = m' at *
                  go_wp2_with fail
                  refine wp_region_grow (fun wk => AQ wr w.heap.size R G pw' sc' m' wr.heap.size ⟨4, k, xat, xmany, xtext⟩ E d (.slice oa r.opens.length oc) r.opens wk) (fun i => i == 7) (fun wk => AQ wr w.heap.size R G pw' sc' m' wr.heap.size ⟨4, k, xat, xmany, xtext⟩ E d (.slice oa r.opens.length oc) r.opens wk) (by kernel_rfl) (by kernel_rfl) (by kernel_rfl) (fun _ h => h) (AQ.shut) (HQ.out.after (Below.refl _ _).drew) ?_
                  refine wpGrow_big (some 104) w rfl (.pointer (some ⟨R, 0, none⟩)) rfl (by kernel_rfl) (fun wk hwk => ?_) ?_
                  · refine growUpon_same ?_
                    generalize hA : Act.eval _ = ρ
                    have s3 : ρ (.tmp 3) = .pointer (some ⟨R, 0, none⟩) := by rw [← hA]; kernel_rfl
                    clear hA
                    go_simp
                  go_big_quiet_op
                  refine wpGrow_big (some 105) w rfl (.pointer (some ⟨wr.heap.size, 1, none⟩)) rfl (by kernel_rfl) (fun wk hwk => ?_) ?_
                  · refine growUpon_same ?_
                    generalize hA : Act.eval _ = ρ
                    have s5 : ρ (.tmp 5) = .pointer (some ⟨wr.heap.size, 0, none⟩) := by rw [← hA]; kernel_rfl
                    clear hA
                    go_simp
                  go_big_quiet_op
                  refine wpGrow_big (some 106) w rfl (.int .i64 (k : Int)) rfl (by kernel_rfl) (fun wk hwk => ?_) ?_
                  · refine growUpon_same ?_
                    generalize hA : Act.eval _ = ρ
                    have s105 : ρ (.tmp 105) = .pointer (some ⟨wr.heap.size, 1, none⟩) := by rw [← hA]; kernel_rfl
                    clear hA
                    have c1 := hwk.step.c1
                    simp only [Nat.zero_add] at c1
                    go_simp
                  go_big_quiet_op
                  refine wpGrow_big (some 107) w rfl (.pointer (some ⟨R, 0, none⟩)) rfl (by kernel_rfl) (fun wk hwk => ?_) ?_
                  · refine growUpon_same ?_
                    generalize hA : Act.eval _ = ρ
                    have s104 : ρ (.tmp 104) = .pointer (some ⟨R, 0, none⟩) := by rw [← hA]; kernel_rfl
                    clear hA
                    go_simp
                  go_big_quiet_op
                  refine wpGrow_big (some 108) w rfl (.pointer (some ⟨R, 1, none⟩)) rfl (by kernel_rfl) (fun wk hwk => ?_) ?_
                  · refine growUpon_same ?_
                    generalize hA : Act.eval _ = ρ
                    have s107 : ρ (.tmp 107) = .pointer (some ⟨R, 0, none⟩) := by rw [← hA]; kernel_rfl
                    clear hA
                    go_simp
                  go_big_quiet_op
                  refine wpGrow_big (some 109) w rfl (.pointer (some ⟨R, 1 + k, none⟩)) rfl (by kernel_rfl) (fun wk hwk => ?_) ?_
                  · refine growUpon_same ?_
                    generalize hA : Act.eval _ = ρ
                    have s108 : ρ (.tmp 108) = .pointer (some ⟨R, 1, none⟩) := by rw [← hA]; kernel_rfl
                    have s106 : ρ (.tmp 106) = .int .i64 (k : Int) := by rw [← hA]; kernel_rfl
                    clear hA
                    go_simp
                  go_big_quiet_op
                  refine wpGrow_big (some 110) w rfl (.pointer (some ⟨pw' k, 0, none⟩)) rfl (by kernel_rfl) (fun wk hwk => ?_) ?_
                  · refine growUpon_same ?_
                    generalize hA : Act.eval _ = ρ
                    have s109 : ρ (.tmp 109) = .pointer (some ⟨R, 1 + k, none⟩) := by rw [← hA]; kernel_rfl
                    clear hA
                    have g1 := hwk.room.cells.wr k hk
                    simp only [hps', ptrOf, if_true] at g1
                    go_simp
                  go_big_quiet_op
                  refine wpGrow_bigSpine (some 111) w rfl rfl rfl (fun u => ∃ a c, u = .slice a r'.opens.length c) (fun u wk => AR wr w.heap.size R G pw' sc' m' wr.heap.size ⟨4, k, xat, xmany, xtext⟩ E d (.slice oa r.opens.length oc) r.opens u r'.opens wk) (⟨.slice none r'.opens.length 0, none, 0, rfl⟩) (fun _ _ h => h.aq) (fun _ _ _ h hb => h.after hb) (fun wk hwk => ?_) (fun u7 hu7 => ?_)
                  · generalize hA : Act.eval _ = ρ
                    have s110 : ρ (.tmp 110) = .pointer (some ⟨pw' k, 0, none⟩) := by rw [← hA]; kernel_rfl
                    have sf : ρ (.func 13) = .func (.func 13) #[] #[] := by rw [← hA]; kernel_rfl
                    clear hA
                    obtain ⟨S, lv, ov, tvs, hp, _⟩ := hwk.room.wr hk HP'.out
                    go_simp
                    refine (open_pw hp (by have := HO'.out.few; omega)).mono ?_
                    rintro e w7 ⟨v7, rfl, ho, hb⟩
                    have hq := ho.dlst
                    obtain ⟨a7, c7, rfl⟩ := OwnD.len ho
                    exact ⟨_, rfl, ⟨a7, c7, rfl⟩, hwk.after hb, hq⟩
                  obtain ⟨na, nc, rfl⟩ := hu7
                  go_big_quiet_op
                  refine wpGrow_big (some 14) w rfl (.slice na r'.opens.length nc) rfl (by kernel_rfl) (fun wk hwk => ?_) ?_
                  · refine growUpon_same ?_
                    generalize hA : Act.eval _ = ρ
                    have s111 : ρ (.tmp 111) = .slice na r'.opens.length nc := by rw [← hA]; kernel_rfl
                    clear hA
                    go_simp
                  go_big_quiet_op
                  refine wpGrow_nil (fun w13 hw13 => ?_)
                  have H13 : Hid (AR wr w.heap.size R G pw' sc' m' wr.heap.size ⟨4, k, xat, xmany, xtext⟩ E d (.slice oa r.opens.length oc) r.opens (.slice na r'.opens.length nc) r'.opens w13) := hw13
                  clear hw13 HQ
                  go_wp2_with fail
                  by_cases how : ow = false
                  · subst how
                    have HOE : Hid (r'.opens = r.opens) := HHT.out rfl
                    have HSO : Hid (∀ wk, AQ wr w.heap.size R G pw' sc' m' wr.heap.size ⟨4, k, xat, xmany, xtext⟩ E d (.slice oa r.opens.length oc) r.opens wk → DLst wk (.slice oa r.opens.length oc) r'.opens) := fun wk h => by
                      have h1 := h.own.dlst
                      rw [← HOE.out] at h1
                      rw [← HOE.out]
                      exact h1
                    clear HHO HHT
                    refine wp_region_late (fun wk => AR wr w.heap.size R G pw' sc' m' wr.heap.size ⟨4, k, xat, xmany, xtext⟩ E d (.slice oa r.opens.length oc) r.opens (.slice na r'.opens.length nc) r'.opens wk) (fun i => i == 34) (fun _ => false) (by kernel_rfl) (by kernel_rfl) (by kernel_rfl) (H13.out.after (Below.refl _ _).drew) ?_
                    refine wpLate_bigK (some 112) w rfl (.bool false) rfl (by kernel_rfl) (fun wk hwk => ?_) (fun K hK => ?_)
                    · generalize hA : Act.eval _ = ρ
                      have s8 : ρ (.tmp 8) = .bool false := by rw [← hA]; kernel_rfl
                      clear hA
                      go_simp
                    go_big_quiet_op
                    refine hK _ ?_
                    clear hK K
                    refine wpLate_bigSkipsK (some 113) [some 114, some 115, some 116, some 117, some 118, some 119, some 120, some 121, some 122, some 123, some 124, some 125, some 126, some 127, some 128, some 129, some 130, some 131, some 132, some 133, some 134, some 135, some 136, some 137, some 138] 25 w rfl (.bool false) rfl (by kernel_rfl) (fun wk hwk => ?_) (by decide) rfl (by kernel_rfl) (fun K hK K1 hK1 => ?_)
                    · generalize hA : Act.eval _ = ρ
                      have s112 : ρ (.tmp 112) = .bool false := by rw [← hA]; kernel_rfl
                      clear hA
                      go_simp
                    go_big_quiet_op
                    refine hK1 _ ?_
                    clear hK1 K1
                    intro K1 hK1
                    go_big_quiet_op
                    refine hK1 _ ?_
                    clear hK1 K1
                    intro K1 hK1
                    go_big_quiet_op
                    refine hK1 _ ?_
                    clear hK1 K1
                    intro K1 hK1
                    go_big_quiet_op
                    refine hK1 _ ?_
                    clear hK1 K1
                    intro K1 hK1
                    go_big_quiet_op
                    refine hK1 _ ?_
                    clear hK1 K1
                    intro K1 hK1
                    go_big_quiet_op
                    refine hK1 _ ?_
                    clear hK1 K1
                    intro K1 hK1
                    go_big_quiet_op
                    refine hK1 _ ?_
                    clear hK1 K1
                    intro K1 hK1
                    go_big_quiet_op
                    refine hK1 _ ?_
                    clear hK1 K1
                    intro K1 hK1
                    go_big_quiet_op
                    refine hK1 _ ?_
                    clear hK1 K1
                    intro K1 hK1
                    go_big_quiet_op
                    refine hK1 _ ?_
                    clear hK1 K1
                    intro K1 hK1
                    go_big_quiet_op
                    refine hK1 _ ?_
                    clear hK1 K1
                    intro K1 hK1
                    go_big_quiet_op
                    refine hK1 _ ?_
                    clear hK1 K1
                    intro K1 hK1
                    go_big_quiet_op
                    refine hK1 _ ?_
                    clear hK1 K1
                    intro K1 hK1
                    go_big_quiet_op
                    refine hK1 _ ?_
                    clear hK1 K1
                    intro K1 hK1
                    go_big_quiet_op
                    refine hK1 _ ?_
                    clear hK1 K1
                    intro K1 hK1
                    go_big_quiet_op
                    refine hK1 _ ?_
                    clear hK1 K1
                    intro K1 hK1
                    go_big_quiet_op
                    refine hK1 _ ?_
                    clear hK1 K1
                    intro K1 hK1
                    go_big_quiet_op
                    refine hK1 _ ?_
                    clear hK1 K1
                    intro K1 hK1
                    go_big_quiet_op
                    refine hK1 _ ?_
                    clear hK1 K1
                    intro K1 hK1
                    go_big_quiet_op
                    refine hK1 _ ?_
                    clear hK1 K1
                    intro K1 hK1
                    go_big_quiet_op
                    refine hK1 _ ?_
                    clear hK1 K1
                    intro K1 hK1
                    go_big_quiet_op
                    refine hK1 _ ?_
                    clear hK1 K1
                    intro K1 hK1
                    go_big_quiet_op
                    refine hK1 _ ?_
                    clear hK1 K1
                    intro K1 hK1
                    go_big_quiet_op
                    refine hK1 _ ?_
                    clear hK1 K1
                    intro K1 hK1
                    go_big_quiet_op
                    refine hK1 _ ?_
                    clear hK1 K1
                    intro K1 hK1
                    go_big_quiet_op
                    refine hK1 _ ?_
                    clear hK1 K1
                    refine hK _ ?_
                    clear hK K
                    refine wpLate_bigK (some 139) w rfl (.bool false) rfl (by kernel_rfl) (fun wk hwk => ?_) (fun K hK => ?_)
                    · generalize hA : Act.eval _ = ρ
                      have s113 : ρ (.tmp 113) = .bool false := by rw [← hA]; kernel_rfl
                      have s138 : ρ (.tmp 138) = undef := by rw [← hA]; kernel_rfl
                      have k2 : ρ (.const (.bool false)) = .bool false := by rw [← hA]; kernel_rfl
                      clear hA
                      go_simp
                    go_big_quiet_op
                    refine hK _ ?_
                    clear hK K
                    refine wpLate_bigK (some 140) w rfl (.bool false) rfl (by kernel_rfl) (fun wk hwk => ?_) (fun K hK => ?_)
                    · generalize hA : Act.eval _ = ρ
                      have s139 : ρ (.tmp 139) = .bool false := by rw [← hA]; kernel_rfl
                      clear hA
                      go_simp
                    go_big_quiet_op
                    refine hK _ ?_
                    clear hK K
                    refine wpLate_bigK (some 141) w rfl (.bool false) rfl (by kernel_rfl) (fun wk hwk => ?_) (fun K hK => ?_)
                    · generalize hA : Act.eval _ = ρ
                      have s8 : ρ (.tmp 8) = .bool false := by rw [← hA]; kernel_rfl
                      clear hA
                      go_simp
                    go_big_quiet_op
                    refine hK _ ?_
                    clear hK K
                    refine wpLate_bigK (some 142) w rfl (.bool true) rfl (by kernel_rfl) (fun wk hwk => ?_) (fun K hK => ?_)
                    · generalize hA : Act.eval _ = ρ
                      have s141 : ρ (.tmp 141) = .bool false := by rw [← hA]; kernel_rfl
                      clear hA
                      go_simp
                    go_big_quiet_op
                    refine hK _ ?_
                    clear hK K
                    refine wpLate_bigK (some 143) w rfl (.bool true) rfl (by kernel_rfl) (fun wk hwk => ?_) (fun K hK => ?_)
                    · generalize hA : Act.eval _ = ρ
                      have s142 : ρ (.tmp 142) = .bool true := by rw [← hA]; kernel_rfl
                      clear hA
                      go_simp
                    go_big_quiet_op
                    refine hK _ ?_
                    clear hK K
                    refine wpLate_bigK (some 144) w rfl (.slice na r'.opens.length nc) rfl (by kernel_rfl) (fun wk hwk => ?_) (fun K hK => ?_)
                    · generalize hA : Act.eval _ = ρ
                      have s14 : ρ (.tmp 14) = .slice na r'.opens.length nc := by rw [← hA]; kernel_rfl
                      clear hA
                      go_simp
                    go_big_quiet_op
                    refine hK _ ?_
                    clear hK K
                    refine wpLate_bigK (some 145) w rfl (.slice oa r.opens.length oc) rfl (by kernel_rfl) (fun wk hwk => ?_) (fun K hK => ?_)
                    · generalize hA : Act.eval _ = ρ
                      have s7 : ρ (.tmp 7) = .slice oa r.opens.length oc := by rw [← hA]; kernel_rfl
                      clear hA
                      go_simp
                    go_big_quiet_op
                    refine hK _ ?_
                    clear hK K
                    refine wpLate_bigSpineK (some 146) w rfl rfl (by kernel_rfl) (fun u => u = .bool true) (fun u wk => AR wr w.heap.size R G pw' sc' m' wr.heap.size ⟨4, k, xat, xmany, xtext⟩ E d (.slice oa r.opens.length oc) r.opens (.slice na r'.opens.length nc) r'.opens wk) (fun u wk => AR wr w.heap.size R G pw' sc' m' wr.heap.size ⟨4, k, xat, xmany, xtext⟩ E d (.slice oa r.opens.length oc) r.opens (.slice na r'.opens.length nc) r'.opens wk) (⟨_, rfl⟩) (fun _ _ h => h) (fun _ _ h => h) (fun wk hwk => ?_) (fun u9 hu9 K hK => ?_)
                    · generalize hA : Act.eval _ = ρ
                      have s144 : ρ (.tmp 144) = .slice na r'.opens.length nc := by rw [← hA]; kernel_rfl
                      have s145 : ρ (.tmp 145) = .slice oa r.opens.length oc := by rw [← hA]; kernel_rfl
                      have sf : ρ (.func 15) = .func (.func 15) #[] #[] := by rw [← hA]; kernel_rfl
                      clear hA
                      go_simp
                      refine (sameDeeds_eq hwk.now (HSO.out wk hwk.aq) (by have := HO'.out.few; omega)).mono ?_
                      rintro e w7 ⟨rfl, hb⟩
                      exact ⟨_, rfl, rfl, hwk.after hb⟩
                    subst hu9
                    go_big_quiet_op
                    refine hK _ ?_
                    clear hK K
                    refine wpLate_bigK (some 147) w rfl (.bool false) rfl (by kernel_rfl) (fun wk hwk => ?_) (fun K hK => ?_)
                    · generalize hA : Act.eval _ = ρ
                      have s146 : ρ (.tmp 146) = .bool true := by rw [← hA]; kernel_rfl
                      clear hA
                      go_simp
                    go_big_quiet_op
                    refine hK _ ?_
                    clear hK K
                    refine wpLate_bigK (some 148) w rfl (.bool false) rfl (by kernel_rfl) (fun wk hwk => ?_) (fun K hK => ?_)
                    · generalize hA : Act.eval _ = ρ
                      have s143 : ρ (.tmp 143) = .bool true := by rw [← hA]; kernel_rfl
                      have s147 : ρ (.tmp 147) = .bool false := by rw [← hA]; kernel_rfl
                      have k2 : ρ (.const (.bool false)) = .bool false := by rw [← hA]; kernel_rfl
                      clear hA
                      go_simp
                    go_big_quiet_op
                    refine hK _ ?_
                    clear hK K
                    refine wpLate_bigK (some 149) w rfl (.bool false) rfl (by kernel_rfl) (fun wk hwk => ?_) (fun K hK => ?_)
                    · generalize hA : Act.eval _ = ρ
                      have s140 : ρ (.tmp 140) = .bool false := by rw [← hA]; kernel_rfl
                      have s148 : ρ (.tmp 148) = .bool false := by rw [← hA]; kernel_rfl
                      have k2 : ρ (.const (.bool true)) = .bool true := by rw [← hA]; kernel_rfl
                      clear hA
                      go_simp
                    go_big_quiet_op
                    refine hK _ ?_
                    clear hK K
                    refine wpLate_nil (fun w14 hw14 => ?_)
                    have H14 : Hid (AR wr w.heap.size R G pw' sc' m' wr.heap.size ⟨4, k, xat, xmany, xtext⟩ E d (.slice oa r.opens.length oc) r.opens (.slice na r'.opens.length nc) r'.opens w14) := hw14
                    clear hw14 H13
                    go_wp2
                    go_roundw
                    case rel => exact ⟨j + 1, m', by omega, by go_num, AQ.rr HR.out H14.out.aq HI7.out⟩
                    case measure => simp [intOf]; omega
                  · obtain rfl : ow = true := by simpa using how
                    clear how
                    have HOE : Hid (r.opens = d :: r'.opens) := (HHO.out rfl).1
                    have HVW : Hid (vw r'.list r'.seen r'.me = vw r.list r.seen r.me) := (HHO.out rfl).2
                    have HLN : Hid (r.opens.length = r'.opens.length + 1) := by show _ = _; rw [HOE.out]; rfl
                    obtain ⟨sv, hsv⟩ : ∃ sv, sv = sliced oa 1 r.opens.length oc 7 := ⟨_, rfl⟩
                    have HSV : Hid (sv = sliced oa 1 r.opens.length oc 7) := hsv
                    clear hsv
                    have HSD : Hid (∀ wk, AQ wr w.heap.size R G pw' sc' m' wr.heap.size ⟨4, k, xat, xmany, xtext⟩ E d (.slice oa r.opens.length oc) r.opens wk → DLst wk sv r'.opens) := fun wk h => by
                      rw [HSV.out, HLN.out]
                      have h1 := h.own.dlst
                      rw [HOE.out] at h1
                      exact dlst_sliced h1
                    clear HHO HHT
                    refine wp_region_late (fun wk => AR wr w.heap.size R G pw' sc' m' wr.heap.size ⟨4, k, xat, xmany, xtext⟩ E d (.slice oa r.opens.length oc) r.opens (.slice na r'.opens.length nc) r'.opens wk) (fun i => i == 9 || i == 12 || i == 20 || i == 24) (fun _ => false) (by kernel_rfl) (by kernel_rfl) (by kernel_rfl) (H13.out.after (Below.refl _ _).drew) ?_
                    refine wpLate_bigK (some 112) w rfl (.bool true) rfl (by kernel_rfl) (fun wk hwk => ?_) (fun K hK => ?_)
                    · generalize hA : Act.eval _ = ρ
                      have s8 : ρ (.tmp 8) = .bool true := by rw [← hA]; kernel_rfl
                      clear hA
                      go_simp
                    go_big_quiet_op
                    refine hK _ ?_
                    clear hK K
                    refine wpLate_bigK (some 113) w rfl (.bool true) rfl (by kernel_rfl) (fun wk hwk => ?_) (fun K hK => ?_)
                    · generalize hA : Act.eval _ = ρ
                      have s112 : ρ (.tmp 112) = .bool true := by rw [← hA]; kernel_rfl
                      clear hA
                      go_simp
                    go_big_quiet_op
                    refine hK _ ?_
                    clear hK K
                    refine wpLate_bigK (some 114) w rfl (.pointer (some ⟨R, 0, none⟩)) rfl (by kernel_rfl) (fun wk hwk => ?_) (fun K hK => ?_)
                    · generalize hA : Act.eval _ = ρ
                      have s3 : ρ (.tmp 3) = .pointer (some ⟨R, 0, none⟩) := by rw [← hA]; kernel_rfl
                      clear hA
                      go_simp
                    go_big_quiet_op
                    refine hK _ ?_
                    clear hK K
                    refine wpLate_bigK (some 115) w rfl (.pointer (some ⟨wr.heap.size, 1, none⟩)) rfl (by kernel_rfl) (fun wk hwk => ?_) (fun K hK => ?_)
                    · generalize hA : Act.eval _ = ρ
                      have s5 : ρ (.tmp 5) = .pointer (some ⟨wr.heap.size, 0, none⟩) := by rw [← hA]; kernel_rfl
                      clear hA
                      go_simp
                    go_big_quiet_op
                    refine hK _ ?_
                    clear hK K
                    refine wpLate_bigK (some 116) w rfl (.int .i64 (k : Int)) rfl (by kernel_rfl) (fun wk hwk => ?_) (fun K hK => ?_)
                    · generalize hA : Act.eval _ = ρ
                      have s115 : ρ (.tmp 115) = .pointer (some ⟨wr.heap.size, 1, none⟩) := by rw [← hA]; kernel_rfl
                      clear hA
                      have c1 := hwk.aq.step.c1
                      simp only [Nat.zero_add] at c1
                      go_simp
                    go_big_quiet_op
                    refine hK _ ?_
                    clear hK K
                    refine wpLate_bigK (some 117) w rfl (.pointer (some ⟨R, 0, none⟩)) rfl (by kernel_rfl) (fun wk hwk => ?_) (fun K hK => ?_)
                    · generalize hA : Act.eval _ = ρ
                      have s114 : ρ (.tmp 114) = .pointer (some ⟨R, 0, none⟩) := by rw [← hA]; kernel_rfl
                      clear hA
                      go_simp
                    go_big_quiet_op
                    refine hK _ ?_
                    clear hK K
                    refine wpLate_bigK (some 118) w rfl (.pointer (some ⟨R, 1, none⟩)) rfl (by kernel_rfl) (fun wk hwk => ?_) (fun K hK => ?_)
                    · generalize hA : Act.eval _ = ρ
                      have s117 : ρ (.tmp 117) = .pointer (some ⟨R, 0, none⟩) := by rw [← hA]; kernel_rfl
                      clear hA
                      go_simp
                    go_big_quiet_op
                    refine hK _ ?_
                    clear hK K
                    refine wpLate_bigK (some 119) w rfl (.pointer (some ⟨R, 1 + k, none⟩)) rfl (by kernel_rfl) (fun wk hwk => ?_) (fun K hK => ?_)
                    · generalize hA : Act.eval _ = ρ
                      have s118 : ρ (.tmp 118) = .pointer (some ⟨R, 1, none⟩) := by rw [← hA]; kernel_rfl
                      have s116 : ρ (.tmp 116) = .int .i64 (k : Int) := by rw [← hA]; kernel_rfl
                      clear hA
                      go_simp
                    go_big_quiet_op
                    refine hK _ ?_
                    clear hK K
                    refine wpLate_bigK (some 120) w rfl (.pointer (some ⟨pw' k, 0, none⟩)) rfl (by kernel_rfl) (fun wk hwk => ?_) (fun K hK => ?_)
                    · generalize hA : Act.eval _ = ρ
                      have s119 : ρ (.tmp 119) = .pointer (some ⟨R, 1 + k, none⟩) := by rw [← hA]; kernel_rfl
                      clear hA
                      have g1 := hwk.aq.room.cells.wr k hk
                      simp only [hps', ptrOf, if_true] at g1
                      go_simp
                    go_big_quiet_op
                    refine hK _ ?_
                    clear hK K
                    refine wpLate_bigSpineK (some 121) w rfl rfl (by kernel_rfl) (fun u => u = .string (strOfNums (vw r.list r.seen r.me))) (fun u wk => AR wr w.heap.size R G pw' sc' m' wr.heap.size ⟨4, k, xat, xmany, xtext⟩ E d (.slice oa r.opens.length oc) r.opens (.slice na r'.opens.length nc) r'.opens wk) (fun u wk => AR wr w.heap.size R G pw' sc' m' wr.heap.size ⟨4, k, xat, xmany, xtext⟩ E d (.slice oa r.opens.length oc) r.opens (.slice na r'.opens.length nc) r'.opens wk) (⟨_, rfl⟩) (fun _ _ h => h) (fun _ _ h => h) (fun wk hwk => ?_) (fun u9 hu9 K hK => ?_)
                    · generalize hA : Act.eval _ = ρ
                      have s120 : ρ (.tmp 120) = .pointer (some ⟨pw' k, 0, none⟩) := by rw [← hA]; kernel_rfl
                      have sf : ρ (.func 12) = .func (.func 12) #[] #[] := by rw [← hA]; kernel_rfl
                      clear hA
                      go_simp
                      obtain ⟨S, lv, ov, tvs, hp, _⟩ := hwk.aq.room.wr hk HP'.out
                      refine (text_pw hp (by have := HO'.out.len; omega)).mono ?_
                      rintro e w7 ⟨rfl, hb⟩
                      rw [HVW.out]
                      exact ⟨_, rfl, rfl, hwk.after hb⟩
                    subst hu9
                    go_big_quiet_op
                    refine hK _ ?_
                    clear hK K
                    refine wpLate_bigK (some 122) w rfl (.string (strOfNums (vw r.list r.seen r.me))) rfl (by kernel_rfl) (fun wk hwk => ?_) (fun K hK => ?_)
                    · generalize hA : Act.eval _ = ρ
                      have s6 : ρ (.tmp 6) = .string (strOfNums (vw r.list r.seen r.me)) := by rw [← hA]; kernel_rfl
                      clear hA
                      go_simp
                    go_big_quiet_op
                    refine hK _ ?_
                    clear hK K
                    refine wpLate_bigK (some 123) w rfl (.bool false) rfl (by kernel_rfl) (fun wk hwk => ?_) (fun K hK => ?_)
                    · generalize hA : Act.eval _ = ρ
                      have s121 : ρ (.tmp 121) = .string (strOfNums (vw r.list r.seen r.me)) := by rw [← hA]; kernel_rfl
                      have s122 : ρ (.tmp 122) = .string (strOfNums (vw r.list r.seen r.me)) := by rw [← hA]; kernel_rfl
                      clear hA
                      go_simp
                    go_big_quiet_op
                    refine hK _ ?_
                    clear hK K
                    refine wpLate_bigSpineK (some 124) w rfl rfl (by kernel_rfl) (fun u => u = .bool false) (fun u wk => AR wr w.heap.size R G pw' sc' m' wr.heap.size ⟨4, k, xat, xmany, xtext⟩ E d (.slice oa r.opens.length oc) r.opens (.slice na r'.opens.length nc) r'.opens wk) (fun u wk => AR wr w.heap.size R G pw' sc' m' wr.heap.size ⟨4, k, xat, xmany, xtext⟩ E d (.slice oa r.opens.length oc) r.opens (.slice na r'.opens.length nc) r'.opens wk) (⟨_, rfl⟩) (fun _ _ h => h) (fun _ _ h => h) (fun wk hwk => ?_) (fun u9 hu9 K hK => ?_)
                    · generalize hA : Act.eval _ = ρ
                      have s123 : ρ (.tmp 123) = .bool false := by rw [← hA]; kernel_rfl
                      clear hA
                      go_simp
                      exact ⟨rfl, hwk⟩
                    subst hu9
                    go_big_quiet_op
                    refine hK _ ?_
                    clear hK K
                    refine wpLate_bigK (some 125) w rfl (.slice na r'.opens.length nc) rfl (by kernel_rfl) (fun wk hwk => ?_) (fun K hK => ?_)
                    · generalize hA : Act.eval _ = ρ
                      have s14 : ρ (.tmp 14) = .slice na r'.opens.length nc := by rw [← hA]; kernel_rfl
                      clear hA
                      go_simp
                    go_big_quiet_op
                    refine hK _ ?_
                    clear hK K
                    refine wpLate_bigK (some 126) w rfl (.int .i64 (r'.opens.length : Int)) rfl (by kernel_rfl) (fun wk hwk => ?_) (fun K hK => ?_)
                    · generalize hA : Act.eval _ = ρ
                      have s125 : ρ (.tmp 125) = .slice na r'.opens.length nc := by rw [← hA]; kernel_rfl
                      clear hA
                      go_simp
                    go_big_quiet_op
                    refine hK _ ?_
                    clear hK K
                    refine wpLate_bigK (some 127) w rfl (.int .i64 ((r'.opens.length : Int) + 1)) rfl (by kernel_rfl) (fun wk hwk => ?_) (fun K hK => ?_)
                    · generalize hA : Act.eval _ = ρ
                      have s126 : ρ (.tmp 126) = .int .i64 (r'.opens.length : Int) := by rw [← hA]; kernel_rfl
                      have k1 : ρ (.const (.int .i64 1)) = .int .i64 1 := by rw [← hA]; kernel_rfl
                      clear hA
                      have hfw := HO'.out.few
                      go_simp
                      rw [wrapEq]
                      unfold wrap64
                      omega
                    go_big_quiet_op
                    refine hK _ ?_
                    clear hK K
                    refine wpLate_bigK (some 128) w rfl (.slice oa r.opens.length oc) rfl (by kernel_rfl) (fun wk hwk => ?_) (fun K hK => ?_)
                    · generalize hA : Act.eval _ = ρ
                      have s7 : ρ (.tmp 7) = .slice oa r.opens.length oc := by rw [← hA]; kernel_rfl
                      clear hA
                      go_simp
                    go_big_quiet_op
                    refine hK _ ?_
                    clear hK K
                    refine wpLate_bigK (some 129) w rfl (.int .i64 ((r'.opens.length : Int) + 1)) rfl (by kernel_rfl) (fun wk hwk => ?_) (fun K hK => ?_)
                    · generalize hA : Act.eval _ = ρ
                      have s128 : ρ (.tmp 128) = .slice oa r.opens.length oc := by rw [← hA]; kernel_rfl
                      clear hA
                      have hle := HLN.out
                      first
                        | (go_simp; done)
                        | (go_simp; omega)
                    go_big_quiet_op
                    refine hK _ ?_
                    clear hK K
                    refine wpLate_bigK (some 130) w rfl (.bool false) rfl (by kernel_rfl) (fun wk hwk => ?_) (fun K hK => ?_)
                    · generalize hA : Act.eval _ = ρ
                      have s127 : ρ (.tmp 127) = .int .i64 ((r'.opens.length : Int) + 1) := by rw [← hA]; kernel_rfl
                      have s129 : ρ (.tmp 129) = .int .i64 ((r'.opens.length : Int) + 1) := by rw [← hA]; kernel_rfl
                      clear hA
                      go_simp
                    go_big_quiet_op
                    refine hK _ ?_
                    clear hK K
                    refine wpLate_bigK (some 131) w rfl (.bool false) rfl (by kernel_rfl) (fun wk hwk => ?_) (fun K hK => ?_)
                    · generalize hA : Act.eval _ = ρ
                      have s124 : ρ (.tmp 124) = .bool false := by rw [← hA]; kernel_rfl
                      have s130 : ρ (.tmp 130) = .bool false := by rw [← hA]; kernel_rfl
                      have k2 : ρ (.const (.bool true)) = .bool true := by rw [← hA]; kernel_rfl
                      clear hA
                      go_simp
                    go_big_quiet_op
                    refine hK _ ?_
                    clear hK K
                    refine wpLate_bigSpineK (some 132) w rfl rfl (by kernel_rfl) (fun u => u = .bool false) (fun u wk => AR wr w.heap.size R G pw' sc' m' wr.heap.size ⟨4, k, xat, xmany, xtext⟩ E d (.slice oa r.opens.length oc) r.opens (.slice na r'.opens.length nc) r'.opens wk) (fun u wk => AR wr w.heap.size R G pw' sc' m' wr.heap.size ⟨4, k, xat, xmany, xtext⟩ E d (.slice oa r.opens.length oc) r.opens (.slice na r'.opens.length nc) r'.opens wk) (⟨_, rfl⟩) (fun _ _ h => h) (fun _ _ h => h) (fun wk hwk => ?_) (fun u9 hu9 K hK => ?_)
                    · generalize hA : Act.eval _ = ρ
                      have s131 : ρ (.tmp 131) = .bool false := by rw [← hA]; kernel_rfl
                      clear hA
                      go_simp
                      exact ⟨rfl, hwk⟩
                    subst hu9
                    go_big_quiet_op
                    refine hK _ ?_
                    clear hK K
                    refine wpLate_bigK (some 133) w rfl (.slice na r'.opens.length nc) rfl (by kernel_rfl) (fun wk hwk => ?_) (fun K hK => ?_)
                    · generalize hA : Act.eval _ = ρ
                      have s14 : ρ (.tmp 14) = .slice na r'.opens.length nc := by rw [← hA]; kernel_rfl
                      clear hA
                      go_simp
                    go_big_quiet_op
                    refine hK _ ?_
                    clear hK K
                    refine wpLate_bigK (some 134) w rfl (.slice oa r.opens.length oc) rfl (by kernel_rfl) (fun wk hwk => ?_) (fun K hK => ?_)
                    · generalize hA : Act.eval _ = ρ
                      have s7 : ρ (.tmp 7) = .slice oa r.opens.length oc := by rw [← hA]; kernel_rfl
                      clear hA
                      go_simp
                    go_big_quiet_op
                    refine hK _ ?_
                    clear hK K
                    refine wpLate_big (some 135) w rfl sv rfl (by kernel_rfl) (fun wk hwk => ?_) ?_
                    · refine exec_slice rfl ?_
                      generalize hA : Act.eval _ = ρ
                      have s1 : ρ (.tmp 134) = .slice oa r.opens.length oc := by rw [← hA]; kernel_rfl
                      have s2 : ρ (.const (.int .i64 1)) = .int .i64 1 := by rw [← hA]; kernel_rfl
                      simp only [Option.map_some, Option.map_none, s1, s2]
                      rw [HSV.out]
                      exact run_dropD oa r.opens.length oc 1 (by have := HLN.out; omega) wk
                    go_big_quiet_op
                    refine wpLate_bigSpineK (some 136) w rfl rfl (by kernel_rfl) (fun u => u = .bool true) (fun u wk => AR wr w.heap.size R G pw' sc' m' wr.heap.size ⟨4, k, xat, xmany, xtext⟩ E d (.slice oa r.opens.length oc) r.opens (.slice na r'.opens.length nc) r'.opens wk) (fun u wk => AR wr w.heap.size R G pw' sc' m' wr.heap.size ⟨4, k, xat, xmany, xtext⟩ E d (.slice oa r.opens.length oc) r.opens (.slice na r'.opens.length nc) r'.opens wk) (⟨_, rfl⟩) (fun _ _ h => h) (fun _ _ h => h) (fun wk hwk => ?_) (fun u9 hu9 K hK => ?_)
                    · generalize hA : Act.eval _ = ρ
                      have s133 : ρ (.tmp 133) = .slice na r'.opens.length nc := by rw [← hA]; kernel_rfl
                      have s135 : ρ (.tmp 135) = sv := by rw [← hA]; kernel_rfl
                      have sf : ρ (.func 15) = .func (.func 15) #[] #[] := by rw [← hA]; kernel_rfl
                      clear hA
                      go_simp
                      refine (sameDeeds_eq hwk.now (HSD.out wk hwk.aq) (by have := HO'.out.few; omega)).mono ?_
                      rintro e w7 ⟨rfl, hb⟩
                      exact ⟨_, rfl, rfl, hwk.after hb⟩
                    subst hu9
                    go_big_quiet_op
                    refine hK _ ?_
                    clear hK K
                    refine wpLate_bigK (some 137) w rfl (.bool false) rfl (by kernel_rfl) (fun wk hwk => ?_) (fun K hK => ?_)
                    · generalize hA : Act.eval _ = ρ
                      have s136 : ρ (.tmp 136) = .bool true := by rw [← hA]; kernel_rfl
                      clear hA
                      go_simp
                    go_big_quiet_op
                    refine hK _ ?_
                    clear hK K
                    refine wpLate_bigK (some 138) w rfl (.bool false) rfl (by kernel_rfl) (fun wk hwk => ?_) (fun K hK => ?_)
                    · generalize hA : Act.eval _ = ρ
                      have s132 : ρ (.tmp 132) = .bool false := by rw [← hA]; kernel_rfl
                      have s137 : ρ (.tmp 137) = .bool false := by rw [← hA]; kernel_rfl
                      have k2 : ρ (.const (.bool true)) = .bool true := by rw [← hA]; kernel_rfl
                      clear hA
                      go_simp
                    go_big_quiet_op
                    refine hK _ ?_
                    clear hK K
                    refine wpLate_bigK (some 139) w rfl (.bool false) rfl (by kernel_rfl) (fun wk hwk => ?_) (fun K hK => ?_)
                    · generalize hA : Act.eval _ = ρ
                      have s113 : ρ (.tmp 113) = .bool true := by rw [← hA]; kernel_rfl
                      have s138 : ρ (.tmp 138) = .bool false := by rw [← hA]; kernel_rfl
                      have k2 : ρ (.const (.bool false)) = .bool false := by rw [← hA]; kernel_rfl
                      clear hA
                      go_simp
                    go_big_quiet_op
                    refine hK _ ?_
                    clear hK K
                    refine wpLate_bigK (some 140) w rfl (.bool false) rfl (by kernel_rfl) (fun wk hwk => ?_) (fun K hK => ?_)
                    · generalize hA : Act.eval _ = ρ
                      have s139 : ρ (.tmp 139) = .bool false := by rw [← hA]; kernel_rfl
                      clear hA
                      go_simp
                    go_big_quiet_op
                    refine hK _ ?_
                    clear hK K
                    refine wpLate_bigK (some 141) w rfl (.bool true) rfl (by kernel_rfl) (fun wk hwk => ?_) (fun K hK => ?_)
                    · generalize hA : Act.eval _ = ρ
                      have s8 : ρ (.tmp 8) = .bool true := by rw [← hA]; kernel_rfl
                      clear hA
                      go_simp
                    go_big_quiet_op
                    refine hK _ ?_
                    clear hK K
                    refine wpLate_bigK (some 142) w rfl (.bool false) rfl (by kernel_rfl) (fun wk hwk => ?_) (fun K hK => ?_)
                    · generalize hA : Act.eval _ = ρ
                      have s141 : ρ (.tmp 141) = .bool true := by rw [← hA]; kernel_rfl
                      clear hA
                      go_simp
                    go_big_quiet_op
                    refine hK _ ?_
                    clear hK K
                    refine wpLate_bigK (some 143) w rfl (.bool false) rfl (by kernel_rfl) (fun wk hwk => ?_) (fun K hK => ?_)
                    · generalize hA : Act.eval _ = ρ
                      have s142 : ρ (.tmp 142) = .bool false := by rw [← hA]; kernel_rfl
                      clear hA
                      go_simp
                    go_big_quiet_op
                    refine hK _ ?_
                    clear hK K
                    refine wpLate_bigSkipK (some 144) w rfl rfl (by kernel_rfl) (fun K hK => ?_)
                    go_big_quiet_op
                    refine hK _ ?_
                    clear hK K
                    refine wpLate_bigSkipK (some 145) w rfl rfl (by kernel_rfl) (fun K hK => ?_)
                    go_big_quiet_op
                    refine hK _ ?_
                    clear hK K
                    refine wpLate_bigSkipK (some 146) w rfl rfl (by kernel_rfl) (fun K hK => ?_)
                    go_big_quiet_op
                    refine hK _ ?_
                    clear hK K
                    refine wpLate_bigSkipK (some 147) w rfl rfl (by kernel_rfl) (fun K hK => ?_)
                    go_big_quiet_op
                    refine hK _ ?_
                    clear hK K
                    refine wpLate_bigK (some 148) w rfl (.bool false) rfl (by kernel_rfl) (fun wk hwk => ?_) (fun K hK => ?_)
                    · generalize hA : Act.eval _ = ρ
                      have s143 : ρ (.tmp 143) = .bool false := by rw [← hA]; kernel_rfl
                      have s147 : ρ (.tmp 147) = undef := by rw [← hA]; kernel_rfl
                      have k2 : ρ (.const (.bool false)) = .bool false := by rw [← hA]; kernel_rfl
                      clear hA
                      go_simp
                    go_big_quiet_op
                    refine hK _ ?_
                    clear hK K
                    refine wpLate_bigK (some 149) w rfl (.bool false) rfl (by kernel_rfl) (fun wk hwk => ?_) (fun K hK => ?_)
                    · generalize hA : Act.eval _ = ρ
                      have s140 : ρ (.tmp 140) = .bool false := by rw [← hA]; kernel_rfl
                      have s148 : ρ (.tmp 148) = .bool false := by rw [← hA]; kernel_rfl
                      have k2 : ρ (.const (.bool true)) = .bool true := by rw [← hA]; kernel_rfl
                      clear hA
                      go_simp
                    go_big_quiet_op
                    refine hK _ ?_
                    clear hK K
                    refine wpLate_nil (fun w14 hw14 => ?_)
                    have H14 : Hid (AR wr w.heap.size R G pw' sc' m' wr.heap.size ⟨4, k, xat, xmany, xtext⟩ E d (.slice oa r.opens.length oc) r.opens (.slice na r'.opens.length nc) r'.opens w14) := hw14
                    clear hw14 H13
                    go_wp2
                    go_roundw
                    case rel => exact ⟨j + 1, m', by omega, by go_num, AQ.rr HR.out H14.out.aq HI7.out⟩
                    case measure => simp [intOf]; omega
                · go_wp2_with fail
                  go_ret
                  exact ⟨rfl, HBL.out⟩
              · have HIS : Hid (isD m.b ((r.seen : Int) + 1) = false) := is_no hs
                refine wp_region_grow (fun wk => RIn wr w.heap.size R G pw sc false (fun _ => False) m ⟨4, k, xat, xmany, xtext⟩ [] wk) (fun i => i == 17 || i == 18) (fun wk => RIn wr w.heap.size R G pw sc false (fun _ => False) m ⟨4, k, xat, xmany, xtext⟩ [] wk) (by kernel_rfl) (by kernel_rfl) (by kernel_rfl) (fun _ h => h) (RIn.shut) (HI6.out.after (Below.refl _ _).drew) ?_
                refine wpGrow_big (some 49) w rfl (.pointer (some ⟨R, 0, none⟩)) rfl (by kernel_rfl) (fun wk hwk => ?_) ?_
                · refine growUpon_same ?_
                  generalize hA : Act.eval _ = ρ
                  have s3 : ρ (.tmp 3) = .pointer (some ⟨R, 0, none⟩) := by rw [← hA]; kernel_rfl
                  clear hA
                  go_simp
                go_big_quiet_op
                refine wpGrow_big (some 50) w rfl (.pointer (some ⟨R, 0, none⟩)) rfl (by kernel_rfl) (fun wk hwk => ?_) ?_
                · refine growUpon_same ?_
                  generalize hA : Act.eval _ = ρ
                  have s49 : ρ (.tmp 49) = .pointer (some ⟨R, 0, none⟩) := by rw [← hA]; kernel_rfl
                  clear hA
                  go_simp
                go_big_quiet_op
                refine wpGrow_big (some 51) w rfl (.pointer (some ⟨R, 0, none⟩)) rfl (by kernel_rfl) (fun wk hwk => ?_) ?_
                · refine growUpon_same ?_
                  generalize hA : Act.eval _ = ρ
                  have s50 : ρ (.tmp 50) = .pointer (some ⟨R, 0, none⟩) := by rw [← hA]; kernel_rfl
                  clear hA
                  go_simp
                go_big_quiet_op
                refine wpGrow_big (some 52) w rfl (.pointer (some ⟨G, 0, none⟩)) rfl (by kernel_rfl) (fun wk hwk => ?_) ?_
                · refine growUpon_same ?_
                  generalize hA : Act.eval _ = ρ
                  have s51 : ρ (.tmp 51) = .pointer (some ⟨R, 0, none⟩) := by rw [← hA]; kernel_rfl
                  clear hA
                  have g0 := hwk.room.cells.log
                  go_simp
                go_big_quiet_op
                refine wpGrow_big (some 53) w rfl (.pointer (some ⟨R, 0, none⟩)) rfl (by kernel_rfl) (fun wk hwk => ?_) ?_
                · refine growUpon_same ?_
                  generalize hA : Act.eval _ = ρ
                  have s3 : ρ (.tmp 3) = .pointer (some ⟨R, 0, none⟩) := by rw [← hA]; kernel_rfl
                  clear hA
                  go_simp
                go_big_quiet_op
                refine wpGrow_big (some 54) w rfl (.pointer (some ⟨wr.heap.size, 1, none⟩)) rfl (by kernel_rfl) (fun wk hwk => ?_) ?_
                · refine growUpon_same ?_
                  generalize hA : Act.eval _ = ρ
                  have s5 : ρ (.tmp 5) = .pointer (some ⟨wr.heap.size, 0, none⟩) := by rw [← hA]; kernel_rfl
                  clear hA
                  go_simp
                go_big_quiet_op
                refine wpGrow_big (some 55) w rfl (.int .i64 (k : Int)) rfl (by kernel_rfl) (fun wk hwk => ?_) ?_
                · refine growUpon_same ?_
                  generalize hA : Act.eval _ = ρ
                  have s54 : ρ (.tmp 54) = .pointer (some ⟨wr.heap.size, 1, none⟩) := by rw [← hA]; kernel_rfl
                  clear hA
                  have c1 := hwk.step.c1
                  simp only [Nat.zero_add] at c1
                  go_simp
                go_big_quiet_op
                refine wpGrow_big (some 56) w rfl (.pointer (some ⟨R, 0, none⟩)) rfl (by kernel_rfl) (fun wk hwk => ?_) ?_
                · refine growUpon_same ?_
                  generalize hA : Act.eval _ = ρ
                  have s53 : ρ (.tmp 53) = .pointer (some ⟨R, 0, none⟩) := by rw [← hA]; kernel_rfl
                  clear hA
                  go_simp
                go_big_quiet_op
                refine wpGrow_big (some 57) w rfl (.pointer (some ⟨R, 1, none⟩)) rfl (by kernel_rfl) (fun wk hwk => ?_) ?_
                · refine growUpon_same ?_
                  generalize hA : Act.eval _ = ρ
                  have s56 : ρ (.tmp 56) = .pointer (some ⟨R, 0, none⟩) := by rw [← hA]; kernel_rfl
                  clear hA
                  go_simp
                go_big_quiet_op
                refine wpGrow_big (some 58) w rfl (.pointer (some ⟨R, 1 + k, none⟩)) rfl (by kernel_rfl) (fun wk hwk => ?_) ?_
                · refine growUpon_same ?_
                  generalize hA : Act.eval _ = ρ
                  have s57 : ρ (.tmp 57) = .pointer (some ⟨R, 1, none⟩) := by rw [← hA]; kernel_rfl
                  have s55 : ρ (.tmp 55) = .int .i64 (k : Int) := by rw [← hA]; kernel_rfl
                  clear hA
                  go_simp
                go_big_quiet_op
                refine wpGrow_big (some 59) w rfl (.pointer (some ⟨pw k, 0, none⟩)) rfl (by kernel_rfl) (fun wk hwk => ?_) ?_
                · refine growUpon_same ?_
                  generalize hA : Act.eval _ = ρ
                  have s58 : ρ (.tmp 58) = .pointer (some ⟨R, 1 + k, none⟩) := by rw [← hA]; kernel_rfl
                  clear hA
                  have g1 := hwk.room.cells.wr k hk
                  simp only [hps, ptrOf, if_true] at g1
                  go_simp
                go_big_quiet_op
                refine wpGrow_big (some 60) w rfl (.int .i64 ((r.seen : Int))) rfl (by kernel_rfl) (fun wk hwk => ?_) ?_
                · generalize hA : Act.eval _ = ρ
                  have s59 : ρ (.tmp 59) = .pointer (some ⟨pw k, 0, none⟩) := by rw [← hA]; kernel_rfl
                  have sf : ρ (.func 11) = .func (.func 11) #[] #[] := by rw [← hA]; kernel_rfl
                  clear hA
                  unfold growUpon
                  go_simp
                  obtain ⟨S, lv, ov, tvs, hp, _⟩ := hwk.wr hk HP.out
                  refine (seen_pw hp).mono ?_
                  rintro e w7 ⟨rfl, rfl⟩
                  exact ⟨rfl, Below.refl _ _⟩
                go_big_quiet_op
                refine wpGrow_big (some 61) w rfl (.int .i64 ((r.seen : Int) + 1)) rfl (by kernel_rfl) (fun wk hwk => ?_) ?_
                · refine growUpon_same ?_
                  generalize hA : Act.eval _ = ρ
                  have s60 : ρ (.tmp 60) = .int .i64 ((r.seen : Int)) := by rw [← hA]; kernel_rfl
                  have k1 : ρ (.const (.int .i64 1)) = .int .i64 1 := by rw [← hA]; kernel_rfl
                  clear hA
                  have hsn := HO.out.seen
                  go_simp
                  rw [wrapEq]
                  unfold wrap64
                  omega
                go_big_quiet_op
                refine wpGrow_big (some 62) w rfl (.tuple #[ddV d, .bool false]) rfl (by kernel_rfl) (fun wk hwk => ?_) ?_
                · generalize hA : Act.eval _ = ρ
                  have s52 : ρ (.tmp 52) = .pointer (some ⟨G, 0, none⟩) := by rw [← hA]; kernel_rfl
                  have s61 : ρ (.tmp 61) = .int .i64 ((r.seen : Int) + 1) := by rw [← hA]; kernel_rfl
                  have sf : ρ (.func 10) = .func (.func 10) #[] #[] := by rw [← hA]; kernel_rfl
                  clear hA
                  unfold growUpon
                  go_simp
                  obtain ⟨S, dv, lv, hl, _⟩ := hwk.log
                  refine (deed_lg hl HR.out.inv.good.small _).mono ?_
                  rintro e w7 ⟨rfl, hb⟩
                  exact ⟨by rw [HND.out, HIS.out], hb⟩
                go_big_quiet_op
                refine wpGrow_big (some 48) w rfl (.tuple #[ddV d, .bool false]) rfl (by kernel_rfl) (fun wk hwk => ?_) ?_
                · refine growUpon_same ?_
                  generalize hA : Act.eval _ = ρ
                  have s62 : ρ (.tmp 62) = .tuple #[ddV d, .bool false] := by rw [← hA]; kernel_rfl
                  clear hA
                  go_simp
                go_big_quiet_op
                refine wpGrow_big (some 63) w rfl (ddV d) rfl (by kernel_rfl) (fun wk hwk => ?_) ?_
                · refine growUpon_same ?_
                  generalize hA : Act.eval _ = ρ
                  have s48 : ρ (.tmp 48) = .tuple #[ddV d, .bool false] := by rw [← hA]; kernel_rfl
                  clear hA
                  go_simp
                go_big_quiet_op
                refine wpGrow_big (some 64) w rfl (.bool false) rfl (by kernel_rfl) (fun wk hwk => ?_) ?_
                · refine growUpon_same ?_
                  generalize hA : Act.eval _ = ρ
                  have s48 : ρ (.tmp 48) = .tuple #[ddV d, .bool false] := by rw [← hA]; kernel_rfl
                  clear hA
                  go_simp
                go_big_quiet_op
                refine wpGrow_bigSpine (some 10) w rfl rfl rfl (fun u => ∃ E, u = .pointer (some ⟨E, 0, none⟩)) (fun u wk => ∃ E, u = .pointer (some ⟨E, 0, none⟩) ∧ RBox wr w.heap.size R G pw sc false (fun _ => False) m ⟨4, k, xat, xmany, xtext⟩ [] E ⟨0, 0, 0, 0, 0, 0, ⟨#[]⟩⟩ wk) (⟨.pointer (some ⟨0, 0, none⟩), 0, rfl⟩) (fun _ _ ⟨_, _, h⟩ => h.ri.fewer (fun _ e => by cases e)) (fun _ _ _ ⟨E, e, h⟩ hb => ⟨E, e, RBox.shut _ _ h hb⟩) (fun wk hwk => ?_) (fun u11 hu11 => ?_)
                · generalize hA : Act.eval _ = ρ
                  clear hA
                  have hq := hwk.lay (fun _ e => e.elim)
                  go_simp
                  exact ⟨⟨_, rfl⟩, _, rfl, hq⟩
                obtain ⟨E, rfl⟩ := hu11
                go_big_quiet_op
                refine wpGrow_bigStore rfl rfl rfl (fun wk => RBox wr w.heap.size R G pw sc false (fun _ => False) m ⟨4, k, xat, xmany, xtext⟩ [] E d wk) (fun _ h => h.ri.fewer (fun _ e => by cases e)) (RBox.shut) (fun wk hwk => ?_) ?_
                · generalize hA : Act.eval _ = ρ
                  have s10 : ρ (.tmp 10) = .pointer (some ⟨E, 0, none⟩) := by rw [← hA]; kernel_rfl
                  have s63 : ρ (.tmp 63) = ddV d := by rw [← hA]; kernel_rfl
                  clear hA
                  obtain ⟨E', he, hq⟩ := hwk
                  obtain rfl : E = E' := by simpa using he
                  clear he
                  have hst := hq.store d
                  obtain ⟨hlt, c0, c1, c2, c3, c4, c5, c6⟩ := hq.ri.deeds (E, ⟨0, 0, 0, 0, 0, 0, ⟨#[]⟩⟩) (by simp)
                  simp only [Nat.zero_add] at hlt c0 c1 c2 c3 c4 c5 c6
                  have f0 := hq.free 0 (by omega)
                  have f1 := hq.free 1 (by omega)
                  have f2 := hq.free 2 (by omega)
                  have f3 := hq.free 3 (by omega)
                  have f4 := hq.free 4 (by omega)
                  have f5 := hq.free 5 (by omega)
                  have f6 := hq.free 6 (by omega)
                  go_simp
                  exact hst
                refine wpGrow_big (some 11) w rfl (.bool false) rfl (by kernel_rfl) (fun wk hwk => ?_) ?_
                · refine growUpon_same ?_
                  generalize hA : Act.eval _ = ρ
                  have s64 : ρ (.tmp 64) = .bool false := by rw [← hA]; kernel_rfl
                  clear hA
                  go_simp
                go_big_quiet_op
                refine wpGrow_nil (fun w9 hw9 => ?_)
                have H9 : Hid (RIn wr w.heap.size R G pw sc false (fun _ => False) m ⟨4, k, xat, xmany, xtext⟩ [(E, d)] w9) := hw9.ri
                clear hw9 HI6
                obtain ⟨_, b0, b1, b2, b3, b4, b5, b6⟩ := H9.out.deeds (E, d) (by simp)
                obtain ⟨_, c0, c1, c2, c3, c4⟩ := H9.out.step
                simp only [Nat.zero_add] at b0 b1 b2 b3 b4 b5 b6 c0 c1 c2 c3 c4
                go_wp2_with fail
                clear b0 b1 b2 b3 b4 b5 b6 c0 c1 c2 c3 c4
                refine wp_region_grow (fun wk => RIn wr w.heap.size R G pw sc false (fun _ => False) m ⟨4, k, xat, xmany, xtext⟩ [] wk) (fun i => i == 15) (fun wk => RIn wr w.heap.size R G pw sc false (fun _ => False) m ⟨4, k, xat, xmany, xtext⟩ [(E, d)] wk) (by kernel_rfl) (by kernel_rfl) (by kernel_rfl) (fun _ h => h.fewer (fun _ e => by cases e)) (RIn.shut) (H9.out.after (Below.refl _ _).drew) ?_
                refine wpGrow_big (some 74) w rfl (.pointer (some ⟨R, 0, none⟩)) rfl (by kernel_rfl) (fun wk hwk => ?_) ?_
                · refine growUpon_same ?_
                  generalize hA : Act.eval _ = ρ
                  have s3 : ρ (.tmp 3) = .pointer (some ⟨R, 0, none⟩) := by rw [← hA]; kernel_rfl
                  clear hA
                  go_simp
                go_big_quiet_op
                refine wpGrow_big (some 75) w rfl (.pointer (some ⟨wr.heap.size, 1, none⟩)) rfl (by kernel_rfl) (fun wk hwk => ?_) ?_
                · refine growUpon_same ?_
                  generalize hA : Act.eval _ = ρ
                  have s5 : ρ (.tmp 5) = .pointer (some ⟨wr.heap.size, 0, none⟩) := by rw [← hA]; kernel_rfl
                  clear hA
                  go_simp
                go_big_quiet_op
                refine wpGrow_big (some 76) w rfl (.int .i64 (k : Int)) rfl (by kernel_rfl) (fun wk hwk => ?_) ?_
                · refine growUpon_same ?_
                  generalize hA : Act.eval _ = ρ
                  have s75 : ρ (.tmp 75) = .pointer (some ⟨wr.heap.size, 1, none⟩) := by rw [← hA]; kernel_rfl
                  clear hA
                  have c1 := hwk.step.c1
                  simp only [Nat.zero_add] at c1
                  go_simp
                go_big_quiet_op
                refine wpGrow_big (some 77) w rfl (.pointer (some ⟨R, 0, none⟩)) rfl (by kernel_rfl) (fun wk hwk => ?_) ?_
                · refine growUpon_same ?_
                  generalize hA : Act.eval _ = ρ
                  have s74 : ρ (.tmp 74) = .pointer (some ⟨R, 0, none⟩) := by rw [← hA]; kernel_rfl
                  clear hA
                  go_simp
                go_big_quiet_op
                refine wpGrow_big (some 78) w rfl (.pointer (some ⟨R, 1, none⟩)) rfl (by kernel_rfl) (fun wk hwk => ?_) ?_
                · refine growUpon_same ?_
                  generalize hA : Act.eval _ = ρ
                  have s77 : ρ (.tmp 77) = .pointer (some ⟨R, 0, none⟩) := by rw [← hA]; kernel_rfl
                  clear hA
                  go_simp
                go_big_quiet_op
                refine wpGrow_big (some 79) w rfl (.pointer (some ⟨R, 1 + k, none⟩)) rfl (by kernel_rfl) (fun wk hwk => ?_) ?_
                · refine growUpon_same ?_
                  generalize hA : Act.eval _ = ρ
                  have s78 : ρ (.tmp 78) = .pointer (some ⟨R, 1, none⟩) := by rw [← hA]; kernel_rfl
                  have s76 : ρ (.tmp 76) = .int .i64 (k : Int) := by rw [← hA]; kernel_rfl
                  clear hA
                  go_simp
                go_big_quiet_op
                refine wpGrow_big (some 80) w rfl (.pointer (some ⟨pw k, 0, none⟩)) rfl (by kernel_rfl) (fun wk hwk => ?_) ?_
                · refine growUpon_same ?_
                  generalize hA : Act.eval _ = ρ
                  have s79 : ρ (.tmp 79) = .pointer (some ⟨R, 1 + k, none⟩) := by rw [← hA]; kernel_rfl
                  clear hA
                  have g1 := hwk.room.cells.wr k hk
                  simp only [hps, ptrOf, if_true] at g1
                  go_simp
                go_big_quiet_op
                refine wpGrow_big (some 81) w rfl (.string (strOfNums (vw r.list r.seen r.me))) rfl (by kernel_rfl) (fun wk hwk => ?_) ?_
                · generalize hA : Act.eval _ = ρ
                  have s80 : ρ (.tmp 80) = .pointer (some ⟨pw k, 0, none⟩) := by rw [← hA]; kernel_rfl
                  have sf : ρ (.func 12) = .func (.func 12) #[] #[] := by rw [← hA]; kernel_rfl
                  clear hA
                  unfold growUpon
                  go_simp
                  obtain ⟨S, lv, ov, tvs, hp, _⟩ := hwk.wr hk HP.out
                  refine (text_pw hp (by have := HO.out.len; omega)).mono ?_
                  rintro e w7 ⟨rfl, hb⟩
                  exact ⟨rfl, hb⟩
                go_big_quiet_op
                refine wpGrow_big (some 82) w rfl (.pointer (some ⟨R, 0, none⟩)) rfl (by kernel_rfl) (fun wk hwk => ?_) ?_
                · refine growUpon_same ?_
                  generalize hA : Act.eval _ = ρ
                  have s3 : ρ (.tmp 3) = .pointer (some ⟨R, 0, none⟩) := by rw [← hA]; kernel_rfl
                  clear hA
                  go_simp
                go_big_quiet_op
                refine wpGrow_big (some 83) w rfl (.pointer (some ⟨wr.heap.size, 1, none⟩)) rfl (by kernel_rfl) (fun wk hwk => ?_) ?_
                · refine growUpon_same ?_
                  generalize hA : Act.eval _ = ρ
                  have s5 : ρ (.tmp 5) = .pointer (some ⟨wr.heap.size, 0, none⟩) := by rw [← hA]; kernel_rfl
                  clear hA
                  go_simp
                go_big_quiet_op
                refine wpGrow_big (some 84) w rfl (.int .i64 (k : Int)) rfl (by kernel_rfl) (fun wk hwk => ?_) ?_
                · refine growUpon_same ?_
                  generalize hA : Act.eval _ = ρ
                  have s83 : ρ (.tmp 83) = .pointer (some ⟨wr.heap.size, 1, none⟩) := by rw [← hA]; kernel_rfl
                  clear hA
                  have c1 := hwk.step.c1
                  simp only [Nat.zero_add] at c1
                  go_simp
                go_big_quiet_op
                refine wpGrow_big (some 85) w rfl (.pointer (some ⟨R, 0, none⟩)) rfl (by kernel_rfl) (fun wk hwk => ?_) ?_
                · refine growUpon_same ?_
                  generalize hA : Act.eval _ = ρ
                  have s82 : ρ (.tmp 82) = .pointer (some ⟨R, 0, none⟩) := by rw [← hA]; kernel_rfl
                  clear hA
                  go_simp
                go_big_quiet_op
                refine wpGrow_big (some 86) w rfl (.pointer (some ⟨R, 1, none⟩)) rfl (by kernel_rfl) (fun wk hwk => ?_) ?_
                · refine growUpon_same ?_
                  generalize hA : Act.eval _ = ρ
                  have s85 : ρ (.tmp 85) = .pointer (some ⟨R, 0, none⟩) := by rw [← hA]; kernel_rfl
                  clear hA
                  go_simp
                go_big_quiet_op
                refine wpGrow_big (some 87) w rfl (.pointer (some ⟨R, 1 + k, none⟩)) rfl (by kernel_rfl) (fun wk hwk => ?_) ?_
                · refine growUpon_same ?_
                  generalize hA : Act.eval _ = ρ
                  have s86 : ρ (.tmp 86) = .pointer (some ⟨R, 1, none⟩) := by rw [← hA]; kernel_rfl
                  have s84 : ρ (.tmp 84) = .int .i64 (k : Int) := by rw [← hA]; kernel_rfl
                  clear hA
                  go_simp
                go_big_quiet_op
                refine wpGrow_big (some 88) w rfl (.pointer (some ⟨pw k, 0, none⟩)) rfl (by kernel_rfl) (fun wk hwk => ?_) ?_
                · refine growUpon_same ?_
                  generalize hA : Act.eval _ = ρ
                  have s87 : ρ (.tmp 87) = .pointer (some ⟨R, 1 + k, none⟩) := by rw [← hA]; kernel_rfl
                  clear hA
                  have g1 := hwk.room.cells.wr k hk
                  simp only [hps, ptrOf, if_true] at g1
                  go_simp
                go_big_quiet_op
                refine wpGrow_bigSpine (some 89) w rfl rfl rfl (fun u => ∃ a c, u = .slice a r.opens.length c) (fun u wk => AQ wr w.heap.size R G pw sc m wr.heap.size ⟨4, k, xat, xmany, xtext⟩ E d u r.opens wk) (⟨.slice none r.opens.length 0, none, 0, rfl⟩) (fun _ _ h => h.rin) (fun _ => AQ.shut) (fun wk hwk => ?_) (fun u15 hu15 => ?_)
                · generalize hA : Act.eval _ = ρ
                  have s88 : ρ (.tmp 88) = .pointer (some ⟨pw k, 0, none⟩) := by rw [← hA]; kernel_rfl
                  have sf : ρ (.func 13) = .func (.func 13) #[] #[] := by rw [← hA]; kernel_rfl
                  clear hA
                  obtain ⟨S, lv, ov, tvs, hp, _⟩ := hwk.wr hk HP.out
                  go_simp
                  refine (open_pw hp (by have := HO.out.few; omega)).mono ?_
                  rintro e w7 ⟨v7, rfl, ho, hb⟩
                  have hq := AQ.of hwk hb ho
                  obtain ⟨a7, c7, rfl⟩ := OwnD.len ho
                  exact ⟨_, rfl, ⟨a7, c7, rfl⟩, hq⟩
                obtain ⟨oa, oc, rfl⟩ := hu15
                go_big_quiet_op
                refine wpGrow_big (some 6) w rfl (.string (strOfNums (vw r.list r.seen r.me))) rfl (by kernel_rfl) (fun wk hwk => ?_) ?_
                · refine growUpon_same ?_
                  generalize hA : Act.eval _ = ρ
                  have s81 : ρ (.tmp 81) = .string (strOfNums (vw r.list r.seen r.me)) := by rw [← hA]; kernel_rfl
                  clear hA
                  go_simp
                go_big_quiet_op
                refine wpGrow_big (some 7) w rfl (.slice oa r.opens.length oc) rfl (by kernel_rfl) (fun wk hwk => ?_) ?_
                · refine growUpon_same ?_
                  generalize hA : Act.eval _ = ρ
                  have s89 : ρ (.tmp 89) = .slice oa r.opens.length oc := by rw [← hA]; kernel_rfl
                  clear hA
                  go_simp
                go_big_quiet_op
                refine wpGrow_nil (fun w10 hw10 => ?_)
                have H10 : Hid (AQ wr w.heap.size R G pw sc m wr.heap.size ⟨4, k, xat, xmany, xtext⟩ E d (.slice oa r.opens.length oc) r.opens w10) := hw10
                clear hw10 H9
                obtain ⟨_, b0, b1, b2, b3, b4, b5, b6⟩ := H10.out.deed
                obtain ⟨_, c0, c1, c2, c3, c4⟩ := H10.out.step
                simp only [Nat.zero_add] at b0 b1 b2 b3 b4 b5 b6 c0 c1 c2 c3 c4
                go_wp2_with fail
                refine (H10.out.stepped HR.out.inv ⟨4, k, xat, xmany, xtext⟩).mono ?_
                rintro e w11 ⟨rfl, hst, hbl⟩
                have HBL : Hid (Below w.heap.size w w11) := HR.out.below.trans hbl
                have HS7 : Hid (overRm m ⟨4, k, xat, xmany, xtext⟩ = false → ∃ pw' sc', AQ wr w.heap.size R G pw' sc' (stepRm false m ⟨4, k, xat, xmany, xtext⟩) wr.heap.size ⟨4, k, xat, xmany, xtext⟩ E d (.slice oa r.opens.length oc) r.opens w11 ∧ RmI false (stepRm false m ⟨4, k, xat, xmany, xtext⟩)) := hst
                clear hst hbl
                clear b0 b1 b2 b3 b4 b5 b6 c0 c1 c2 c3 c4
                generalize overRm m ⟨4, k, xat, xmany, xtext⟩ = over at *
                cases over
                · obtain ⟨pw', sc', h7, hi7⟩ := HS7.out rfl
                  clear HS7
                  have HR7 : Hid (RR w R G false (stepRm false m ⟨4, k, xat, xmany, xtext⟩) w11) := AQ.rr HR.out h7 hi7
                  clear h7 hi7 H10
                  generalize stepRm false m ⟨4, k, xat, xmany, xtext⟩ = m' at *
                  go_wp2_with fail
                  go_roundw
                  case rel => exact ⟨j + 1, m', by omega, by go_num, HR7⟩
                  case measure => simp [intOf]; omega
                · go_wp2_with fail
                  go_ret
                  exact ⟨rfl, HBL.out⟩
            · have hd0 : (xdo == 4) = false := by simpa using hd4
              go_quiet ((go_at_call 9; exact Calls.quiet_of_same (HW.out _)))
              have HI6 : Hid (RIn wr w.heap.size R G pw sc false (fun _ => False) m ⟨xdo, k, xat, xmany, xtext⟩ [] (w5.drewN nq)) := HI.out.after (below_drewN (Below.refl _ _) nq)
              go_wp2_with fail
              generalize w5.drewN nq = w6 at *
              clear HI c0 c1 c2 c3 c4
              clear g1'
              obtain ⟨_, c0, c1, c2, c3, c4⟩ := HI6.out.step
              simp only [Nat.zero_add] at c0 c1 c2 c3 c4
              go_wp2_with fail
              refine (HI6.out.stepped HR.out.inv ⟨xdo, k, xat, xmany, xtext⟩).mono ?_
              rintro e w7 ⟨rfl, hst, hbl⟩
              have HBL : Hid (Below w.heap.size w w7) := HR.out.below.trans hbl
              have HS7 : Hid (overRm m ⟨xdo, k, xat, xmany, xtext⟩ = false → ∃ m', RR w R G false m' w7) := fun ho => by
                obtain ⟨pw', sc', h7, hi7⟩ := hst ho
                exact ⟨_, rr_of HR.out h7 hi7⟩
              clear hst hbl c0 c1 c2 c3 c4
              generalize overRm m ⟨xdo, k, xat, xmany, xtext⟩ = over at *
              cases over
              · obtain ⟨m', hm'⟩ := HS7.out rfl
                have HR7 : Hid (RR w R G false m' w7) := hm'
                clear hm' HS7
                go_wp2_with fail
                go_roundw
                case rel => exact ⟨j + 1, m', by omega, by go_num, HR7⟩
                case measure => simp [intOf]; omega
              · go_wp2_with fail
                go_ret
                exact ⟨rfl, HBL.out⟩
        · have hw' : wrB xw = false := by simpa using hw
          have HW : Hid (∀ wk, Calls Try.prog 9 #[.int .i64 xw] wk fun e w' => e = .returned (.bool false) ∧ w' = wk) := fun wk => by
            have h1 := isWriter_any xw wk
            rw [hw'] at h1
            exact h1
          clear hrm
          go_quiet ((go_at_call 9; exact Calls.quiet_of_same (HW.out _)))
          have HI6 : Hid (RIn wr w.heap.size R G pw sc false (fun _ => False) m ⟨xdo, xw, xat, xmany, xtext⟩ [] (w5.drewN nq)) := HI.out.after (below_drewN (Below.refl _ _) nq)
          go_wp2_with fail
          generalize w5.drewN nq = w6 at *
          clear HI c0 c1 c2 c3 c4
          obtain ⟨_, c0, c1, c2, c3, c4⟩ := HI6.out.step
          simp only [Nat.zero_add] at c0 c1 c2 c3 c4
          go_wp2_with fail
          refine (HI6.out.stepped HR.out.inv ⟨xdo, xw, xat, xmany, xtext⟩).mono ?_
          rintro e w7 ⟨rfl, hst, hbl⟩
          have HBL : Hid (Below w.heap.size w w7) := HR.out.below.trans hbl
          have HS7 : Hid (overRm m ⟨xdo, xw, xat, xmany, xtext⟩ = false → ∃ m', RR w R G false m' w7) := fun ho => by
            obtain ⟨pw', sc', h7, hi7⟩ := hst ho
            exact ⟨_, rr_of HR.out h7 hi7⟩
          clear hst hbl c0 c1 c2 c3 c4
          generalize overRm m ⟨xdo, xw, xat, xmany, xtext⟩ = over at *
          cases over
          · obtain ⟨m', hm'⟩ := HS7.out rfl
            have HR7 : Hid (RR w R G false m' w7) := hm'
            clear hm' HS7
            go_wp2_with fail
            go_roundw
            case rel => exact ⟨j + 1, m', by omega, by go_num, HR7⟩
            case measure => simp [intOf]; omega
          · go_wp2_with fail
            go_ret
            exact ⟨rfl, HBL.out⟩
      · go_wp2
        go_ret
        exact ⟨rfl, HR.out.below⟩
  · go_wp2
    go_ret
    exact ⟨rfl, HB1.out⟩

/-- THE LAW. -/
theorem law_writeracks (w : World) {v : Value} {xs : List RStep} (h : RLst w v xs) :
    Calls Try.prog 3 #[v] w fun e w' => e = .returned (.bool true) ∧ Below w.heap.size w w' := writerAcks_any v xs w h

end Go.Proofs.Ytdlmlhmdjfbdiac
