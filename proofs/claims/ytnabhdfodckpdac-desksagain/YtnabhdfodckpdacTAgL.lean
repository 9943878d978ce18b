/-
  The law DesksAgain: SETTLED, IT IS SETTLED.
-/
import Derived.Test.YtnabhdfodckpdacTMath
namespace Go.Proofs.Ytnabhdfodckpdac
open Go Go.RowKit

set_option maxRecDepth 20000 in
set_option maxHeartbeats 6400000 in
theorem desksAgain_any (v : Value) (xs : List Tst) (k m : Int) (text : ByteArray) (w : World) (h : TLst w v xs) :
    Calls Try.prog 10 #[v, .int .i64 k, .int .i64 m, .string text] w fun e w' => e = .returned (.bool true) ∧ Below w.heap.size w w' := by
  have HD : Hid (TLst w v xs) := h
  obtain ⟨a, cap, rfl⟩ := h.len
  obtain ⟨jj, hjj, hj4⟩ := mod_fourT k
  clear h
  go_enter Try.func10, Try.ntmps10
  go_wp2_with fail
  refine (tbegun_any _).mono ?_
  rintro e w0 ⟨rfl, hb0⟩
  have HB0 : Hid (Below w.heap.size w w0) := hb0
  clear hb0
  go_wp2_with fail
  refine (greatT_any _ xs _ (HD.out.below HB0.out)).mono ?_
  rintro e w1 ⟨gr, rfl, hgr, rfl⟩
  cases gr
  · have hl := hgr rfl
    clear hgr
    by_cases htx : 100 < text.size
    · go_wp2_with fail
      go_ret
      exact ⟨rfl, HB0.out⟩
    · go_wp2_with fail
      refine (played_any _ xs _ (HD.out.below HB0.out) hl).mono ?_
      rintro e w2 ⟨D, G, pw, t, rfl, hd⟩
      have H2 : Hid (DkAny w1.heap.size w1 (fun _ => False) D G pw t w2) := hd
      clear hd
      go_wp2_with fail
      refine H2.out.settles.mono ?_
      rintro e w3 ⟨rfl, hd⟩
      have H3 : Hid (DkAny w1.heap.size w1 (fun _ => False) D G pw (settleT t) w3) := hd
      have HST : Hid (Settled (settleT t)) := settled_of H2.out.ti
      clear hd H2
      generalize settleT t = tS at *
      obtain ⟨s, hs⟩ : ∃ s, strOfNums (textL tS.b.chars) = s := ⟨_, rfl⟩
      have HSV : Hid (strOfNums (textL tS.b.chars) = s) := hs
      have hsz2 : s.size ≤ 200 := by rw [← hs, str_size]; exact text_small _
      have HSZ : Hid (s.size = (textL tS.b.chars).length) := by show _ = _; rw [← hs, str_size]
      clear hs
      go_wp2_with fail
      refine wp_region_late (fun wk => DkAny w1.heap.size w1 (fun _ => False) D G pw tS wk) (fun i => i == 4 || i == 9) (fun _ => false) (by kernel_rfl) (by kernel_rfl) (by kernel_rfl) (H3.out.after (Below.refl _ _).drew) ?_
      refine wpLate_big (some 29) w rfl (.pointer (some ⟨D, 0, none⟩)) rfl (by kernel_rfl) (fun wk hwk => ?_) ?_
      · generalize hA : Act.eval _ = ρ
        have s9 : ρ (.tmp 9) = .pointer (some ⟨D, 0, none⟩) := by rw [← hA]; kernel_rfl
        clear hA
        go_simp
      go_big_quiet_op
      refine wpLate_big (some 30) w rfl (.pointer (some ⟨D, 0, none⟩)) rfl (by kernel_rfl) (fun wk hwk => ?_) ?_
      · generalize hA : Act.eval _ = ρ
        have s29 : ρ (.tmp 29) = .pointer (some ⟨D, 0, none⟩) := by rw [← hA]; kernel_rfl
        clear hA
        go_simp
      go_big_quiet_op
      refine wpLate_big (some 31) w rfl (.pointer (some ⟨D, 0, none⟩)) rfl (by kernel_rfl) (fun wk hwk => ?_) ?_
      · generalize hA : Act.eval _ = ρ
        have s30 : ρ (.tmp 30) = .pointer (some ⟨D, 0, none⟩) := by rw [← hA]; kernel_rfl
        clear hA
        go_simp
      go_big_quiet_op
      refine wpLate_big (some 32) w rfl (.pointer (some ⟨G, 0, none⟩)) rfl (by kernel_rfl) (fun wk hwk => ?_) ?_
      · generalize hA : Act.eval _ = ρ
        have s31 : ρ (.tmp 31) = .pointer (some ⟨D, 0, none⟩) := by rw [← hA]; kernel_rfl
        clear hA
        have g0 := hwk.cells.book
        have hlt := hwk.cells.lt
        go_simp
      go_big_quiet_op
      refine wpLate_bigSpine (some 33) w rfl rfl (by kernel_rfl) (fun u => u = .string s) (fun u wk => DkAny w1.heap.size w1 (fun _ => False) D G pw tS wk) (fun u wk => DkAny w1.heap.size w1 (fun _ => False) D G pw tS wk) (⟨_, rfl⟩) (fun _ _ h => h) (fun _ _ h => h) (fun wk hwk => ?_) (fun u9 hu9 => ?_)
      · generalize hA : Act.eval _ = ρ
        have s32 : ρ (.tmp 32) = .pointer (some ⟨G, 0, none⟩) := by rw [← hA]; kernel_rfl
        have sf : ρ (.func 31) = .func (.func 31) #[] #[] := by rw [← hA]; kernel_rfl
        clear hA
        go_simp
        refine hwk.text.mono ?_
        rintro e w7 ⟨rfl, hb⟩
        exact ⟨_, rfl, by rw [HSV.out], hwk.after hb⟩
      subst hu9
      go_big_quiet_op
      refine wpLate_big (some 34) w rfl (.pointer (some ⟨D, 0, none⟩)) rfl (by kernel_rfl) (fun wk hwk => ?_) ?_
      · generalize hA : Act.eval _ = ρ
        have s9 : ρ (.tmp 9) = .pointer (some ⟨D, 0, none⟩) := by rw [← hA]; kernel_rfl
        clear hA
        go_simp
      go_big_quiet_op
      refine wpLate_big (some 35) w rfl (.pointer (some ⟨D, 0, none⟩)) rfl (by kernel_rfl) (fun wk hwk => ?_) ?_
      · generalize hA : Act.eval _ = ρ
        have s34 : ρ (.tmp 34) = .pointer (some ⟨D, 0, none⟩) := by rw [← hA]; kernel_rfl
        clear hA
        go_simp
      go_big_quiet_op
      refine wpLate_big (some 36) w rfl (.pointer (some ⟨D, 0, none⟩)) rfl (by kernel_rfl) (fun wk hwk => ?_) ?_
      · generalize hA : Act.eval _ = ρ
        have s35 : ρ (.tmp 35) = .pointer (some ⟨D, 0, none⟩) := by rw [← hA]; kernel_rfl
        clear hA
        go_simp
      go_big_quiet_op
      refine wpLate_big (some 37) w rfl (.pointer (some ⟨G, 0, none⟩)) rfl (by kernel_rfl) (fun wk hwk => ?_) ?_
      · generalize hA : Act.eval _ = ρ
        have s36 : ρ (.tmp 36) = .pointer (some ⟨D, 0, none⟩) := by rw [← hA]; kernel_rfl
        clear hA
        have g0 := hwk.cells.book
        have hlt := hwk.cells.lt
        go_simp
      go_big_quiet_op
      refine wpLate_bigSpine (some 38) w rfl rfl (by kernel_rfl) (fun u => u = .int .i64 ((tS.b.ds.length : Int))) (fun u wk => DkAny w1.heap.size w1 (fun _ => False) D G pw tS wk) (fun u wk => DkAny w1.heap.size w1 (fun _ => False) D G pw tS wk) (⟨_, rfl⟩) (fun _ _ h => h) (fun _ _ h => h) (fun wk hwk => ?_) (fun u9 hu9 => ?_)
      · generalize hA : Act.eval _ = ρ
        have s37 : ρ (.tmp 37) = .pointer (some ⟨G, 0, none⟩) := by rw [← hA]; kernel_rfl
        have sf : ρ (.func 21) = .func (.func 21) #[] #[] := by rw [← hA]; kernel_rfl
        clear hA
        go_simp
        refine hwk.len.mono ?_
        rintro e w7 ⟨rfl, rfl⟩
        exact ⟨_, rfl, rfl, hwk⟩
      subst hu9
      go_big_quiet_op
      refine wpLate_big (some 10) w rfl (.string s) rfl (by kernel_rfl) (fun wk hwk => ?_) ?_
      · generalize hA : Act.eval _ = ρ
        have s33 : ρ (.tmp 33) = .string s := by rw [← hA]; kernel_rfl
        clear hA
        go_simp
      go_big_quiet_op
      refine wpLate_big (some 11) w rfl (.int .i64 ((tS.b.ds.length : Int))) rfl (by kernel_rfl) (fun wk hwk => ?_) ?_
      · generalize hA : Act.eval _ = ρ
        have s38 : ρ (.tmp 38) = .int .i64 ((tS.b.ds.length : Int)) := by rw [← hA]; kernel_rfl
        clear hA
        go_simp
      go_big_quiet_op
      refine wpLate_nil (fun w9 hw9 => ?_)
      have H9 : Hid (DkAny w1.heap.size w1 (fun _ => False) D G pw tS w9) := hw9
      clear hw9 H3
      go_wp2_with fail
      refine H9.out.settles.mono ?_
      rintro e w10 ⟨rfl, hd⟩
      rw [HST.out.again] at hd
      have H10 : Hid (DkAny w1.heap.size w1 (fun _ => False) D G pw tS w10) := hd
      clear hd H9
      have g0 := H10.out.cells.book
      have hlt0 := H10.out.cells.lt
      go_wp2_with fail
      clear g0 hlt0
      refine H10.out.text.mono ?_
      rintro e w11 ⟨rfl, hb⟩
      rw [HSV.out]
      have H11 : Hid (DkAny w1.heap.size w1 (fun _ => False) D G pw tS w11) := H10.out.after hb
      clear hb H10
      have g0 := H11.out.cells.book
      have hlt0 := H11.out.cells.lt
      go_wp2_with fail
      clear g0 hlt0
      refine H11.out.len.mono ?_
      rintro e w12 ⟨rfl, rfl⟩
      go_wp2_with fail
      refine (H11.out.writer jj).mono ?_
      rintro e w13 ⟨rfl, rfl⟩
      cases he : tS.ws jj with
      | none =>
        rw [desk_none he]
        clear he
        go_wp2_with fail
        go_ret
        exact ⟨rfl, below_after HB0.out H11.out.below⟩
      | some r =>
        rw [desk_some hj4 he]
        have HE : Hid (tS.ws jj = some r) := he
        clear he
        obtain ⟨at_, hat, hatl⟩ := mod_anyT m (s.size + 1) (by omega)
        have hat2 : (IntKind.u64.wrap m).tmod ((s.size : Int) + 1) = (at_ : Int) := by rw [← hat]; congr 1
        clear hat
        go_wp2_with fail
        refine (H11.out.does ⟨2, jj, at_, 0, text⟩).mono ?_
        rintro e w14 ⟨rfl, pw14, hd14, hp14⟩
        rw [hp14 (by show (2 : Int) ≠ 1; decide)] at hd14
        have H14 : Hid (DkAny w1.heap.size w1 (fun _ => False) D G pw (tDo tS ⟨2, jj, at_, 0, text⟩).2 w14) := hd14
        clear hd14 hp14 H11
        have hw2 : tS.ws (⟨2, jj, at_, 0, text⟩ : Tst).w = some r := HE.out
        by_cases hc : (tDo tS ⟨2, jj, at_, 0, text⟩).1 = 0
        · obtain ⟨⟨q1, q2, _, q3⟩, _, q4⟩ := own_settled HST.out hw2 (.inl rfl) hc
          obtain ⟨a1, a2, _⟩ := own_at r ⟨2, jj, at_, 0, text⟩
          obtain ⟨b1, _, b3⟩ := a2 rfl
          have HWT : Hid ((settleT (tDo tS ⟨2, jj, at_, 0, text⟩).2).ws jj ≠ none → strOfNums (textL (settleT (tDo tS ⟨2, jj, at_, 0, text⟩).2).b.chars) = s.extract 0 at_ ++ text ++ s.extract at_ s.size) := fun hn => by
            rw [q4 hn, str_splice1 b1, b3, a1, HSV.out]
            rfl
          have HSS : Hid (Settled (settleT (tDo tS ⟨2, jj, at_, 0, text⟩).2)) := settled_of H14.out.ti
          rw [hc]
          clear q1 q2 q3 q4 a1 a2 b1 b3 hc hw2
          go_wp2_with fail
          refine H14.out.settles.mono ?_
          rintro e w15 ⟨rfl, hd15⟩
          have H15 : Hid (DkAny w1.heap.size w1 (fun _ => False) D G pw (settleT (tDo tS ⟨2, jj, at_, 0, text⟩).2) w15) := hd15
          clear hd15 H14
          generalize settleT (tDo tS ⟨2, jj, at_, 0, text⟩).2 = tF at *
          go_wp2_with fail
          refine (H15.out.writer jj).mono ?_
          rintro e w16 ⟨rfl, hw16⟩
          rw [hw16]
          clear hw16 w16
          cases he : tF.ws jj with
          | none =>
            rw [desk_none he]
            clear he
            go_wp2_with fail
            go_ret
            exact ⟨rfl, below_after HB0.out H15.out.below⟩
          | some r2 =>
            rw [desk_some hj4 he]
            have HWS : Hid (strOfNums (textL tF.b.chars) = s.extract 0 at_ ++ text ++ s.extract at_ s.size) := HWT.out (by rw [he]; simp)
            clear he HWT
            have hats : (at_ : Int) ≤ (s.size : Int) := by omega
            go_wp2_with fail
            go_quiet (fail)
            have H17 : Hid (DkAny w1.heap.size w1 (fun _ => False) D G pw tF (w15.drewN nq)) := H15.out.after (below_drewN (Below.refl _ _) nq)
            generalize w15.drewN nq = w18 at *
            generalize s.extract 0 at_ ++ text ++ s.extract at_ s.size = want at *
            clear H15
            go_wp2_with fail
            go_loopw [14] (fun i wr => ∃ j : Nat, j ≤ 4 ∧ i = .int .i64 j ∧ Hid (DkAny w1.heap.size w1 (fun _ => False) D G pw tF wr)) (fun i _ => 4 - (intOf i).toNat)
            case atStart => exact ⟨0, by omega, rfl, H17.out⟩
            case round =>
              obtain ⟨j, hj, rfl, HW⟩ := hrel
              clear H17
              by_cases hjl : j < 4
              · have hji : (j : Int) < 4 := by omega
                go_wp2_with fail
                refine (HW.out.writer j).mono ?_
                rintro e w19 ⟨rfl, rfl⟩
                cases hf : tF.ws j with
                | none =>
                  rw [desk_none hf]
                  clear hf
                  go_wp2_with fail
                  go_roundw
                  case rel => exact ⟨j + 1, by omega, by go_num, HW.out⟩
                  case measure => simp [intOf]; omega
                | some rj =>
                  rw [desk_some hjl hf]
                  have HF : Hid (tF.ws j = some rj) := hf
                  have HVJ : Hid (strOfNums (vw rj.list rj.seen rj.me) = want) := by show _ = _; rw [(HSS.out.text hf).2.2]; exact HWS.out
                  clear hf
                  go_wp2_with fail
                  refine (HW.out.wtext hjl HF.out).mono ?_
                  rintro e w20 ⟨rfl, hb⟩
                  rw [HVJ.out]
                  have H20 : Hid (DkAny w1.heap.size w1 (fun _ => False) D G pw tF w20) := HW.out.after hb
                  clear hb HW
                  go_wp2_with fail
                  go_roundw
                  case rel => exact ⟨j + 1, by omega, by go_num, H20.out⟩
                  case measure => simp [intOf]; omega
              · have g0 := HW.out.cells.book
                have hlt0 := HW.out.cells.lt
                go_wp2_with fail
                clear g0 hlt0
                refine HW.out.text.mono ?_
                rintro e w19 ⟨rfl, hb⟩
                rw [HWS.out]
                have H19 : Hid (DkAny w1.heap.size w1 (fun _ => False) D G pw tF w19) := HW.out.after hb
                clear hb HW
                go_wp2_with fail
                go_ret
                exact ⟨rfl, below_after HB0.out H19.out.below⟩
        · have H16 : Hid (DkAny w1.heap.size w1 (fun _ => False) D G pw tS w14) := by
            have := H14.out
            rw [own_no hw2 (.inl rfl) hc] at this
            exact this
          obtain ⟨cq, hcq⟩ : ∃ c, (tDo tS ⟨2, jj, at_, 0, text⟩).1 = c := ⟨_, rfl⟩
          have hcn : ¬ cq = 0 := by rw [← hcq]; exact hc
          rw [hcq]
          clear hcq hc H14 hw2
          have g0 := H16.out.cells.book
          have hlt0 := H16.out.cells.lt
          go_wp2_with fail
          clear g0 hlt0
          refine H16.out.text.mono ?_
          rintro e w17 ⟨rfl, hb⟩
          rw [HSV.out]
          have H17 : Hid (DkAny w1.heap.size w1 (fun _ => False) D G pw tS w17) := H16.out.after hb
          clear hb H16
          go_wp2_with fail
          go_ret
          exact ⟨rfl, below_after HB0.out H17.out.below⟩
  · go_wp2
    go_ret
    exact ⟨rfl, HB0.out⟩

theorem law_desksagain (w : World) {v : Value} {xs : List Tst} (h : TLst w v xs) (k m : Int) (text : ByteArray) :
    Calls Try.prog 10 #[v, .int .i64 k, .int .i64 m, .string text] w fun e w' => e = .returned (.bool true) ∧ Below w.heap.size w w' := desksAgain_any v xs k m text w h

end Go.Proofs.Ytnabhdfodckpdac
