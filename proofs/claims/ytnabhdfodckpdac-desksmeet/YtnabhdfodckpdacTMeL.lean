/-
  The law DesksMeet: ALL COME TO THE SAME TEXT.
-/
import Derived.Test.YtnabhdfodckpdacTRun
namespace Go.Proofs.Ytnabhdfodckpdac
open Go Go.RowKit

set_option maxRecDepth 20000 in
set_option maxHeartbeats 6400000 in
theorem desksMeet_any (v : Value) (xs : List Tst) (w : World) (h : TLst w v xs) :
    Calls Try.prog 6 #[v] w fun e w' => e = .returned (.bool true) ∧ Below w.heap.size w w' := by
  have HD : Hid (TLst w v xs) := h
  obtain ⟨a, cap, rfl⟩ := h.len
  clear h
  go_enter Try.func6, Try.ntmps6
  go_wp2_with fail
  refine (tbegun_any _).mono ?_
  rintro e w0 ⟨rfl, hb0⟩
  have HB0 : Hid (Below w.heap.size w w0) := hb0
  clear hb0
  go_wp2_with fail
  refine (greatT_any _ xs _ (HD.out.below HB0.out)).mono ?_
  rintro e w1 ⟨gr, rfl, hgr, rfl⟩
  cases gr
  · have hl := hgr rfl
    clear hgr
    go_wp2_with fail
    refine (played_any _ xs _ (HD.out.below HB0.out) hl).mono ?_
    rintro e w2 ⟨D, G, pw, t, rfl, hd⟩
    have H2 : Hid (DkAny w1.heap.size w1 (fun _ => False) D G pw t w2) := hd
    clear hd
    go_wp2_with fail
    refine H2.out.settles.mono ?_
    rintro e w3 ⟨rfl, hd⟩
    have H3 : Hid (DkAny w1.heap.size w1 (fun _ => False) D G pw (settleT t) w3) := hd
    have HTI : Hid (TwI t) := H2.out.ti
    clear hd H2
    have HSE : Hid (∀ (k : Nat) (r : Wr), (settleT t).ws k = some r → r.opens = [] ∧ r.seen = (settleT t).b.ds.length ∧ vw r.list r.seen r.me = textL (settleT t).b.chars) := fun k r he => settle_text HTI.out he
    clear HTI
    generalize settleT t = tS at *
    have g0 := H3.out.cells.book
    have hlt0 := H3.out.cells.lt
    go_wp2_with fail
    clear g0 hlt0
    refine H3.out.text.mono ?_
    rintro e w4 ⟨rfl, hb⟩
    have H4 : Hid (DkAny w1.heap.size w1 (fun _ => False) D G pw tS w4) := H3.out.after hb
    clear hb H3
    obtain ⟨s, hs⟩ : ∃ s, strOfNums (textL tS.b.chars) = s := ⟨_, rfl⟩
    have HSV : Hid (strOfNums (textL tS.b.chars) = s) := hs
    rw [hs]
    clear hs
    go_wp2_with fail
    go_loopw [5] (fun i wr => ∃ k : Nat, k ≤ 4 ∧ i = .int .i64 k ∧ Hid (DkAny w1.heap.size w1 (fun _ => False) D G pw tS wr)) (fun i _ => 4 - (intOf i).toNat)
    case atStart => exact ⟨0, by omega, rfl, H4.out⟩
    case round =>
      obtain ⟨k, hk4, rfl, HW⟩ := hrel
      clear H4
      by_cases hk : k < 4
      · have hki : (k : Int) < 4 := by omega
        go_wp2_with fail
        refine (HW.out.writer k).mono ?_
        rintro e w5 ⟨rfl, rfl⟩
        cases he : tS.ws k with
        | none =>
          rw [desk_none he]
          clear he
          go_wp2_with fail
          go_quiet (fail)
          go_wp2_with fail
          go_roundw
          case rel => exact ⟨k + 1, by omega, by go_num, HW.out.after (below_drewN (Below.refl _ _) _)⟩
          case measure => simp [intOf]; omega
        | some r =>
          rw [desk_some hk he]
          have HE : Hid (tS.ws k = some r) := he
          have HT : Hid (r.opens = [] ∧ r.seen = tS.b.ds.length ∧ vw r.list r.seen r.me = textL tS.b.chars) := HSE.out k r he
          clear he
          go_wp2_with fail
          refine wp_region_late (fun wk => DkAny w1.heap.size w1 (fun _ => False) D G pw tS wk) (fun i => i == 2 || i == 4 || i == 7 || i == 9 || i == 13 || i == 15 || i == 20) (fun _ => false) (by kernel_rfl) (by kernel_rfl) (by kernel_rfl) (HW.out.after (Below.refl _ _).drew) ?_
          refine wpLate_big (some 27) w rfl (.pointer (some ⟨pw k, 0, none⟩)) rfl (by kernel_rfl) (fun wk hwk => ?_) ?_
          · generalize hA : Act.eval _ = ρ
            have s6 : ρ (.tmp 6) = .pointer (some ⟨pw k, 0, none⟩) := by rw [← hA]; kernel_rfl
            clear hA
            go_simp
          go_big_quiet_op
          refine wpLate_big (some 28) w rfl (.bool true) rfl (by kernel_rfl) (fun wk hwk => ?_) ?_
          · generalize hA : Act.eval _ = ρ
            have s27 : ρ (.tmp 27) = .pointer (some ⟨pw k, 0, none⟩) := by rw [← hA]; kernel_rfl
            have k1 : ρ (.const (.pointer none)) = .pointer none := by rw [← hA]; kernel_rfl
            clear hA
            go_simp
          go_big_quiet_op
          refine wpLate_bigSpine (some 29) w rfl rfl (by kernel_rfl) (fun u => u = .bool true) (fun u wk => DkAny w1.heap.size w1 (fun _ => False) D G pw tS wk) (fun u wk => DkAny w1.heap.size w1 (fun _ => False) D G pw tS wk) (⟨_, rfl⟩) (fun _ _ h => h) (fun _ _ h => h) (fun wk hwk => ?_) (fun u9 hu9 => ?_)
          · generalize hA : Act.eval _ = ρ
            have s28 : ρ (.tmp 28) = .bool true := by rw [← hA]; kernel_rfl
            clear hA
            go_simp
            exact ⟨rfl, hwk⟩
          subst hu9
          go_big_quiet_op
          refine wpLate_big (some 30) w rfl (.pointer (some ⟨pw k, 0, none⟩)) rfl (by kernel_rfl) (fun wk hwk => ?_) ?_
          · generalize hA : Act.eval _ = ρ
            have s6 : ρ (.tmp 6) = .pointer (some ⟨pw k, 0, none⟩) := by rw [← hA]; kernel_rfl
            clear hA
            go_simp
          go_big_quiet_op
          refine wpLate_bigSpine (some 31) w rfl rfl (by kernel_rfl) (fun u => u = .string s) (fun u wk => DkAny w1.heap.size w1 (fun _ => False) D G pw tS wk) (fun u wk => DkAny w1.heap.size w1 (fun _ => False) D G pw tS wk) (⟨_, rfl⟩) (fun _ _ h => h) (fun _ _ h => h) (fun wk hwk => ?_) (fun u9 hu9 => ?_)
          · generalize hA : Act.eval _ = ρ
            have s30 : ρ (.tmp 30) = .pointer (some ⟨pw k, 0, none⟩) := by rw [← hA]; kernel_rfl
            have sf : ρ (.func 17) = .func (.func 17) #[] #[] := by rw [← hA]; kernel_rfl
            clear hA
            go_simp
            refine (hwk.wtext hk HE.out).mono ?_
            rintro e w7 ⟨rfl, hb⟩
            exact ⟨_, rfl, by rw [HT.out.2.2, HSV.out], hwk.after hb⟩
          subst hu9
          go_big_quiet_op
          refine wpLate_big (some 32) w rfl (.string s) rfl (by kernel_rfl) (fun wk hwk => ?_) ?_
          · generalize hA : Act.eval _ = ρ
            have s4 : ρ (.tmp 4) = .string s := by rw [← hA]; kernel_rfl
            clear hA
            go_simp
          go_big_quiet_op
          refine wpLate_big (some 33) w rfl (.bool false) rfl (by kernel_rfl) (fun wk hwk => ?_) ?_
          · generalize hA : Act.eval _ = ρ
            have s31 : ρ (.tmp 31) = .string s := by rw [← hA]; kernel_rfl
            have s32 : ρ (.tmp 32) = .string s := by rw [← hA]; kernel_rfl
            clear hA
            go_simp
          go_big_quiet_op
          refine wpLate_bigSpine (some 34) w rfl rfl (by kernel_rfl) (fun u => u = .bool false) (fun u wk => DkAny w1.heap.size w1 (fun _ => False) D G pw tS wk) (fun u wk => DkAny w1.heap.size w1 (fun _ => False) D G pw tS wk) (⟨_, rfl⟩) (fun _ _ h => h) (fun _ _ h => h) (fun wk hwk => ?_) (fun u9 hu9 => ?_)
          · generalize hA : Act.eval _ = ρ
            have s33 : ρ (.tmp 33) = .bool false := by rw [← hA]; kernel_rfl
            clear hA
            go_simp
            exact ⟨rfl, hwk⟩
          subst hu9
          go_big_quiet_op
          refine wpLate_big (some 35) w rfl (.pointer (some ⟨pw k, 0, none⟩)) rfl (by kernel_rfl) (fun wk hwk => ?_) ?_
          · generalize hA : Act.eval _ = ρ
            have s6 : ρ (.tmp 6) = .pointer (some ⟨pw k, 0, none⟩) := by rw [← hA]; kernel_rfl
            clear hA
            go_simp
          go_big_quiet_op
          refine wpLate_bigSpine (some 36) w rfl rfl (by kernel_rfl) (fun u => ∃ a c, u = .slice a 0 c) (fun u wk => DkAny w1.heap.size w1 (fun _ => False) D G pw tS wk) (fun u wk => DkAny w1.heap.size w1 (fun _ => False) D G pw tS wk) (⟨.slice none 0 0, _, _, rfl⟩) (fun _ _ h => h) (fun _ _ h => h) (fun wk hwk => ?_) (fun u36 hu36 => ?_)
          · generalize hA : Act.eval _ = ρ
            have s35 : ρ (.tmp 35) = .pointer (some ⟨pw k, 0, none⟩) := by rw [← hA]; kernel_rfl
            have sf : ρ (.func 18) = .func (.func 18) #[] #[] := by rw [← hA]; kernel_rfl
            clear hA
            go_simp
            refine (hwk.wopen hk HE.out).mono ?_
            rintro e w7 ⟨v7, rfl, ho, hb⟩
            rw [HT.out.1] at ho
            obtain ⟨a, c, rfl⟩ := ho.len
            exact ⟨_, rfl, ⟨a, c, rfl⟩, hwk.after hb⟩
          obtain ⟨sa, sc, rfl⟩ := hu36
          go_big_quiet_op
          refine wpLate_big (some 37) w rfl (.int .i64 (0)) rfl (by kernel_rfl) (fun wk hwk => ?_) ?_
          · generalize hA : Act.eval _ = ρ
            have s36 : ρ (.tmp 36) = .slice sa 0 sc := by rw [← hA]; kernel_rfl
            clear hA
            go_simp
          go_big_quiet_op
          refine wpLate_big (some 38) w rfl (.bool false) rfl (by kernel_rfl) (fun wk hwk => ?_) ?_
          · generalize hA : Act.eval _ = ρ
            have s37 : ρ (.tmp 37) = .int .i64 (0) := by rw [← hA]; kernel_rfl
            have k1 : ρ (.const (.int .i64 (0))) = .int .i64 (0) := by rw [← hA]; kernel_rfl
            clear hA
            go_simp
          go_big_quiet_op
          refine wpLate_big (some 39) w rfl (.bool false) rfl (by kernel_rfl) (fun wk hwk => ?_) ?_
          · generalize hA : Act.eval _ = ρ
            have s34 : ρ (.tmp 34) = .bool false := by rw [← hA]; kernel_rfl
            have k1 : ρ (.const (.bool true)) = .bool true := by rw [← hA]; kernel_rfl
            have s38 : ρ (.tmp 38) = .bool false := by rw [← hA]; kernel_rfl
            clear hA
            go_simp
          go_big_quiet_op
          refine wpLate_bigSpine (some 40) w rfl rfl (by kernel_rfl) (fun u => u = .bool false) (fun u wk => DkAny w1.heap.size w1 (fun _ => False) D G pw tS wk) (fun u wk => DkAny w1.heap.size w1 (fun _ => False) D G pw tS wk) (⟨_, rfl⟩) (fun _ _ h => h) (fun _ _ h => h) (fun wk hwk => ?_) (fun u9 hu9 => ?_)
          · generalize hA : Act.eval _ = ρ
            have s39 : ρ (.tmp 39) = .bool false := by rw [← hA]; kernel_rfl
            clear hA
            go_simp
            exact ⟨rfl, hwk⟩
          subst hu9
          go_big_quiet_op
          refine wpLate_big (some 41) w rfl (.pointer (some ⟨pw k, 0, none⟩)) rfl (by kernel_rfl) (fun wk hwk => ?_) ?_
          · generalize hA : Act.eval _ = ρ
            have s6 : ρ (.tmp 6) = .pointer (some ⟨pw k, 0, none⟩) := by rw [← hA]; kernel_rfl
            clear hA
            go_simp
          go_big_quiet_op
          refine wpLate_bigSpine (some 42) w rfl rfl (by kernel_rfl) (fun u => u = .int .i64 ((r.seen : Int))) (fun u wk => DkAny w1.heap.size w1 (fun _ => False) D G pw tS wk) (fun u wk => DkAny w1.heap.size w1 (fun _ => False) D G pw tS wk) (⟨_, rfl⟩) (fun _ _ h => h) (fun _ _ h => h) (fun wk hwk => ?_) (fun u9 hu9 => ?_)
          · generalize hA : Act.eval _ = ρ
            have s41 : ρ (.tmp 41) = .pointer (some ⟨pw k, 0, none⟩) := by rw [← hA]; kernel_rfl
            have sf : ρ (.func 16) = .func (.func 16) #[] #[] := by rw [← hA]; kernel_rfl
            clear hA
            go_simp
            refine (hwk.wseen hk HE.out).mono ?_
            rintro e w7 ⟨rfl, rfl⟩
            exact ⟨_, rfl, rfl, hwk⟩
          subst hu9
          go_big_quiet_op
          refine wpLate_big (some 43) w rfl (.pointer (some ⟨D, 0, none⟩)) rfl (by kernel_rfl) (fun wk hwk => ?_) ?_
          · generalize hA : Act.eval _ = ρ
            have s3 : ρ (.tmp 3) = .pointer (some ⟨D, 0, none⟩) := by rw [← hA]; kernel_rfl
            clear hA
            go_simp
          go_big_quiet_op
          refine wpLate_big (some 44) w rfl (.pointer (some ⟨D, 0, none⟩)) rfl (by kernel_rfl) (fun wk hwk => ?_) ?_
          · generalize hA : Act.eval _ = ρ
            have s43 : ρ (.tmp 43) = .pointer (some ⟨D, 0, none⟩) := by rw [← hA]; kernel_rfl
            clear hA
            go_simp
          go_big_quiet_op
          refine wpLate_big (some 45) w rfl (.pointer (some ⟨D, 0, none⟩)) rfl (by kernel_rfl) (fun wk hwk => ?_) ?_
          · generalize hA : Act.eval _ = ρ
            have s44 : ρ (.tmp 44) = .pointer (some ⟨D, 0, none⟩) := by rw [← hA]; kernel_rfl
            clear hA
            go_simp
          go_big_quiet_op
          refine wpLate_big (some 46) w rfl (.pointer (some ⟨G, 0, none⟩)) rfl (by kernel_rfl) (fun wk hwk => ?_) ?_
          · generalize hA : Act.eval _ = ρ
            have s45 : ρ (.tmp 45) = .pointer (some ⟨D, 0, none⟩) := by rw [← hA]; kernel_rfl
            clear hA
            have g0 := hwk.cells.book
            have hlt := hwk.cells.lt
            go_simp
          go_big_quiet_op
          refine wpLate_bigSpine (some 47) w rfl rfl (by kernel_rfl) (fun u => u = .int .i64 ((r.seen : Int))) (fun u wk => DkAny w1.heap.size w1 (fun _ => False) D G pw tS wk) (fun u wk => DkAny w1.heap.size w1 (fun _ => False) D G pw tS wk) (⟨_, rfl⟩) (fun _ _ h => h) (fun _ _ h => h) (fun wk hwk => ?_) (fun u9 hu9 => ?_)
          · generalize hA : Act.eval _ = ρ
            have s46 : ρ (.tmp 46) = .pointer (some ⟨G, 0, none⟩) := by rw [← hA]; kernel_rfl
            have sf : ρ (.func 21) = .func (.func 21) #[] #[] := by rw [← hA]; kernel_rfl
            clear hA
            go_simp
            refine hwk.len.mono ?_
            rintro e w7 ⟨rfl, rfl⟩
            exact ⟨_, rfl, by rw [HT.out.2.1], hwk⟩
          subst hu9
          go_big_quiet_op
          refine wpLate_big (some 48) w rfl (.bool false) rfl (by kernel_rfl) (fun wk hwk => ?_) ?_
          · generalize hA : Act.eval _ = ρ
            have s42 : ρ (.tmp 42) = .int .i64 ((r.seen : Int)) := by rw [← hA]; kernel_rfl
            have s47 : ρ (.tmp 47) = .int .i64 ((r.seen : Int)) := by rw [← hA]; kernel_rfl
            clear hA
            go_simp
          go_big_quiet_op
          refine wpLate_big (some 49) w rfl (.bool false) rfl (by kernel_rfl) (fun wk hwk => ?_) ?_
          · generalize hA : Act.eval _ = ρ
            have s40 : ρ (.tmp 40) = .bool false := by rw [← hA]; kernel_rfl
            have k1 : ρ (.const (.bool true)) = .bool true := by rw [← hA]; kernel_rfl
            have s48 : ρ (.tmp 48) = .bool false := by rw [← hA]; kernel_rfl
            clear hA
            go_simp
          go_big_quiet_op
          refine wpLate_big (some 50) w rfl (.bool false) rfl (by kernel_rfl) (fun wk hwk => ?_) ?_
          · generalize hA : Act.eval _ = ρ
            have s29 : ρ (.tmp 29) = .bool true := by rw [← hA]; kernel_rfl
            have s49 : ρ (.tmp 49) = .bool false := by rw [← hA]; kernel_rfl
            have k2 : ρ (.const (.bool false)) = .bool false := by rw [← hA]; kernel_rfl
            clear hA
            go_simp
          go_big_quiet_op
          refine wpLate_nil (fun w9 hw9 => ?_)
          have H9 : Hid (DkAny w1.heap.size w1 (fun _ => False) D G pw tS w9) := hw9
          clear hw9
          go_wp2_with fail
          go_roundw
          case rel => exact ⟨k + 1, by omega, by go_num, H9.out⟩
          case measure => simp [intOf]; omega
      · go_wp2_with fail
        go_ret
        exact ⟨rfl, below_after HB0.out HW.out.below⟩
  · go_wp2
    go_ret
    exact ⟨rfl, HB0.out⟩

theorem law_desksmeet (w : World) {v : Value} {xs : List Tst} (h : TLst w v xs) :
    Calls Try.prog 6 #[v] w fun e w' => e = .returned (.bool true) ∧ Below w.heap.size w w' := desksMeet_any v xs w h

end Go.Proofs.Ytnabhdfodckpdac
