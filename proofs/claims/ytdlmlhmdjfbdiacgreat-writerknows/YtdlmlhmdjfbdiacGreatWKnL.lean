/-
  The law WriterKnows: what a writer knows is the log, as far as it has seen it; what it sees is that, and its own open deeds done to it.
-/
import Derived.Test.YtdlmlhmdjfbdiacGreatWKnM
namespace Go.Proofs.YtdlmlhmdjfbdiacGreat
open Go Go.RowKit

set_option maxRecDepth 20000 in
set_option maxHeartbeats 6400000 in
theorem writerKnows_any (v : Value) (xs : List RStep) (bare : Bool) (w : World) (h : RLst w v xs) :
    Calls Tryz.prog 3 #[v, .bool bare] w fun e w' => e = .returned (.bool true) ∧ Below w.heap.size w w' := by
  have HD : Hid (RLst w v xs) := h
  obtain ⟨a, cap, rfl⟩ := h.len
  clear h
  go_enter Tryz.func3, Tryz.ntmps3
  go_wp2_with fail
  refine (wbegun_any _).mono ?_
  rintro e w1 ⟨rfl, hb1⟩
  have HB1 : Hid (Below w.heap.size w w1) := hb1
  clear hb1
  go_wp2_with fail
  refine (greatR_any _ xs _ (HD.out.below HB1.out)).mono ?_
  rintro e w2 ⟨gr, rfl, hgr, rfl⟩
  cases gr
  · have hl := hgr rfl
    clear hgr
    go_wp2_with fail
    refine (newRoom_any _).mono ?_
    rintro e w3 ⟨rfl, hw3⟩
    have HR00 : Hid (RR w (w2.heap.size + 1) w2.heap.size false rm0 w3) := by show RR _ _ _ _ _ _; rw [hw3]; exact rr_start HB1.out false
    clear HB1 hw3
    generalize w2.heap.size + 1 = R at *
    generalize w2.heap.size = G at *
    have HR0 : Hid (RR w R G bare rm0 (w3.setCell ⟨R, 9, none⟩ (.bool bare))) := HR00.out.bared bare
    obtain ⟨pw0, sc0, hrm0⟩ := HR00.out.room
    have g9 := hrm0.cells.bare
    have f9 := hrm0.cells.free 9 (by omega)
    have l9 := hrm0.cells.lt
    clear hrm0 HR00
    go_wp2
    clear g9 f9 l9
    generalize World.setCell _ _ _ = w4 at *
    go_loopw [6] (fun i wr => ∃ (j : Nat) (m : Rm), j ≤ xs.length ∧ i = .int .i64 j ∧ Hid (RR w R G bare m wr)) (fun i _ => xs.length - (intOf i).toNat)
    case atStart => exact ⟨0, rm0, Nat.zero_le _, rfl, HR0⟩
    case round =>
      obtain ⟨j, m, hj, rfl, HR⟩ := hrel
      clear HR0
      by_cases hlt : j < xs.length
      · have hkl : j < xs.length := hlt
        obtain ⟨bb, off, rfl, hr⟩ := (HD.out.below HR.out.below).row (by omega)
        obtain ⟨_, c0, c1, c2, c3, c4⟩ := hr.at_ j hkl
        generalize xs[j] = x at *
        obtain ⟨do_, w_, at_, many, text⟩ := x
        simp only at c0 c1 c2 c3 c4
        clear hr
        go_wp2_with fail
        refine (HR.out.step ⟨do_, w_, at_, many, text⟩).mono ?_
        rintro e w5 ⟨rfl, hst, hbl⟩
        have HBL : Hid (Below w.heap.size w w5) := hbl
        clear hbl
        generalize overRm m ⟨do_, w_, at_, many, text⟩ = over at *
        have HB5 : Hid (over = false → ∃ m', RR w R G bare m' w5) := fun e => ⟨_, hst e⟩
        cases over
        · obtain ⟨m', hm'⟩ := HB5.out rfl
          have HR5 : Hid (RR w R G bare m' w5) := hm'
          clear hm' HB5 hst c0 c1 c2 c3 c4 HR
          go_wp2_with fail
          go_loopw [9] (fun i wr => ∃ k : Nat, k ≤ 4 ∧ i = .int .i64 k ∧ Hid (RR w R G bare m' wr)) (fun i _ => 4 - (intOf i).toNat)
          case atStart => exact ⟨0, by omega, rfl, HR5⟩
          case round =>
            obtain ⟨k, hk4, rfl, HQ⟩ := hrel
            clear HR5
            by_cases hk : k < 4
            · obtain ⟨pw, sc, hrm⟩ := HQ.out.room
              have hki : (k : Int) < 4 := by omega
              have g1 := hrm.cells.wr k hk
              cases hp : m'.p k with
              | none =>
                have hps : (m'.p k).isSome = false := by rw [hp]; rfl
                simp only [hps, ptrOf, Bool.false_eq_true, if_false] at g1
                clear hrm hp hps
                go_wp2_with fail
                go_roundw
                case rel => exact ⟨k + 1, by omega, by go_num, HQ⟩
                case measure => simp [intOf]; omega
              | some q =>
                obtain ⟨r, ts⟩ := q
                have HP : Hid (m'.p k = some (r, ts)) := hp
                have hps : (m'.p k).isSome = true := by rw [hp]; rfl
                simp only [hps, ptrOf, if_true] at g1
                have HO : Hid (WOk r ts) := rmi_wok HQ.out.inv hk hp
                have HGD : Hid (Good m'.b) := HQ.out.inv.good
                have HKN : Hid (r.me = (k : Int) ∧ knownL r.me ts r.list = r.base ∧ ∀ x ∈ r.list, 0 ≤ x.gone ∧ x.gone ≤ 15) := by
                  obtain ⟨q1, q2, c, q3, _⟩ := HQ.out.inv.some k hk r ts hp
                  exact ⟨q1, q2.known q3 HQ.out.inv.good, fun x hx => (q3.tame HQ.out.inv.good x hx).2⟩
                obtain ⟨L, hL⟩ : ∃ L, KN m'.b bare r L := ⟨_, kn_of HQ.out.inv hk hp⟩
                have HK : Hid (KN m'.b bare r L) := hL
                have HRM : Hid (Room w.heap.size R G pw sc bare (fun _ => False) m' wr) := hrm
                have HQ6 : Hid (RR w R G bare m' wr) := HQ
                clear hrm hp hps hL HQ
                go_wp2_with fail
                clear g1
                generalize wr = w6 at *
                go_loopw [11, 12] (fun v n wq => ∃ n' : Nat, n' ≤ r.seen ∧ n = .int .i64 ((n' : Int) + 1) ∧ Hid (OI w6 v (m'.b.ds.take n') wq)) (fun _ n _ => r.seen + 1 - (intOf n).toNat)
                case atStart => exact ⟨0, Nat.zero_le _, rfl, ⟨Below.refl _ _, ownD_nil _ _⟩⟩
                case round =>
                  obtain ⟨n', hn, rfl, HI3⟩ := hrel
                  have hsn := HO.out.seen
                  by_cases hlt3 : n' < r.seen
                  · have hnl : n' < m'.b.ds.length := by have := HK.out.seen; omega
                    obtain ⟨h1, h2⟩ := is_yes hnl
                    have H1 : Hid (isD m'.b ((n' : Int) + 1) = true) := h1
                    have H2 : Hid (nthD m'.b ((n' : Int) + 1) = m'.b.ds[n']) := h2
                    have HT : Hid (m'.b.ds.take (n' + 1) = m'.b.ds.take n' ++ [m'.b.ds[n']]) := List.take_succ_eq_append_getElem hnl
                    have HTL : Hid ((m'.b.ds.take n').length ≤ 120) := by show _ ≤ _; rw [List.length_take]; omega
                    generalize m'.b.ds[n'] = d at *
                    clear h1 h2
                    obtain ⟨kind, by_, no, seen, at_, many, text⟩ := d
                    have HRw : Hid (Room w.heap.size R G pw sc bare (fun _ => False) m' wr) := HRM.out.after HI3.out.below
                    obtain ⟨Sw, lv, ov, tvs, hp, _⟩ := HRw.out.wr hk HP.out
                    obtain ⟨Sl, dv, lv2, hlg, _⟩ := HRw.out.log
                    have g0 := HRw.out.cells.log
                    go_wp2_with (first | (go_at_call 8; refine (seen_pw hp).mono ?_; rintro e wx ⟨rfl, hwx⟩; rw [hwx]; clear hwx wx) | (go_at_call 9; refine (deed_lg hlg HGD.out.small _).mono ?_; rintro e wy ⟨rfl, hby⟩; rw [H1.out, H2.out]; have HBy : Hid (OI w6 u11 (m'.b.ds.take n') wy) := HI3.out.after hby; clear hby) | (at_builtin; refine append_deeds _ (by rfl) (.tmp 78) (.tmp 80) (by rfl) w6.heap.size (wy.heap.size + 1) 1 (v := u11) (a := m'.b.ds.take n') (b := [⟨kind, by_, no, seen, at_, many, text⟩]) (by rfl) (by rfl) ((HBy.out.own.below ((Below.refl _ _).alloc (Nat.le_refl _) _)).below ((Below.refl _ _).alloc (Nat.le_refl _) _)) (src_new2 (wy.alloc (dObj ⟨kind, by_, no, seen, at_, many, text⟩)) ⟨kind, by_, no, seen, at_, many, text⟩ (by simp)) (by have := HTL.out; show _ + 1 ≤ 100000; omega) (by have := HBy.out.below.size; simp; omega) ?_))
                    intro v' w2 ho hg
                    have HB2 : Hid (Below w6.heap.size w6 w2) := below_grown2 (HBy.out.below.alloc HBy.out.below.size _) (HBy.out.own.below ((Below.refl _ _).alloc (Nat.le_refl _) _)) hg
                    have HO2 : Hid (OwnD w2 w6.heap.size v' (m'.b.ds.take (n' + 1))) := by show OwnD _ _ _ _; rw [HT.out]; exact ho
                    clear ho hg g0
                    go_wp2
                    go_roundw
                    case rel => exact ⟨n' + 1, by omega, by go_num, ⟨HB2.out, HO2.out⟩⟩
                    case measure => simp [intOf]; omega
                  · obtain rfl : n' = r.seen := by omega
                    have HLT : Hid ((m'.b.ds.take r.seen).length ≤ 1000) := by show _ ≤ _; rw [List.length_take]; have := HO.out.seen; omega
                    have HAL : Hid ((allL [] 0 (m'.b.ds.take r.seen)).2.1 = 0 ∧ (allL [] 0 (m'.b.ds.take r.seen)).1 = L) := by have h9 := HK.out.all; exact ⟨by rw [h9], by rw [h9]⟩
                    generalize m'.b.ds.take r.seen = DS at HI3 HAL HLT
                    have HRw : Hid (Room w.heap.size R G pw sc bare (fun _ => False) m' wr) := HRM.out.after HI3.out.below
                    obtain ⟨Sw, lv, ov, tvs, hp, _⟩ := HRw.out.wr hk HP.out
                    obtain ⟨aa, ca, he11⟩ := OwnD.len HI3.out.own
                    subst he11
                    go_wp2_with fail
                    refine (seen_pw hp).mono ?_
                    rintro e wx ⟨rfl, hwx⟩
                    rw [hwx]
                    clear hwx wx
                    clear hp
                    have hall := all_lst HI3.out.own.dlst (HLT.out)
                    rw [HAL.out.1, HAL.out.2] at hall
                    generalize ((allL [] 0 DS).2.2 : Int) = fa at hall
                    go_wp2_with fail
                    refine hall.mono ?_
                    rintro e w8 ⟨vk, rfl, hO8, hb8⟩
                    clear hall
                    have HB8 : Hid (Below w6.heap.size w6 w8) := below_after HI3.out.below hb8
                    have HL8 : Hid (Lst w8 vk L) := hO8.lst
                    clear hO8 hb8 HI3 HRw HAL HLT
                    have HC0 : Hid (∀ o : Obj, (w8.alloc o).cell? ⟨w8.heap.size, 0, none⟩ = some (.int .i64 0) → KQ w6 w.heap.size (pw k) R G w8.heap.size r ts m'.b vk L (w8.alloc o)) := fun o ho => kq_of HRM.out hk HP.out (HB8.out.alloc HB8.out.size _) (by simp) ho (HL8.out.below ((Below.refl _ _).alloc (Nat.le_refl _) _))
                    go_upto_region 25 with fail
                    have HC : Hid (KQ w6 w.heap.size (pw k) R G w8.heap.size r ts m'.b vk L (w8.alloc (.cells #[.int .i64 0, .int .i64 fa] 46))) := HC0.out _ (by simp [go_sem])
                    clear HC0 HB8 HL8
                    generalize World.alloc _ _ = wc at *
                    generalize w8.heap.size = F at *
                    cases bare
                    · refine wp_region_late (fun wk => KQ w6 w.heap.size (pw k) R G F r ts m'.b vk L wk) (fun i => i == 5 || i == 7 || i == 8 || i == 11 || i == 13 || i == 16 || i == 17 || i == 21 || i == 27 || i == 28 || i == 30 || i == 35 || i == 36 || i == 37) (fun i => false) (by kernel_rfl) (by kernel_rfl) (by kernel_rfl) (HC.out.after (Below.refl _ _).drew) ?_
                      refine wpLate_bigK (some 87) w rfl (.pointer (some ⟨F, 0, none⟩)) rfl (by kernel_rfl) (fun wk hwk => ?_) (fun K hK => ?_)
                      · generalize hA : Act.eval _ = ρ
                        have s16 : ρ (.tmp 16) = .pointer (some ⟨F, 0, none⟩) := by rw [← hA]; kernel_rfl
                        clear hA
                        go_simp
                      go_big_quiet_op
                      refine hK _ ?_
                      clear hK K
                      refine wpLate_bigK (some 88) w rfl (.int .i64 (0)) rfl (by kernel_rfl) (fun wk hwk => ?_) (fun K hK => ?_)
                      · generalize hA : Act.eval _ = ρ
                        have s87 : ρ (.tmp 87) = .pointer (some ⟨F, 0, none⟩) := by rw [← hA]; kernel_rfl
                        clear hA
                        have c0 := hwk.fc
                        go_simp
                      go_big_quiet_op
                      refine hK _ ?_
                      clear hK K
                      refine wpLate_bigK (some 89) w rfl (.bool false) rfl (by kernel_rfl) (fun wk hwk => ?_) (fun K hK => ?_)
                      · generalize hA : Act.eval _ = ρ
                        have s88 : ρ (.tmp 88) = .int .i64 (0) := by rw [← hA]; kernel_rfl
                        have k1 : ρ (.const (.int .i64 (0))) = .int .i64 (0) := by rw [← hA]; kernel_rfl
                        clear hA
                        go_simp
                      go_big_quiet_op
                      refine hK _ ?_
                      clear hK K
                      refine wpLate_bigK (some 90) w rfl (.bool false) rfl (by kernel_rfl) (fun wk hwk => ?_) (fun K hK => ?_)
                      · generalize hA : Act.eval _ = ρ
                        have s89 : ρ (.tmp 89) = .bool false := by rw [← hA]; kernel_rfl
                        clear hA
                        go_simp
                      go_big_quiet_op
                      refine hK _ ?_
                      clear hK K
                      refine wpLate_bigK (some 91) w rfl (vk) rfl (by kernel_rfl) (fun wk hwk => ?_) (fun K hK => ?_)
                      · generalize hA : Act.eval _ = ρ
                        have s15 : ρ (.tmp 15) = vk := by rw [← hA]; kernel_rfl
                        clear hA
                        go_simp
                      go_big_quiet_op
                      refine hK _ ?_
                      clear hK K
                      refine wpLate_bigSpineK (some 92) w rfl rfl (by kernel_rfl) (fun u => u = .string (strOfNums (textL L))) (fun u wk => KQ w6 w.heap.size (pw k) R G F r ts m'.b vk L wk) (fun u wk => KQ w6 w.heap.size (pw k) R G F r ts m'.b vk L wk) (⟨_, rfl⟩) (fun _ _ h => h) (fun _ _ h => h) (fun wk hwk => ?_) (fun u9 hu9 K hK => ?_)
                      · generalize hA : Act.eval _ = ρ
                        have s91 : ρ (.tmp 91) = vk := by rw [← hA]; kernel_rfl
                        have sf : ρ (.func 11) = .func (.func 11) #[] #[] := by rw [← hA]; kernel_rfl
                        clear hA
                        go_simp
                        refine (text_lst hwk.kn (by have := HK.out.small; omega)).mono ?_
                        rintro e w7 ⟨rfl, hb⟩
                        exact ⟨_, rfl, rfl, hwk.after hb⟩
                      subst hu9
                      go_big_quiet_op
                      refine hK _ ?_
                      clear hK K
                      refine wpLate_bigK (some 93) w rfl (.pointer (some ⟨pw k, 0, none⟩)) rfl (by kernel_rfl) (fun wk hwk => ?_) (fun K hK => ?_)
                      · generalize hA : Act.eval _ = ρ
                        have s10 : ρ (.tmp 10) = .pointer (some ⟨pw k, 0, none⟩) := by rw [← hA]; kernel_rfl
                        clear hA
                        go_simp
                      go_big_quiet_op
                      refine hK _ ?_
                      clear hK K
                      refine wpLate_bigSpineK (some 94) w rfl rfl (by kernel_rfl) (fun u => True) (fun u wk => KQ w6 w.heap.size (pw k) R G F r ts m'.b vk L wk) (fun u wk => KV w6 w.heap.size (pw k) R G F r ts m'.b vk L u (.slice none 0 0) (r.base) ([]) wk) (⟨.int .i64 0, trivial⟩) (fun _ _ h => h) (fun _ _ h => h.q) (fun wk hwk => ?_) (fun v3 _ K hK => ?_)
                      · generalize hA : Act.eval _ = ρ
                        have s93 : ρ (.tmp 93) = .pointer (some ⟨pw k, 0, none⟩) := by rw [← hA]; kernel_rfl
                        have sf : ρ (.func 12) = .func (.func 12) #[] #[] := by rw [← hA]; kernel_rfl
                        clear hA
                        go_simp
                        obtain ⟨S, lv, ov, tvs, hp⟩ := hwk.pw
                        refine (known_pw (me := k) (by rw [← HKN.out.1]; exact hp) (by have := HO.out.len; omega) (by omega) (by have := HO.out.few; omega) HO.out.took HKN.out.2.2).mono ?_
                        rintro e w7 ⟨v7, rfl, ho, hb⟩
                        rw [← HKN.out.1, HKN.out.2.1] at ho
                        exact ⟨_, rfl, hwk.after hb, ho.lst, lst_nil _⟩
                      go_big_quiet_op
                      refine hK _ ?_
                      clear hK K
                      refine wpLate_bigSpineK (some 95) w rfl rfl (by kernel_rfl) (fun u => u = .string (strOfNums (textL L))) (fun u wk => KQ w6 w.heap.size (pw k) R G F r ts m'.b vk L wk) (fun u wk => KQ w6 w.heap.size (pw k) R G F r ts m'.b vk L wk) (⟨_, rfl⟩) (fun _ _ h => h) (fun _ _ h => h) (fun wk hwk => ?_) (fun u9 hu9 K hK => ?_)
                      · generalize hA : Act.eval _ = ρ
                        have s94 : ρ (.tmp 94) = v3 := by rw [← hA]; kernel_rfl
                        have sf : ρ (.func 11) = .func (.func 11) #[] #[] := by rw [← hA]; kernel_rfl
                        clear hA
                        go_simp
                        refine (text_lst hwk.h1 (by have := HO.out.base; omega)).mono ?_
                        rintro e w7 ⟨rfl, hb⟩
                        rw [← HK.out.text]
                        exact ⟨_, rfl, rfl, hwk.q.after hb⟩
                      subst hu9
                      go_big_quiet_op
                      refine hK _ ?_
                      clear hK K
                      refine wpLate_bigK (some 96) w rfl (.bool false) rfl (by kernel_rfl) (fun wk hwk => ?_) (fun K hK => ?_)
                      · generalize hA : Act.eval _ = ρ
                        have s92 : ρ (.tmp 92) = .string (strOfNums (textL L)) := by rw [← hA]; kernel_rfl
                        have s95 : ρ (.tmp 95) = .string (strOfNums (textL L)) := by rw [← hA]; kernel_rfl
                        clear hA
                        go_simp
                      go_big_quiet_op
                      refine hK _ ?_
                      clear hK K
                      refine wpLate_bigK (some 97) w rfl (.bool false) rfl (by kernel_rfl) (fun wk hwk => ?_) (fun K hK => ?_)
                      · generalize hA : Act.eval _ = ρ
                        have s90 : ρ (.tmp 90) = .bool false := by rw [← hA]; kernel_rfl
                        have s96 : ρ (.tmp 96) = .bool false := by rw [← hA]; kernel_rfl
                        have k2 : ρ (.const (.bool true)) = .bool true := by rw [← hA]; kernel_rfl
                        clear hA
                        go_simp
                      go_big_quiet_op
                      refine hK _ ?_
                      clear hK K
                      refine wpLate_bigSpineK (some 98) w rfl rfl (by kernel_rfl) (fun u => u = .bool false) (fun u wk => KQ w6 w.heap.size (pw k) R G F r ts m'.b vk L wk) (fun u wk => KQ w6 w.heap.size (pw k) R G F r ts m'.b vk L wk) (⟨_, rfl⟩) (fun _ _ h => h) (fun _ _ h => h) (fun wk hwk => ?_) (fun u9 hu9 K hK => ?_)
                      · generalize hA : Act.eval _ = ρ
                        have s97 : ρ (.tmp 97) = .bool false := by rw [← hA]; kernel_rfl
                        clear hA
                        go_simp
                        exact ⟨rfl, hwk⟩
                      subst hu9
                      go_big_quiet_op
                      refine hK _ ?_
                      clear hK K
                      refine wpLate_bigK (some 99) w rfl (.bool false) rfl (by kernel_rfl) (fun wk hwk => ?_) (fun K hK => ?_)
                      · generalize hA : Act.eval _ = ρ
                        have s1 : ρ (.tmp 1) = .bool false := by rw [← hA]; kernel_rfl
                        clear hA
                        go_simp
                      go_big_quiet_op
                      refine hK _ ?_
                      clear hK K
                      refine wpLate_bigSpineK (some 100) w rfl rfl (by kernel_rfl) (fun u => u = .bool false) (fun u wk => KQ w6 w.heap.size (pw k) R G F r ts m'.b vk L wk) (fun u wk => KQ w6 w.heap.size (pw k) R G F r ts m'.b vk L wk) (⟨_, rfl⟩) (fun _ _ h => h) (fun _ _ h => h) (fun wk hwk => ?_) (fun u9 hu9 K hK => ?_)
                      · generalize hA : Act.eval _ = ρ
                        have s99 : ρ (.tmp 99) = .bool false := by rw [← hA]; kernel_rfl
                        clear hA
                        go_simp
                        exact ⟨rfl, hwk⟩
                      subst hu9
                      go_big_quiet_op
                      refine hK _ ?_
                      clear hK K
                      refine wpLate_bigSkipS (some 101) w rfl (by kernel_rfl) (fun K hK => ?_)
                      go_big_quiet_op
                      refine hK _ ?_
                      clear hK K
                      refine wpLate_bigSkipS (some 102) w rfl (by kernel_rfl) (fun K hK => ?_)
                      go_big_quiet_op
                      refine hK _ ?_
                      clear hK K
                      refine wpLate_bigSkipS (some 103) w rfl (by kernel_rfl) (fun K hK => ?_)
                      go_big_quiet_op
                      refine hK _ ?_
                      clear hK K
                      refine wpLate_bigSkipS (some 104) w rfl (by kernel_rfl) (fun K hK => ?_)
                      go_big_quiet_op
                      refine hK _ ?_
                      clear hK K
                      refine wpLate_bigSkipS (some 105) w rfl (by kernel_rfl) (fun K hK => ?_)
                      go_big_quiet_op
                      refine hK _ ?_
                      clear hK K
                      refine wpLate_bigK (some 106) w rfl (.bool false) rfl (by kernel_rfl) (fun wk hwk => ?_) (fun K hK => ?_)
                      · generalize hA : Act.eval _ = ρ
                        have s100 : ρ (.tmp 100) = .bool false := by rw [← hA]; kernel_rfl
                        have s105 : ρ (.tmp 105) = undef := by rw [← hA]; kernel_rfl
                        have k2 : ρ (.const (.bool false)) = .bool false := by rw [← hA]; kernel_rfl
                        clear hA
                        go_simp
                      go_big_quiet_op
                      refine hK _ ?_
                      clear hK K
                      refine wpLate_bigK (some 107) w rfl (.bool false) rfl (by kernel_rfl) (fun wk hwk => ?_) (fun K hK => ?_)
                      · generalize hA : Act.eval _ = ρ
                        have s98 : ρ (.tmp 98) = .bool false := by rw [← hA]; kernel_rfl
                        have s106 : ρ (.tmp 106) = .bool false := by rw [← hA]; kernel_rfl
                        have k2 : ρ (.const (.bool true)) = .bool true := by rw [← hA]; kernel_rfl
                        clear hA
                        go_simp
                      go_big_quiet_op
                      refine hK _ ?_
                      clear hK K
                      refine wpLate_bigSpineK (some 108) w rfl rfl (by kernel_rfl) (fun u => u = .bool false) (fun u wk => KQ w6 w.heap.size (pw k) R G F r ts m'.b vk L wk) (fun u wk => KQ w6 w.heap.size (pw k) R G F r ts m'.b vk L wk) (⟨_, rfl⟩) (fun _ _ h => h) (fun _ _ h => h) (fun wk hwk => ?_) (fun u9 hu9 K hK => ?_)
                      · generalize hA : Act.eval _ = ρ
                        have s107 : ρ (.tmp 107) = .bool false := by rw [← hA]; kernel_rfl
                        clear hA
                        go_simp
                        exact ⟨rfl, hwk⟩
                      subst hu9
                      go_big_quiet_op
                      refine hK _ ?_
                      clear hK K
                      refine wpLate_bigK (some 109) w rfl (vk) rfl (by kernel_rfl) (fun wk hwk => ?_) (fun K hK => ?_)
                      · generalize hA : Act.eval _ = ρ
                        have s15 : ρ (.tmp 15) = vk := by rw [← hA]; kernel_rfl
                        clear hA
                        go_simp
                      go_big_quiet_op
                      refine hK _ ?_
                      clear hK K
                      refine wpLate_bigK (some 110) w rfl (.pointer (some ⟨R, 0, none⟩)) rfl (by kernel_rfl) (fun wk hwk => ?_) (fun K hK => ?_)
                      · generalize hA : Act.eval _ = ρ
                        have s5 : ρ (.tmp 5) = .pointer (some ⟨R, 0, none⟩) := by rw [← hA]; kernel_rfl
                        clear hA
                        go_simp
                      go_big_quiet_op
                      refine hK _ ?_
                      clear hK K
                      refine wpLate_bigK (some 111) w rfl (.pointer (some ⟨R, 0, none⟩)) rfl (by kernel_rfl) (fun wk hwk => ?_) (fun K hK => ?_)
                      · generalize hA : Act.eval _ = ρ
                        have s110 : ρ (.tmp 110) = .pointer (some ⟨R, 0, none⟩) := by rw [← hA]; kernel_rfl
                        clear hA
                        go_simp
                      go_big_quiet_op
                      refine hK _ ?_
                      clear hK K
                      refine wpLate_bigK (some 112) w rfl (.pointer (some ⟨R, 0, none⟩)) rfl (by kernel_rfl) (fun wk hwk => ?_) (fun K hK => ?_)
                      · generalize hA : Act.eval _ = ρ
                        have s111 : ρ (.tmp 111) = .pointer (some ⟨R, 0, none⟩) := by rw [← hA]; kernel_rfl
                        clear hA
                        go_simp
                      go_big_quiet_op
                      refine hK _ ?_
                      clear hK K
                      refine wpLate_bigK (some 113) w rfl (.pointer (some ⟨G, 0, none⟩)) rfl (by kernel_rfl) (fun wk hwk => ?_) (fun K hK => ?_)
                      · generalize hA : Act.eval _ = ρ
                        have s112 : ρ (.tmp 112) = .pointer (some ⟨R, 0, none⟩) := by rw [← hA]; kernel_rfl
                        clear hA
                        have g0 := hwk.rg
                        go_simp
                      go_big_quiet_op
                      refine hK _ ?_
                      clear hK K
                      refine wpLate_bigSpineK (some 114) w rfl rfl (by kernel_rfl) (fun u => u = .int .i64 (leastL m'.b)) (fun u wk => KQ w6 w.heap.size (pw k) R G F r ts m'.b vk L wk) (fun u wk => KQ w6 w.heap.size (pw k) R G F r ts m'.b vk L wk) (⟨_, rfl⟩) (fun _ _ h => h) (fun _ _ h => h) (fun wk hwk => ?_) (fun u9 hu9 K hK => ?_)
                      · generalize hA : Act.eval _ = ρ
                        have s113 : ρ (.tmp 113) = .pointer (some ⟨G, 0, none⟩) := by rw [← hA]; kernel_rfl
                        have sf : ρ (.func 15) = .func (.func 15) #[] #[] := by rw [← hA]; kernel_rfl
                        clear hA
                        go_simp
                        obtain ⟨S, dv, lv, hl⟩ := hwk.log
                        refine (least_lg hl HGD.out).mono ?_
                        rintro e w7 ⟨rfl, hb⟩
                        exact ⟨_, rfl, rfl, hwk.after hb⟩
                      subst hu9
                      go_big_quiet_op
                      refine hK _ ?_
                      clear hK K
                      refine wpLate_bigSpineK (some 115) w rfl rfl (by kernel_rfl) (fun u => True) (fun u wk => KQ w6 w.heap.size (pw k) R G F r ts m'.b vk L wk) (fun u wk => KV w6 w.heap.size (pw k) R G F r ts m'.b vk L u (.slice none 0 0) (ofL (leastL m'.b) L) ([]) wk) (⟨.int .i64 0, trivial⟩) (fun _ _ h => h) (fun _ _ h => h.q) (fun wk hwk => ?_) (fun v5 _ K hK => ?_)
                      · generalize hA : Act.eval _ = ρ
                        have s109 : ρ (.tmp 109) = vk := by rw [← hA]; kernel_rfl
                        have s114 : ρ (.tmp 114) = .int .i64 (leastL m'.b) := by rw [← hA]; kernel_rfl
                        have sf : ρ (.func 14) = .func (.func 14) #[] #[] := by rw [← hA]; kernel_rfl
                        clear hA
                        go_simp
                        refine (of_lst _ hwk.kn (by have := HK.out.small; omega)).mono ?_
                        rintro e w7 ⟨v7, rfl, ho, hb⟩
                        exact ⟨_, rfl, hwk.after hb, ho.lst, lst_nil _⟩
                      go_big_quiet_op
                      refine hK _ ?_
                      clear hK K
                      refine wpLate_bigK (some 116) w rfl (.pointer (some ⟨pw k, 0, none⟩)) rfl (by kernel_rfl) (fun wk hwk => ?_) (fun K hK => ?_)
                      · generalize hA : Act.eval _ = ρ
                        have s10 : ρ (.tmp 10) = .pointer (some ⟨pw k, 0, none⟩) := by rw [← hA]; kernel_rfl
                        clear hA
                        go_simp
                      go_big_quiet_op
                      refine hK _ ?_
                      clear hK K
                      refine wpLate_bigSpineK (some 117) w rfl rfl (by kernel_rfl) (fun u => True) (fun u wk => KQ w6 w.heap.size (pw k) R G F r ts m'.b vk L wk) (fun u wk => KV w6 w.heap.size (pw k) R G F r ts m'.b vk L v5 u (ofL (leastL m'.b) L) (r.base) wk) (⟨.int .i64 0, trivial⟩) (fun _ _ h => h) (fun _ _ h => h.q) (fun wk hwk => ?_) (fun v6 _ K hK => ?_)
                      · generalize hA : Act.eval _ = ρ
                        have s116 : ρ (.tmp 116) = .pointer (some ⟨pw k, 0, none⟩) := by rw [← hA]; kernel_rfl
                        have sf : ρ (.func 12) = .func (.func 12) #[] #[] := by rw [← hA]; kernel_rfl
                        clear hA
                        go_simp
                        obtain ⟨S, lv, ov, tvs, hp⟩ := hwk.q.pw
                        refine (known_pw (me := k) (by rw [← HKN.out.1]; exact hp) (by have := HO.out.len; omega) (by omega) (by have := HO.out.few; omega) HO.out.took HKN.out.2.2).mono ?_
                        rintro e w7 ⟨v7, rfl, ho, hb⟩
                        rw [← HKN.out.1, HKN.out.2.1] at ho
                        exact ⟨_, rfl, hwk.q.after hb, hwk.h1.below hb, ho.lst⟩
                      go_big_quiet_op
                      refine hK _ ?_
                      clear hK K
                      refine wpLate_bigK (some 118) w rfl (.pointer (some ⟨R, 0, none⟩)) rfl (by kernel_rfl) (fun wk hwk => ?_) (fun K hK => ?_)
                      · generalize hA : Act.eval _ = ρ
                        have s5 : ρ (.tmp 5) = .pointer (some ⟨R, 0, none⟩) := by rw [← hA]; kernel_rfl
                        clear hA
                        go_simp
                      go_big_quiet_op
                      refine hK _ ?_
                      clear hK K
                      refine wpLate_bigK (some 119) w rfl (.pointer (some ⟨R, 0, none⟩)) rfl (by kernel_rfl) (fun wk hwk => ?_) (fun K hK => ?_)
                      · generalize hA : Act.eval _ = ρ
                        have s118 : ρ (.tmp 118) = .pointer (some ⟨R, 0, none⟩) := by rw [← hA]; kernel_rfl
                        clear hA
                        go_simp
                      go_big_quiet_op
                      refine hK _ ?_
                      clear hK K
                      refine wpLate_bigK (some 120) w rfl (.pointer (some ⟨R, 0, none⟩)) rfl (by kernel_rfl) (fun wk hwk => ?_) (fun K hK => ?_)
                      · generalize hA : Act.eval _ = ρ
                        have s119 : ρ (.tmp 119) = .pointer (some ⟨R, 0, none⟩) := by rw [← hA]; kernel_rfl
                        clear hA
                        go_simp
                      go_big_quiet_op
                      refine hK _ ?_
                      clear hK K
                      refine wpLate_bigK (some 121) w rfl (.pointer (some ⟨G, 0, none⟩)) rfl (by kernel_rfl) (fun wk hwk => ?_) (fun K hK => ?_)
                      · generalize hA : Act.eval _ = ρ
                        have s120 : ρ (.tmp 120) = .pointer (some ⟨R, 0, none⟩) := by rw [← hA]; kernel_rfl
                        clear hA
                        have g0 := hwk.rg
                        go_simp
                      go_big_quiet_op
                      refine hK _ ?_
                      clear hK K
                      refine wpLate_bigSpineK (some 122) w rfl rfl (by kernel_rfl) (fun u => u = .int .i64 (leastL m'.b)) (fun u wk => KQ w6 w.heap.size (pw k) R G F r ts m'.b vk L wk) (fun u wk => KV w6 w.heap.size (pw k) R G F r ts m'.b vk L v5 v6 (ofL (leastL m'.b) L) (r.base) wk) (⟨_, rfl⟩) (fun _ _ h => h) (fun _ _ h => h.q) (fun wk hwk => ?_) (fun u9 hu9 K hK => ?_)
                      · generalize hA : Act.eval _ = ρ
                        have s121 : ρ (.tmp 121) = .pointer (some ⟨G, 0, none⟩) := by rw [← hA]; kernel_rfl
                        have sf : ρ (.func 15) = .func (.func 15) #[] #[] := by rw [← hA]; kernel_rfl
                        clear hA
                        go_simp
                        obtain ⟨S, dv, lv, hl⟩ := hwk.q.log
                        refine (least_lg hl HGD.out).mono ?_
                        rintro e w7 ⟨rfl, hb⟩
                        exact ⟨_, rfl, rfl, hwk.q.after hb, hwk.h1.below hb, hwk.h2.below hb⟩
                      subst hu9
                      go_big_quiet_op
                      refine hK _ ?_
                      clear hK K
                      refine wpLate_bigSpineK (some 123) w rfl rfl (by kernel_rfl) (fun u => True) (fun u wk => KQ w6 w.heap.size (pw k) R G F r ts m'.b vk L wk) (fun u wk => KV w6 w.heap.size (pw k) R G F r ts m'.b vk L v5 u (ofL (leastL m'.b) L) (ofL (leastL m'.b) r.base) wk) (⟨.int .i64 0, trivial⟩) (fun _ _ h => h) (fun _ _ h => h.q) (fun wk hwk => ?_) (fun v7 _ K hK => ?_)
                      · generalize hA : Act.eval _ = ρ
                        have s117 : ρ (.tmp 117) = v6 := by rw [← hA]; kernel_rfl
                        have s122 : ρ (.tmp 122) = .int .i64 (leastL m'.b) := by rw [← hA]; kernel_rfl
                        have sf : ρ (.func 14) = .func (.func 14) #[] #[] := by rw [← hA]; kernel_rfl
                        clear hA
                        go_simp
                        refine (of_lst _ hwk.h2 (by have := HO.out.base; omega)).mono ?_
                        rintro e w7 ⟨v7, rfl, ho, hb⟩
                        exact ⟨_, rfl, hwk.q.after hb, hwk.h1.below hb, ho.lst⟩
                      go_big_quiet_op
                      refine hK _ ?_
                      clear hK K
                      refine wpLate_bigSpineK (some 124) w rfl rfl (by kernel_rfl) (fun u => u = .bool true) (fun u wk => KQ w6 w.heap.size (pw k) R G F r ts m'.b vk L wk) (fun u wk => KQ w6 w.heap.size (pw k) R G F r ts m'.b vk L wk) (⟨_, rfl⟩) (fun _ _ h => h) (fun _ _ h => h) (fun wk hwk => ?_) (fun u9 hu9 K hK => ?_)
                      · generalize hA : Act.eval _ = ρ
                        have s115 : ρ (.tmp 115) = v5 := by rw [← hA]; kernel_rfl
                        have s123 : ρ (.tmp 123) = v7 := by rw [← hA]; kernel_rfl
                        have sf : ρ (.func 13) = .func (.func 13) #[] #[] := by rw [← hA]; kernel_rfl
                        clear hA
                        go_simp
                        refine (sameChars_lst hwk.h1 hwk.h2 (by have := HK.out.small; have := ofL_le (leastL m'.b) L; omega) (by have := HO.out.base; have := ofL_le (leastL m'.b) r.base; omega)).mono ?_
                        rintro e w7 ⟨b7, rfl, hbe, hb⟩
                        obtain rfl := hbe.2 HK.out.of_
                        exact ⟨_, rfl, rfl, hwk.q.after hb⟩
                      subst hu9
                      go_big_quiet_op
                      refine hK _ ?_
                      clear hK K
                      refine wpLate_bigK (some 125) w rfl (.bool false) rfl (by kernel_rfl) (fun wk hwk => ?_) (fun K hK => ?_)
                      · generalize hA : Act.eval _ = ρ
                        have s124 : ρ (.tmp 124) = .bool true := by rw [← hA]; kernel_rfl
                        clear hA
                        go_simp
                      go_big_quiet_op
                      refine hK _ ?_
                      clear hK K
                      refine wpLate_bigK (some 126) w rfl (.bool false) rfl (by kernel_rfl) (fun wk hwk => ?_) (fun K hK => ?_)
                      · generalize hA : Act.eval _ = ρ
                        have s108 : ρ (.tmp 108) = .bool false := by rw [← hA]; kernel_rfl
                        have s125 : ρ (.tmp 125) = .bool false := by rw [← hA]; kernel_rfl
                        have k2 : ρ (.const (.bool true)) = .bool true := by rw [← hA]; kernel_rfl
                        clear hA
                        go_simp
                      go_big_quiet_op
                      refine hK _ ?_
                      clear hK K
                      refine wpLate_nil (fun w9 hw9 => ?_)
                      have H9 : Hid (KQ w6 w.heap.size (pw k) R G F r ts m'.b vk L w9) := hw9
                      clear hw9 HC
                      go_wp2_with fail
                      obtain ⟨Sp, lv, ov, tvs, hp⟩ := H9.out.pw
                      refine (open_pw hp (by have := HO.out.few; omega)).mono ?_
                      rintro e wa ⟨va, rfl, hoa, hba⟩
                      obtain ⟨oa, oc, hva⟩ := OwnD.len hoa
                      subst hva
                      have HA : Hid (KL w6 w.heap.size (pw k) R G F r ts m'.b vk L w9.heap.size (.slice oa r.opens.length oc) wa) := ⟨H9.out.after hba, hoa⟩
                      clear hp hoa hba H9
                      go_wp2_with fail
                      go_loopw [15, 18] (fun kv i wq => ∃ (n : Nat) (L' : List Ch), n ≤ r.opens.length ∧ i = .int .i64 n ∧ Hid (KO r L L' n) ∧ Hid (KL w6 w.heap.size (pw k) R G F r ts m'.b kv L' w9.heap.size (.slice oa r.opens.length oc) wq)) (fun _ i _ => r.opens.length - (intOf i).toNat)
                      case atStart => exact ⟨0, L, Nat.zero_le _, rfl, ko_start HK.out, HA⟩
                      case round =>
                        obtain ⟨n, L', hn, rfl, HKO, HX⟩ := hrel
                        have hfew := HO.out.few
                        by_cases hlt4 : n < r.opens.length
                        · have HCO : Hid (doC L' r.opens[n] openN = 0 ∨ doC L' r.opens[n] openN = 9) := ko_code HK.out hlt4 HKO.out
                          have HST : Hid (doC L' r.opens[n] openN = 0 → KO r L (doR L' r.opens[n] openN) (n + 1)) := fun e => ko_step HK.out hlt4 HKO.out e
                          obtain ⟨ob, oc', he, hdd⟩ := OwnD.nth HX.out.op hlt4
                          simp only [Value.slice.injEq] at he
                          obtain ⟨rfl, -, rfl⟩ := he
                          generalize r.opens[n] = d at *
                          obtain ⟨_, b0, b1, b2, b3, b4, b5, b6⟩ := hdd
                          generalize u15 = kv at *
                          go_wp2_with fail
                          refine (do_any L' d openN kv wr HX.out.q.kn (by have := HKO.out.small; omega) HKO.out.fits).mono ?_
                          rintro e wb ⟨vb, rfl, hob, hbb⟩
                          have HY : Hid (KL w6 w.heap.size (pw k) R G F r ts m'.b kv L' w9.heap.size (.slice (some ⟨ob, 0, none⟩) r.opens.length oc) wb) := HX.out.after hbb
                          have HLB : Hid (Lst wb vb (doR L' d openN)) := hob.lst
                          clear hob hbb HX b0 b1 b2 b3 b4 b5 b6
                          rcases HCO.out with hc | hc
                          · rw [hc]
                            have HST' : Hid (KO r L (doR L' d openN) (n + 1)) := HST.out hc
                            clear hc HCO HST
                            go_wp2_with fail
                            go_roundw
                            case rel => exact ⟨n + 1, _, by omega, by go_num, HST', ⟨HY.out.q.list HLB.out, HY.out.op⟩⟩
                            case measure => simp [intOf]; omega
                          · rw [hc]
                            clear hc HCO HST
                            go_wp2_with fail
                            go_ret
                            exact ⟨rfl, HQ6.out.below.trans (HY.out.q.below.mono HQ6.out.below.size)⟩
                        · obtain rfl : n = r.opens.length := by omega
                          have HVW : Hid (vw L' r.seen r.me = vw r.list r.seen r.me) := ko_end HK.out (Nat.le_refl _) HKO.out
                          generalize u15 = kv at *
                          go_wp2_with fail
                          refine wp_region_late (fun wk => KQ w6 w.heap.size (pw k) R G F r ts m'.b kv L' wk) (fun i => i == 2 || i == 4 || i == 7) (fun i => i == 5) (by kernel_rfl) (by kernel_rfl) (by kernel_rfl) (HX.out.q.after (Below.refl _ _).drew) ?_
                          refine wpLate_bigK (some 149) w rfl (kv) rfl (by kernel_rfl) (fun wk hwk => ?_) (fun K hK => ?_)
                          · generalize hA : Act.eval _ = ρ
                            have s15 : ρ (.tmp 15) = kv := by rw [← hA]; kernel_rfl
                            clear hA
                            go_simp
                          go_big_quiet_op
                          refine hK _ ?_
                          clear hK K
                          refine wpLate_bigK (some 150) w rfl (.pointer (some ⟨pw k, 0, none⟩)) rfl (by kernel_rfl) (fun wk hwk => ?_) (fun K hK => ?_)
                          · generalize hA : Act.eval _ = ρ
                            have s10 : ρ (.tmp 10) = .pointer (some ⟨pw k, 0, none⟩) := by rw [← hA]; kernel_rfl
                            clear hA
                            go_simp
                          go_big_quiet_op
                          refine hK _ ?_
                          clear hK K
                          refine wpLate_bigSpineK (some 151) w rfl rfl (by kernel_rfl) (fun u => u = .int .i64 ((r.seen : Int))) (fun u wk => KQ w6 w.heap.size (pw k) R G F r ts m'.b kv L' wk) (fun u wk => KQ w6 w.heap.size (pw k) R G F r ts m'.b kv L' wk) (⟨_, rfl⟩) (fun _ _ h => h) (fun _ _ h => h) (fun wk hwk => ?_) (fun u9 hu9 K hK => ?_)
                          · generalize hA : Act.eval _ = ρ
                            have s150 : ρ (.tmp 150) = .pointer (some ⟨pw k, 0, none⟩) := by rw [← hA]; kernel_rfl
                            have sf : ρ (.func 8) = .func (.func 8) #[] #[] := by rw [← hA]; kernel_rfl
                            clear hA
                            go_simp
                            obtain ⟨S, lv, ov, tvs, hp⟩ := hwk.pw
                            refine (seen_pw hp).mono ?_
                            rintro e w7 ⟨rfl, rfl⟩
                            exact ⟨_, rfl, rfl, hwk⟩
                          subst hu9
                          go_big_quiet_op
                          refine hK _ ?_
                          clear hK K
                          refine wpLate_bigK (some 152) w rfl (.int .i64 (k : Int)) rfl (by kernel_rfl) (fun wk hwk => ?_) (fun K hK => ?_)
                          · generalize hA : Act.eval _ = ρ
                            have s9 : ρ (.tmp 9) = .int .i64 (k : Int) := by rw [← hA]; kernel_rfl
                            clear hA
                            go_simp
                          go_big_quiet_op
                          refine hK _ ?_
                          clear hK K
                          refine wpLate_bigSpineK (some 153) w rfl rfl (by kernel_rfl) (fun u => True) (fun u wk => KT w6 w.heap.size (pw k) R G F r ts m'.b kv L' u (strOfNums (vw r.list r.seen r.me)) wk) (fun u wk => KT w6 w.heap.size (pw k) R G F r ts m'.b kv L' u (strOfNums (vw r.list r.seen r.me)) wk) (⟨.int .i64 0, trivial⟩) (fun _ _ h => h.q) (fun _ _ h => h) (fun wk hwk => ?_) (fun vv _ K hK => ?_)
                          · generalize hA : Act.eval _ = ρ
                            have s149 : ρ (.tmp 149) = kv := by rw [← hA]; kernel_rfl
                            have s151 : ρ (.tmp 151) = .int .i64 ((r.seen : Int)) := by rw [← hA]; kernel_rfl
                            have s152 : ρ (.tmp 152) = .int .i64 (k : Int) := by rw [← hA]; kernel_rfl
                            have sf : ρ (.func 18) = .func (.func 18) #[] #[] := by rw [← hA]; kernel_rfl
                            clear hA
                            go_simp
                            refine (view_tells hwk.kn (by have := HKO.out.small; omega) _ _).mono ?_
                            rintro e w7 ⟨u7, rfl, ht, hb⟩
                            rw [← HKN.out.1, HVW.out] at ht
                            exact ⟨_, rfl, hwk.after hb, ht⟩
                          go_big_quiet_op
                          refine hK _ ?_
                          clear hK K
                          refine wpLate_bigLateK (some 154) w rfl rfl (.string (strOfNums (vw r.list r.seen r.me))) rfl (by kernel_rfl) (fun wk hwk => ?_) (fun K hK => ?_)
                          · generalize hA : Act.eval _ = ρ
                            have s153 : ρ (.tmp 153) = vv := by rw [← hA]; kernel_rfl
                            clear hA
                            have ht := hwk.te _ (Below.refl _ _)
                            go_simp
                          go_big_quiet_op
                          refine hK _ ?_
                          clear hK K
                          refine wpLate_bigK (some 155) w rfl (.pointer (some ⟨pw k, 0, none⟩)) rfl (by kernel_rfl) (fun wk hwk => ?_) (fun K hK => ?_)
                          · generalize hA : Act.eval _ = ρ
                            have s10 : ρ (.tmp 10) = .pointer (some ⟨pw k, 0, none⟩) := by rw [← hA]; kernel_rfl
                            clear hA
                            go_simp
                          go_big_quiet_op
                          refine hK _ ?_
                          clear hK K
                          refine wpLate_bigSpineK (some 156) w rfl rfl (by kernel_rfl) (fun u => u = .string (strOfNums (vw r.list r.seen r.me))) (fun u wk => KT w6 w.heap.size (pw k) R G F r ts m'.b kv L' vv (strOfNums (vw r.list r.seen r.me)) wk) (fun u wk => KT w6 w.heap.size (pw k) R G F r ts m'.b kv L' vv (strOfNums (vw r.list r.seen r.me)) wk) (⟨_, rfl⟩) (fun _ _ h => h) (fun _ _ h => h) (fun wk hwk => ?_) (fun u9 hu9 K hK => ?_)
                          · generalize hA : Act.eval _ = ρ
                            have s155 : ρ (.tmp 155) = .pointer (some ⟨pw k, 0, none⟩) := by rw [← hA]; kernel_rfl
                            have sf : ρ (.func 19) = .func (.func 19) #[] #[] := by rw [← hA]; kernel_rfl
                            clear hA
                            go_simp
                            obtain ⟨S, lv, ov, tvs, hp⟩ := hwk.q.pw
                            refine (text_pw hp (by have := HO.out.len; omega)).mono ?_
                            rintro e w7 ⟨rfl, hb⟩
                            exact ⟨_, rfl, rfl, hwk.q.after hb, hwk.te.below hb⟩
                          subst hu9
                          go_big_quiet_op
                          refine hK _ ?_
                          clear hK K
                          refine wpLate_bigK (some 157) w rfl (.bool false) rfl (by kernel_rfl) (fun wk hwk => ?_) (fun K hK => ?_)
                          · generalize hA : Act.eval _ = ρ
                            have s154 : ρ (.tmp 154) = .string (strOfNums (vw r.list r.seen r.me)) := by rw [← hA]; kernel_rfl
                            have s156 : ρ (.tmp 156) = .string (strOfNums (vw r.list r.seen r.me)) := by rw [← hA]; kernel_rfl
                            clear hA
                            go_simp
                          go_big_quiet_op
                          refine hK _ ?_
                          clear hK K
                          refine wpLate_nil (fun wd hwd => ?_)
                          have HZ : Hid (KQ w6 w.heap.size (pw k) R G F r ts m'.b kv L' wd) := hwd.q
                          clear hwd HX
                          go_wp2_with fail
                          go_roundw
                          case rel => exact ⟨k + 1, by omega, by go_num, HQ6.out.after HZ.out.below⟩
                          case measure => simp [intOf]; omega
                    · refine wp_region_late (fun wk => KQ w6 w.heap.size (pw k) R G F r ts m'.b vk L wk) (fun i => i == 5 || i == 7 || i == 8 || i == 11 || i == 13 || i == 16 || i == 17 || i == 21 || i == 27 || i == 28 || i == 30 || i == 35 || i == 36 || i == 37) (fun i => false) (by kernel_rfl) (by kernel_rfl) (by kernel_rfl) (HC.out.after (Below.refl _ _).drew) ?_
                      refine wpLate_bigK (some 87) w rfl (.pointer (some ⟨F, 0, none⟩)) rfl (by kernel_rfl) (fun wk hwk => ?_) (fun K hK => ?_)
                      · generalize hA : Act.eval _ = ρ
                        have s16 : ρ (.tmp 16) = .pointer (some ⟨F, 0, none⟩) := by rw [← hA]; kernel_rfl
                        clear hA
                        go_simp
                      go_big_quiet_op
                      refine hK _ ?_
                      clear hK K
                      refine wpLate_bigK (some 88) w rfl (.int .i64 (0)) rfl (by kernel_rfl) (fun wk hwk => ?_) (fun K hK => ?_)
                      · generalize hA : Act.eval _ = ρ
                        have s87 : ρ (.tmp 87) = .pointer (some ⟨F, 0, none⟩) := by rw [← hA]; kernel_rfl
                        clear hA
                        have c0 := hwk.fc
                        go_simp
                      go_big_quiet_op
                      refine hK _ ?_
                      clear hK K
                      refine wpLate_bigK (some 89) w rfl (.bool false) rfl (by kernel_rfl) (fun wk hwk => ?_) (fun K hK => ?_)
                      · generalize hA : Act.eval _ = ρ
                        have s88 : ρ (.tmp 88) = .int .i64 (0) := by rw [← hA]; kernel_rfl
                        have k1 : ρ (.const (.int .i64 (0))) = .int .i64 (0) := by rw [← hA]; kernel_rfl
                        clear hA
                        go_simp
                      go_big_quiet_op
                      refine hK _ ?_
                      clear hK K
                      refine wpLate_bigK (some 90) w rfl (.bool false) rfl (by kernel_rfl) (fun wk hwk => ?_) (fun K hK => ?_)
                      · generalize hA : Act.eval _ = ρ
                        have s89 : ρ (.tmp 89) = .bool false := by rw [← hA]; kernel_rfl
                        clear hA
                        go_simp
                      go_big_quiet_op
                      refine hK _ ?_
                      clear hK K
                      refine wpLate_bigK (some 91) w rfl (vk) rfl (by kernel_rfl) (fun wk hwk => ?_) (fun K hK => ?_)
                      · generalize hA : Act.eval _ = ρ
                        have s15 : ρ (.tmp 15) = vk := by rw [← hA]; kernel_rfl
                        clear hA
                        go_simp
                      go_big_quiet_op
                      refine hK _ ?_
                      clear hK K
                      refine wpLate_bigSpineK (some 92) w rfl rfl (by kernel_rfl) (fun u => u = .string (strOfNums (textL L))) (fun u wk => KQ w6 w.heap.size (pw k) R G F r ts m'.b vk L wk) (fun u wk => KQ w6 w.heap.size (pw k) R G F r ts m'.b vk L wk) (⟨_, rfl⟩) (fun _ _ h => h) (fun _ _ h => h) (fun wk hwk => ?_) (fun u9 hu9 K hK => ?_)
                      · generalize hA : Act.eval _ = ρ
                        have s91 : ρ (.tmp 91) = vk := by rw [← hA]; kernel_rfl
                        have sf : ρ (.func 11) = .func (.func 11) #[] #[] := by rw [← hA]; kernel_rfl
                        clear hA
                        go_simp
                        refine (text_lst hwk.kn (by have := HK.out.small; omega)).mono ?_
                        rintro e w7 ⟨rfl, hb⟩
                        exact ⟨_, rfl, rfl, hwk.after hb⟩
                      subst hu9
                      go_big_quiet_op
                      refine hK _ ?_
                      clear hK K
                      refine wpLate_bigK (some 93) w rfl (.pointer (some ⟨pw k, 0, none⟩)) rfl (by kernel_rfl) (fun wk hwk => ?_) (fun K hK => ?_)
                      · generalize hA : Act.eval _ = ρ
                        have s10 : ρ (.tmp 10) = .pointer (some ⟨pw k, 0, none⟩) := by rw [← hA]; kernel_rfl
                        clear hA
                        go_simp
                      go_big_quiet_op
                      refine hK _ ?_
                      clear hK K
                      refine wpLate_bigSpineK (some 94) w rfl rfl (by kernel_rfl) (fun u => True) (fun u wk => KQ w6 w.heap.size (pw k) R G F r ts m'.b vk L wk) (fun u wk => KV w6 w.heap.size (pw k) R G F r ts m'.b vk L u (.slice none 0 0) (r.base) ([]) wk) (⟨.int .i64 0, trivial⟩) (fun _ _ h => h) (fun _ _ h => h.q) (fun wk hwk => ?_) (fun v3 _ K hK => ?_)
                      · generalize hA : Act.eval _ = ρ
                        have s93 : ρ (.tmp 93) = .pointer (some ⟨pw k, 0, none⟩) := by rw [← hA]; kernel_rfl
                        have sf : ρ (.func 12) = .func (.func 12) #[] #[] := by rw [← hA]; kernel_rfl
                        clear hA
                        go_simp
                        obtain ⟨S, lv, ov, tvs, hp⟩ := hwk.pw
                        refine (known_pw (me := k) (by rw [← HKN.out.1]; exact hp) (by have := HO.out.len; omega) (by omega) (by have := HO.out.few; omega) HO.out.took HKN.out.2.2).mono ?_
                        rintro e w7 ⟨v7, rfl, ho, hb⟩
                        rw [← HKN.out.1, HKN.out.2.1] at ho
                        exact ⟨_, rfl, hwk.after hb, ho.lst, lst_nil _⟩
                      go_big_quiet_op
                      refine hK _ ?_
                      clear hK K
                      refine wpLate_bigSpineK (some 95) w rfl rfl (by kernel_rfl) (fun u => u = .string (strOfNums (textL L))) (fun u wk => KQ w6 w.heap.size (pw k) R G F r ts m'.b vk L wk) (fun u wk => KQ w6 w.heap.size (pw k) R G F r ts m'.b vk L wk) (⟨_, rfl⟩) (fun _ _ h => h) (fun _ _ h => h) (fun wk hwk => ?_) (fun u9 hu9 K hK => ?_)
                      · generalize hA : Act.eval _ = ρ
                        have s94 : ρ (.tmp 94) = v3 := by rw [← hA]; kernel_rfl
                        have sf : ρ (.func 11) = .func (.func 11) #[] #[] := by rw [← hA]; kernel_rfl
                        clear hA
                        go_simp
                        refine (text_lst hwk.h1 (by have := HO.out.base; omega)).mono ?_
                        rintro e w7 ⟨rfl, hb⟩
                        rw [← HK.out.text]
                        exact ⟨_, rfl, rfl, hwk.q.after hb⟩
                      subst hu9
                      go_big_quiet_op
                      refine hK _ ?_
                      clear hK K
                      refine wpLate_bigK (some 96) w rfl (.bool false) rfl (by kernel_rfl) (fun wk hwk => ?_) (fun K hK => ?_)
                      · generalize hA : Act.eval _ = ρ
                        have s92 : ρ (.tmp 92) = .string (strOfNums (textL L)) := by rw [← hA]; kernel_rfl
                        have s95 : ρ (.tmp 95) = .string (strOfNums (textL L)) := by rw [← hA]; kernel_rfl
                        clear hA
                        go_simp
                      go_big_quiet_op
                      refine hK _ ?_
                      clear hK K
                      refine wpLate_bigK (some 97) w rfl (.bool false) rfl (by kernel_rfl) (fun wk hwk => ?_) (fun K hK => ?_)
                      · generalize hA : Act.eval _ = ρ
                        have s90 : ρ (.tmp 90) = .bool false := by rw [← hA]; kernel_rfl
                        have s96 : ρ (.tmp 96) = .bool false := by rw [← hA]; kernel_rfl
                        have k2 : ρ (.const (.bool true)) = .bool true := by rw [← hA]; kernel_rfl
                        clear hA
                        go_simp
                      go_big_quiet_op
                      refine hK _ ?_
                      clear hK K
                      refine wpLate_bigSpineK (some 98) w rfl rfl (by kernel_rfl) (fun u => u = .bool false) (fun u wk => KQ w6 w.heap.size (pw k) R G F r ts m'.b vk L wk) (fun u wk => KQ w6 w.heap.size (pw k) R G F r ts m'.b vk L wk) (⟨_, rfl⟩) (fun _ _ h => h) (fun _ _ h => h) (fun wk hwk => ?_) (fun u9 hu9 K hK => ?_)
                      · generalize hA : Act.eval _ = ρ
                        have s97 : ρ (.tmp 97) = .bool false := by rw [← hA]; kernel_rfl
                        clear hA
                        go_simp
                        exact ⟨rfl, hwk⟩
                      subst hu9
                      go_big_quiet_op
                      refine hK _ ?_
                      clear hK K
                      refine wpLate_bigK (some 99) w rfl (.bool true) rfl (by kernel_rfl) (fun wk hwk => ?_) (fun K hK => ?_)
                      · generalize hA : Act.eval _ = ρ
                        have s1 : ρ (.tmp 1) = .bool true := by rw [← hA]; kernel_rfl
                        clear hA
                        go_simp
                      go_big_quiet_op
                      refine hK _ ?_
                      clear hK K
                      refine wpLate_bigSpineK (some 100) w rfl rfl (by kernel_rfl) (fun u => u = .bool true) (fun u wk => KQ w6 w.heap.size (pw k) R G F r ts m'.b vk L wk) (fun u wk => KQ w6 w.heap.size (pw k) R G F r ts m'.b vk L wk) (⟨_, rfl⟩) (fun _ _ h => h) (fun _ _ h => h) (fun wk hwk => ?_) (fun u9 hu9 K hK => ?_)
                      · generalize hA : Act.eval _ = ρ
                        have s99 : ρ (.tmp 99) = .bool true := by rw [← hA]; kernel_rfl
                        clear hA
                        go_simp
                        exact ⟨rfl, hwk⟩
                      subst hu9
                      go_big_quiet_op
                      refine hK _ ?_
                      clear hK K
                      refine wpLate_bigK (some 101) w rfl (vk) rfl (by kernel_rfl) (fun wk hwk => ?_) (fun K hK => ?_)
                      · generalize hA : Act.eval _ = ρ
                        have s15 : ρ (.tmp 15) = vk := by rw [← hA]; kernel_rfl
                        clear hA
                        go_simp
                      go_big_quiet_op
                      refine hK _ ?_
                      clear hK K
                      refine wpLate_bigK (some 102) w rfl (.pointer (some ⟨pw k, 0, none⟩)) rfl (by kernel_rfl) (fun wk hwk => ?_) (fun K hK => ?_)
                      · generalize hA : Act.eval _ = ρ
                        have s10 : ρ (.tmp 10) = .pointer (some ⟨pw k, 0, none⟩) := by rw [← hA]; kernel_rfl
                        clear hA
                        go_simp
                      go_big_quiet_op
                      refine hK _ ?_
                      clear hK K
                      refine wpLate_bigSpineK (some 103) w rfl rfl (by kernel_rfl) (fun u => True) (fun u wk => KQ w6 w.heap.size (pw k) R G F r ts m'.b vk L wk) (fun u wk => KV w6 w.heap.size (pw k) R G F r ts m'.b vk L u (.slice none 0 0) (r.base) ([]) wk) (⟨.int .i64 0, trivial⟩) (fun _ _ h => h) (fun _ _ h => h.q) (fun wk hwk => ?_) (fun v4 _ K hK => ?_)
                      · generalize hA : Act.eval _ = ρ
                        have s102 : ρ (.tmp 102) = .pointer (some ⟨pw k, 0, none⟩) := by rw [← hA]; kernel_rfl
                        have sf : ρ (.func 12) = .func (.func 12) #[] #[] := by rw [← hA]; kernel_rfl
                        clear hA
                        go_simp
                        obtain ⟨S, lv, ov, tvs, hp⟩ := hwk.pw
                        refine (known_pw (me := k) (by rw [← HKN.out.1]; exact hp) (by have := HO.out.len; omega) (by omega) (by have := HO.out.few; omega) HO.out.took HKN.out.2.2).mono ?_
                        rintro e w7 ⟨v7, rfl, ho, hb⟩
                        rw [← HKN.out.1, HKN.out.2.1] at ho
                        exact ⟨_, rfl, hwk.after hb, ho.lst, lst_nil _⟩
                      go_big_quiet_op
                      refine hK _ ?_
                      clear hK K
                      refine wpLate_bigSpineK (some 104) w rfl rfl (by kernel_rfl) (fun u => u = .bool true) (fun u wk => KQ w6 w.heap.size (pw k) R G F r ts m'.b vk L wk) (fun u wk => KQ w6 w.heap.size (pw k) R G F r ts m'.b vk L wk) (⟨_, rfl⟩) (fun _ _ h => h) (fun _ _ h => h) (fun wk hwk => ?_) (fun u9 hu9 K hK => ?_)
                      · generalize hA : Act.eval _ = ρ
                        have s101 : ρ (.tmp 101) = vk := by rw [← hA]; kernel_rfl
                        have s103 : ρ (.tmp 103) = v4 := by rw [← hA]; kernel_rfl
                        have sf : ρ (.func 13) = .func (.func 13) #[] #[] := by rw [← hA]; kernel_rfl
                        clear hA
                        go_simp
                        refine (sameChars_lst hwk.q.kn hwk.h1 (by have := HK.out.small; omega) (by have := HO.out.base; omega)).mono ?_
                        rintro e w7 ⟨b7, rfl, hbe, hb⟩
                        obtain rfl := hbe.2 (HK.out.bare rfl)
                        exact ⟨_, rfl, rfl, hwk.q.after hb⟩
                      subst hu9
                      go_big_quiet_op
                      refine hK _ ?_
                      clear hK K
                      refine wpLate_bigK (some 105) w rfl (.bool false) rfl (by kernel_rfl) (fun wk hwk => ?_) (fun K hK => ?_)
                      · generalize hA : Act.eval _ = ρ
                        have s104 : ρ (.tmp 104) = .bool true := by rw [← hA]; kernel_rfl
                        clear hA
                        go_simp
                      go_big_quiet_op
                      refine hK _ ?_
                      clear hK K
                      refine wpLate_bigK (some 106) w rfl (.bool false) rfl (by kernel_rfl) (fun wk hwk => ?_) (fun K hK => ?_)
                      · generalize hA : Act.eval _ = ρ
                        have s100 : ρ (.tmp 100) = .bool true := by rw [← hA]; kernel_rfl
                        have s105 : ρ (.tmp 105) = .bool false := by rw [← hA]; kernel_rfl
                        have k2 : ρ (.const (.bool false)) = .bool false := by rw [← hA]; kernel_rfl
                        clear hA
                        go_simp
                      go_big_quiet_op
                      refine hK _ ?_
                      clear hK K
                      refine wpLate_bigK (some 107) w rfl (.bool false) rfl (by kernel_rfl) (fun wk hwk => ?_) (fun K hK => ?_)
                      · generalize hA : Act.eval _ = ρ
                        have s98 : ρ (.tmp 98) = .bool false := by rw [← hA]; kernel_rfl
                        have s106 : ρ (.tmp 106) = .bool false := by rw [← hA]; kernel_rfl
                        have k2 : ρ (.const (.bool true)) = .bool true := by rw [← hA]; kernel_rfl
                        clear hA
                        go_simp
                      go_big_quiet_op
                      refine hK _ ?_
                      clear hK K
                      refine wpLate_bigSpineK (some 108) w rfl rfl (by kernel_rfl) (fun u => u = .bool false) (fun u wk => KQ w6 w.heap.size (pw k) R G F r ts m'.b vk L wk) (fun u wk => KQ w6 w.heap.size (pw k) R G F r ts m'.b vk L wk) (⟨_, rfl⟩) (fun _ _ h => h) (fun _ _ h => h) (fun wk hwk => ?_) (fun u9 hu9 K hK => ?_)
                      · generalize hA : Act.eval _ = ρ
                        have s107 : ρ (.tmp 107) = .bool false := by rw [← hA]; kernel_rfl
                        clear hA
                        go_simp
                        exact ⟨rfl, hwk⟩
                      subst hu9
                      go_big_quiet_op
                      refine hK _ ?_
                      clear hK K
                      refine wpLate_bigK (some 109) w rfl (vk) rfl (by kernel_rfl) (fun wk hwk => ?_) (fun K hK => ?_)
                      · generalize hA : Act.eval _ = ρ
                        have s15 : ρ (.tmp 15) = vk := by rw [← hA]; kernel_rfl
                        clear hA
                        go_simp
                      go_big_quiet_op
                      refine hK _ ?_
                      clear hK K
                      refine wpLate_bigK (some 110) w rfl (.pointer (some ⟨R, 0, none⟩)) rfl (by kernel_rfl) (fun wk hwk => ?_) (fun K hK => ?_)
                      · generalize hA : Act.eval _ = ρ
                        have s5 : ρ (.tmp 5) = .pointer (some ⟨R, 0, none⟩) := by rw [← hA]; kernel_rfl
                        clear hA
                        go_simp
                      go_big_quiet_op
                      refine hK _ ?_
                      clear hK K
                      refine wpLate_bigK (some 111) w rfl (.pointer (some ⟨R, 0, none⟩)) rfl (by kernel_rfl) (fun wk hwk => ?_) (fun K hK => ?_)
                      · generalize hA : Act.eval _ = ρ
                        have s110 : ρ (.tmp 110) = .pointer (some ⟨R, 0, none⟩) := by rw [← hA]; kernel_rfl
                        clear hA
                        go_simp
                      go_big_quiet_op
                      refine hK _ ?_
                      clear hK K
                      refine wpLate_bigK (some 112) w rfl (.pointer (some ⟨R, 0, none⟩)) rfl (by kernel_rfl) (fun wk hwk => ?_) (fun K hK => ?_)
                      · generalize hA : Act.eval _ = ρ
                        have s111 : ρ (.tmp 111) = .pointer (some ⟨R, 0, none⟩) := by rw [← hA]; kernel_rfl
                        clear hA
                        go_simp
                      go_big_quiet_op
                      refine hK _ ?_
                      clear hK K
                      refine wpLate_bigK (some 113) w rfl (.pointer (some ⟨G, 0, none⟩)) rfl (by kernel_rfl) (fun wk hwk => ?_) (fun K hK => ?_)
                      · generalize hA : Act.eval _ = ρ
                        have s112 : ρ (.tmp 112) = .pointer (some ⟨R, 0, none⟩) := by rw [← hA]; kernel_rfl
                        clear hA
                        have g0 := hwk.rg
                        go_simp
                      go_big_quiet_op
                      refine hK _ ?_
                      clear hK K
                      refine wpLate_bigSpineK (some 114) w rfl rfl (by kernel_rfl) (fun u => u = .int .i64 (leastL m'.b)) (fun u wk => KQ w6 w.heap.size (pw k) R G F r ts m'.b vk L wk) (fun u wk => KQ w6 w.heap.size (pw k) R G F r ts m'.b vk L wk) (⟨_, rfl⟩) (fun _ _ h => h) (fun _ _ h => h) (fun wk hwk => ?_) (fun u9 hu9 K hK => ?_)
                      · generalize hA : Act.eval _ = ρ
                        have s113 : ρ (.tmp 113) = .pointer (some ⟨G, 0, none⟩) := by rw [← hA]; kernel_rfl
                        have sf : ρ (.func 15) = .func (.func 15) #[] #[] := by rw [← hA]; kernel_rfl
                        clear hA
                        go_simp
                        obtain ⟨S, dv, lv, hl⟩ := hwk.log
                        refine (least_lg hl HGD.out).mono ?_
                        rintro e w7 ⟨rfl, hb⟩
                        exact ⟨_, rfl, rfl, hwk.after hb⟩
                      subst hu9
                      go_big_quiet_op
                      refine hK _ ?_
                      clear hK K
                      refine wpLate_bigSpineK (some 115) w rfl rfl (by kernel_rfl) (fun u => True) (fun u wk => KQ w6 w.heap.size (pw k) R G F r ts m'.b vk L wk) (fun u wk => KV w6 w.heap.size (pw k) R G F r ts m'.b vk L u (.slice none 0 0) (ofL (leastL m'.b) L) ([]) wk) (⟨.int .i64 0, trivial⟩) (fun _ _ h => h) (fun _ _ h => h.q) (fun wk hwk => ?_) (fun v5 _ K hK => ?_)
                      · generalize hA : Act.eval _ = ρ
                        have s109 : ρ (.tmp 109) = vk := by rw [← hA]; kernel_rfl
                        have s114 : ρ (.tmp 114) = .int .i64 (leastL m'.b) := by rw [← hA]; kernel_rfl
                        have sf : ρ (.func 14) = .func (.func 14) #[] #[] := by rw [← hA]; kernel_rfl
                        clear hA
                        go_simp
                        refine (of_lst _ hwk.kn (by have := HK.out.small; omega)).mono ?_
                        rintro e w7 ⟨v7, rfl, ho, hb⟩
                        exact ⟨_, rfl, hwk.after hb, ho.lst, lst_nil _⟩
                      go_big_quiet_op
                      refine hK _ ?_
                      clear hK K
                      refine wpLate_bigK (some 116) w rfl (.pointer (some ⟨pw k, 0, none⟩)) rfl (by kernel_rfl) (fun wk hwk => ?_) (fun K hK => ?_)
                      · generalize hA : Act.eval _ = ρ
                        have s10 : ρ (.tmp 10) = .pointer (some ⟨pw k, 0, none⟩) := by rw [← hA]; kernel_rfl
                        clear hA
                        go_simp
                      go_big_quiet_op
                      refine hK _ ?_
                      clear hK K
                      refine wpLate_bigSpineK (some 117) w rfl rfl (by kernel_rfl) (fun u => True) (fun u wk => KQ w6 w.heap.size (pw k) R G F r ts m'.b vk L wk) (fun u wk => KV w6 w.heap.size (pw k) R G F r ts m'.b vk L v5 u (ofL (leastL m'.b) L) (r.base) wk) (⟨.int .i64 0, trivial⟩) (fun _ _ h => h) (fun _ _ h => h.q) (fun wk hwk => ?_) (fun v6 _ K hK => ?_)
                      · generalize hA : Act.eval _ = ρ
                        have s116 : ρ (.tmp 116) = .pointer (some ⟨pw k, 0, none⟩) := by rw [← hA]; kernel_rfl
                        have sf : ρ (.func 12) = .func (.func 12) #[] #[] := by rw [← hA]; kernel_rfl
                        clear hA
                        go_simp
                        obtain ⟨S, lv, ov, tvs, hp⟩ := hwk.q.pw
                        refine (known_pw (me := k) (by rw [← HKN.out.1]; exact hp) (by have := HO.out.len; omega) (by omega) (by have := HO.out.few; omega) HO.out.took HKN.out.2.2).mono ?_
                        rintro e w7 ⟨v7, rfl, ho, hb⟩
                        rw [← HKN.out.1, HKN.out.2.1] at ho
                        exact ⟨_, rfl, hwk.q.after hb, hwk.h1.below hb, ho.lst⟩
                      go_big_quiet_op
                      refine hK _ ?_
                      clear hK K
                      refine wpLate_bigK (some 118) w rfl (.pointer (some ⟨R, 0, none⟩)) rfl (by kernel_rfl) (fun wk hwk => ?_) (fun K hK => ?_)
                      · generalize hA : Act.eval _ = ρ
                        have s5 : ρ (.tmp 5) = .pointer (some ⟨R, 0, none⟩) := by rw [← hA]; kernel_rfl
                        clear hA
                        go_simp
                      go_big_quiet_op
                      refine hK _ ?_
                      clear hK K
                      refine wpLate_bigK (some 119) w rfl (.pointer (some ⟨R, 0, none⟩)) rfl (by kernel_rfl) (fun wk hwk => ?_) (fun K hK => ?_)
                      · generalize hA : Act.eval _ = ρ
                        have s118 : ρ (.tmp 118) = .pointer (some ⟨R, 0, none⟩) := by rw [← hA]; kernel_rfl
                        clear hA
                        go_simp
                      go_big_quiet_op
                      refine hK _ ?_
                      clear hK K
                      refine wpLate_bigK (some 120) w rfl (.pointer (some ⟨R, 0, none⟩)) rfl (by kernel_rfl) (fun wk hwk => ?_) (fun K hK => ?_)
                      · generalize hA : Act.eval _ = ρ
                        have s119 : ρ (.tmp 119) = .pointer (some ⟨R, 0, none⟩) := by rw [← hA]; kernel_rfl
                        clear hA
                        go_simp
                      go_big_quiet_op
                      refine hK _ ?_
                      clear hK K
                      refine wpLate_bigK (some 121) w rfl (.pointer (some ⟨G, 0, none⟩)) rfl (by kernel_rfl) (fun wk hwk => ?_) (fun K hK => ?_)
                      · generalize hA : Act.eval _ = ρ
                        have s120 : ρ (.tmp 120) = .pointer (some ⟨R, 0, none⟩) := by rw [← hA]; kernel_rfl
                        clear hA
                        have g0 := hwk.rg
                        go_simp
                      go_big_quiet_op
                      refine hK _ ?_
                      clear hK K
                      refine wpLate_bigSpineK (some 122) w rfl rfl (by kernel_rfl) (fun u => u = .int .i64 (leastL m'.b)) (fun u wk => KQ w6 w.heap.size (pw k) R G F r ts m'.b vk L wk) (fun u wk => KV w6 w.heap.size (pw k) R G F r ts m'.b vk L v5 v6 (ofL (leastL m'.b) L) (r.base) wk) (⟨_, rfl⟩) (fun _ _ h => h) (fun _ _ h => h.q) (fun wk hwk => ?_) (fun u9 hu9 K hK => ?_)
                      · generalize hA : Act.eval _ = ρ
                        have s121 : ρ (.tmp 121) = .pointer (some ⟨G, 0, none⟩) := by rw [← hA]; kernel_rfl
                        have sf : ρ (.func 15) = .func (.func 15) #[] #[] := by rw [← hA]; kernel_rfl
                        clear hA
                        go_simp
                        obtain ⟨S, dv, lv, hl⟩ := hwk.q.log
                        refine (least_lg hl HGD.out).mono ?_
                        rintro e w7 ⟨rfl, hb⟩
                        exact ⟨_, rfl, rfl, hwk.q.after hb, hwk.h1.below hb, hwk.h2.below hb⟩
                      subst hu9
                      go_big_quiet_op
                      refine hK _ ?_
                      clear hK K
                      refine wpLate_bigSpineK (some 123) w rfl rfl (by kernel_rfl) (fun u => True) (fun u wk => KQ w6 w.heap.size (pw k) R G F r ts m'.b vk L wk) (fun u wk => KV w6 w.heap.size (pw k) R G F r ts m'.b vk L v5 u (ofL (leastL m'.b) L) (ofL (leastL m'.b) r.base) wk) (⟨.int .i64 0, trivial⟩) (fun _ _ h => h) (fun _ _ h => h.q) (fun wk hwk => ?_) (fun v7 _ K hK => ?_)
                      · generalize hA : Act.eval _ = ρ
                        have s117 : ρ (.tmp 117) = v6 := by rw [← hA]; kernel_rfl
                        have s122 : ρ (.tmp 122) = .int .i64 (leastL m'.b) := by rw [← hA]; kernel_rfl
                        have sf : ρ (.func 14) = .func (.func 14) #[] #[] := by rw [← hA]; kernel_rfl
                        clear hA
                        go_simp
                        refine (of_lst _ hwk.h2 (by have := HO.out.base; omega)).mono ?_
                        rintro e w7 ⟨v7, rfl, ho, hb⟩
                        exact ⟨_, rfl, hwk.q.after hb, hwk.h1.below hb, ho.lst⟩
                      go_big_quiet_op
                      refine hK _ ?_
                      clear hK K
                      refine wpLate_bigSpineK (some 124) w rfl rfl (by kernel_rfl) (fun u => u = .bool true) (fun u wk => KQ w6 w.heap.size (pw k) R G F r ts m'.b vk L wk) (fun u wk => KQ w6 w.heap.size (pw k) R G F r ts m'.b vk L wk) (⟨_, rfl⟩) (fun _ _ h => h) (fun _ _ h => h) (fun wk hwk => ?_) (fun u9 hu9 K hK => ?_)
                      · generalize hA : Act.eval _ = ρ
                        have s115 : ρ (.tmp 115) = v5 := by rw [← hA]; kernel_rfl
                        have s123 : ρ (.tmp 123) = v7 := by rw [← hA]; kernel_rfl
                        have sf : ρ (.func 13) = .func (.func 13) #[] #[] := by rw [← hA]; kernel_rfl
                        clear hA
                        go_simp
                        refine (sameChars_lst hwk.h1 hwk.h2 (by have := HK.out.small; have := ofL_le (leastL m'.b) L; omega) (by have := HO.out.base; have := ofL_le (leastL m'.b) r.base; omega)).mono ?_
                        rintro e w7 ⟨b7, rfl, hbe, hb⟩
                        obtain rfl := hbe.2 HK.out.of_
                        exact ⟨_, rfl, rfl, hwk.q.after hb⟩
                      subst hu9
                      go_big_quiet_op
                      refine hK _ ?_
                      clear hK K
                      refine wpLate_bigK (some 125) w rfl (.bool false) rfl (by kernel_rfl) (fun wk hwk => ?_) (fun K hK => ?_)
                      · generalize hA : Act.eval _ = ρ
                        have s124 : ρ (.tmp 124) = .bool true := by rw [← hA]; kernel_rfl
                        clear hA
                        go_simp
                      go_big_quiet_op
                      refine hK _ ?_
                      clear hK K
                      refine wpLate_bigK (some 126) w rfl (.bool false) rfl (by kernel_rfl) (fun wk hwk => ?_) (fun K hK => ?_)
                      · generalize hA : Act.eval _ = ρ
                        have s108 : ρ (.tmp 108) = .bool false := by rw [← hA]; kernel_rfl
                        have s125 : ρ (.tmp 125) = .bool false := by rw [← hA]; kernel_rfl
                        have k2 : ρ (.const (.bool true)) = .bool true := by rw [← hA]; kernel_rfl
                        clear hA
                        go_simp
                      go_big_quiet_op
                      refine hK _ ?_
                      clear hK K
                      refine wpLate_nil (fun w9 hw9 => ?_)
                      have H9 : Hid (KQ w6 w.heap.size (pw k) R G F r ts m'.b vk L w9) := hw9
                      clear hw9 HC
                      go_wp2_with fail
                      obtain ⟨Sp, lv, ov, tvs, hp⟩ := H9.out.pw
                      refine (open_pw hp (by have := HO.out.few; omega)).mono ?_
                      rintro e wa ⟨va, rfl, hoa, hba⟩
                      obtain ⟨oa, oc, hva⟩ := OwnD.len hoa
                      subst hva
                      have HA : Hid (KL w6 w.heap.size (pw k) R G F r ts m'.b vk L w9.heap.size (.slice oa r.opens.length oc) wa) := ⟨H9.out.after hba, hoa⟩
                      clear hp hoa hba H9
                      go_wp2_with fail
                      go_loopw [15, 18] (fun kv i wq => ∃ (n : Nat) (L' : List Ch), n ≤ r.opens.length ∧ i = .int .i64 n ∧ Hid (KO r L L' n) ∧ Hid (KL w6 w.heap.size (pw k) R G F r ts m'.b kv L' w9.heap.size (.slice oa r.opens.length oc) wq)) (fun _ i _ => r.opens.length - (intOf i).toNat)
                      case atStart => exact ⟨0, L, Nat.zero_le _, rfl, ko_start HK.out, HA⟩
                      case round =>
                        obtain ⟨n, L', hn, rfl, HKO, HX⟩ := hrel
                        have hfew := HO.out.few
                        by_cases hlt4 : n < r.opens.length
                        · have HCO : Hid (doC L' r.opens[n] openN = 0 ∨ doC L' r.opens[n] openN = 9) := ko_code HK.out hlt4 HKO.out
                          have HST : Hid (doC L' r.opens[n] openN = 0 → KO r L (doR L' r.opens[n] openN) (n + 1)) := fun e => ko_step HK.out hlt4 HKO.out e
                          obtain ⟨ob, oc', he, hdd⟩ := OwnD.nth HX.out.op hlt4
                          simp only [Value.slice.injEq] at he
                          obtain ⟨rfl, -, rfl⟩ := he
                          generalize r.opens[n] = d at *
                          obtain ⟨_, b0, b1, b2, b3, b4, b5, b6⟩ := hdd
                          generalize u15 = kv at *
                          go_wp2_with fail
                          refine (do_any L' d openN kv wr HX.out.q.kn (by have := HKO.out.small; omega) HKO.out.fits).mono ?_
                          rintro e wb ⟨vb, rfl, hob, hbb⟩
                          have HY : Hid (KL w6 w.heap.size (pw k) R G F r ts m'.b kv L' w9.heap.size (.slice (some ⟨ob, 0, none⟩) r.opens.length oc) wb) := HX.out.after hbb
                          have HLB : Hid (Lst wb vb (doR L' d openN)) := hob.lst
                          clear hob hbb HX b0 b1 b2 b3 b4 b5 b6
                          rcases HCO.out with hc | hc
                          · rw [hc]
                            have HST' : Hid (KO r L (doR L' d openN) (n + 1)) := HST.out hc
                            clear hc HCO HST
                            go_wp2_with fail
                            go_roundw
                            case rel => exact ⟨n + 1, _, by omega, by go_num, HST', ⟨HY.out.q.list HLB.out, HY.out.op⟩⟩
                            case measure => simp [intOf]; omega
                          · rw [hc]
                            clear hc HCO HST
                            go_wp2_with fail
                            go_ret
                            exact ⟨rfl, HQ6.out.below.trans (HY.out.q.below.mono HQ6.out.below.size)⟩
                        · obtain rfl : n = r.opens.length := by omega
                          have HVW : Hid (vw L' r.seen r.me = vw r.list r.seen r.me) := ko_end HK.out (Nat.le_refl _) HKO.out
                          generalize u15 = kv at *
                          go_wp2_with fail
                          refine wp_region_late (fun wk => KQ w6 w.heap.size (pw k) R G F r ts m'.b kv L' wk) (fun i => i == 2 || i == 4 || i == 7) (fun i => i == 5) (by kernel_rfl) (by kernel_rfl) (by kernel_rfl) (HX.out.q.after (Below.refl _ _).drew) ?_
                          refine wpLate_bigK (some 149) w rfl (kv) rfl (by kernel_rfl) (fun wk hwk => ?_) (fun K hK => ?_)
                          · generalize hA : Act.eval _ = ρ
                            have s15 : ρ (.tmp 15) = kv := by rw [← hA]; kernel_rfl
                            clear hA
                            go_simp
                          go_big_quiet_op
                          refine hK _ ?_
                          clear hK K
                          refine wpLate_bigK (some 150) w rfl (.pointer (some ⟨pw k, 0, none⟩)) rfl (by kernel_rfl) (fun wk hwk => ?_) (fun K hK => ?_)
                          · generalize hA : Act.eval _ = ρ
                            have s10 : ρ (.tmp 10) = .pointer (some ⟨pw k, 0, none⟩) := by rw [← hA]; kernel_rfl
                            clear hA
                            go_simp
                          go_big_quiet_op
                          refine hK _ ?_
                          clear hK K
                          refine wpLate_bigSpineK (some 151) w rfl rfl (by kernel_rfl) (fun u => u = .int .i64 ((r.seen : Int))) (fun u wk => KQ w6 w.heap.size (pw k) R G F r ts m'.b kv L' wk) (fun u wk => KQ w6 w.heap.size (pw k) R G F r ts m'.b kv L' wk) (⟨_, rfl⟩) (fun _ _ h => h) (fun _ _ h => h) (fun wk hwk => ?_) (fun u9 hu9 K hK => ?_)
                          · generalize hA : Act.eval _ = ρ
                            have s150 : ρ (.tmp 150) = .pointer (some ⟨pw k, 0, none⟩) := by rw [← hA]; kernel_rfl
                            have sf : ρ (.func 8) = .func (.func 8) #[] #[] := by rw [← hA]; kernel_rfl
                            clear hA
                            go_simp
                            obtain ⟨S, lv, ov, tvs, hp⟩ := hwk.pw
                            refine (seen_pw hp).mono ?_
                            rintro e w7 ⟨rfl, rfl⟩
                            exact ⟨_, rfl, rfl, hwk⟩
                          subst hu9
                          go_big_quiet_op
                          refine hK _ ?_
                          clear hK K
                          refine wpLate_bigK (some 152) w rfl (.int .i64 (k : Int)) rfl (by kernel_rfl) (fun wk hwk => ?_) (fun K hK => ?_)
                          · generalize hA : Act.eval _ = ρ
                            have s9 : ρ (.tmp 9) = .int .i64 (k : Int) := by rw [← hA]; kernel_rfl
                            clear hA
                            go_simp
                          go_big_quiet_op
                          refine hK _ ?_
                          clear hK K
                          refine wpLate_bigSpineK (some 153) w rfl rfl (by kernel_rfl) (fun u => True) (fun u wk => KT w6 w.heap.size (pw k) R G F r ts m'.b kv L' u (strOfNums (vw r.list r.seen r.me)) wk) (fun u wk => KT w6 w.heap.size (pw k) R G F r ts m'.b kv L' u (strOfNums (vw r.list r.seen r.me)) wk) (⟨.int .i64 0, trivial⟩) (fun _ _ h => h.q) (fun _ _ h => h) (fun wk hwk => ?_) (fun vv _ K hK => ?_)
                          · generalize hA : Act.eval _ = ρ
                            have s149 : ρ (.tmp 149) = kv := by rw [← hA]; kernel_rfl
                            have s151 : ρ (.tmp 151) = .int .i64 ((r.seen : Int)) := by rw [← hA]; kernel_rfl
                            have s152 : ρ (.tmp 152) = .int .i64 (k : Int) := by rw [← hA]; kernel_rfl
                            have sf : ρ (.func 18) = .func (.func 18) #[] #[] := by rw [← hA]; kernel_rfl
                            clear hA
                            go_simp
                            refine (view_tells hwk.kn (by have := HKO.out.small; omega) _ _).mono ?_
                            rintro e w7 ⟨u7, rfl, ht, hb⟩
                            rw [← HKN.out.1, HVW.out] at ht
                            exact ⟨_, rfl, hwk.after hb, ht⟩
                          go_big_quiet_op
                          refine hK _ ?_
                          clear hK K
                          refine wpLate_bigLateK (some 154) w rfl rfl (.string (strOfNums (vw r.list r.seen r.me))) rfl (by kernel_rfl) (fun wk hwk => ?_) (fun K hK => ?_)
                          · generalize hA : Act.eval _ = ρ
                            have s153 : ρ (.tmp 153) = vv := by rw [← hA]; kernel_rfl
                            clear hA
                            have ht := hwk.te _ (Below.refl _ _)
                            go_simp
                          go_big_quiet_op
                          refine hK _ ?_
                          clear hK K
                          refine wpLate_bigK (some 155) w rfl (.pointer (some ⟨pw k, 0, none⟩)) rfl (by kernel_rfl) (fun wk hwk => ?_) (fun K hK => ?_)
                          · generalize hA : Act.eval _ = ρ
                            have s10 : ρ (.tmp 10) = .pointer (some ⟨pw k, 0, none⟩) := by rw [← hA]; kernel_rfl
                            clear hA
                            go_simp
                          go_big_quiet_op
                          refine hK _ ?_
                          clear hK K
                          refine wpLate_bigSpineK (some 156) w rfl rfl (by kernel_rfl) (fun u => u = .string (strOfNums (vw r.list r.seen r.me))) (fun u wk => KT w6 w.heap.size (pw k) R G F r ts m'.b kv L' vv (strOfNums (vw r.list r.seen r.me)) wk) (fun u wk => KT w6 w.heap.size (pw k) R G F r ts m'.b kv L' vv (strOfNums (vw r.list r.seen r.me)) wk) (⟨_, rfl⟩) (fun _ _ h => h) (fun _ _ h => h) (fun wk hwk => ?_) (fun u9 hu9 K hK => ?_)
                          · generalize hA : Act.eval _ = ρ
                            have s155 : ρ (.tmp 155) = .pointer (some ⟨pw k, 0, none⟩) := by rw [← hA]; kernel_rfl
                            have sf : ρ (.func 19) = .func (.func 19) #[] #[] := by rw [← hA]; kernel_rfl
                            clear hA
                            go_simp
                            obtain ⟨S, lv, ov, tvs, hp⟩ := hwk.q.pw
                            refine (text_pw hp (by have := HO.out.len; omega)).mono ?_
                            rintro e w7 ⟨rfl, hb⟩
                            exact ⟨_, rfl, rfl, hwk.q.after hb, hwk.te.below hb⟩
                          subst hu9
                          go_big_quiet_op
                          refine hK _ ?_
                          clear hK K
                          refine wpLate_bigK (some 157) w rfl (.bool false) rfl (by kernel_rfl) (fun wk hwk => ?_) (fun K hK => ?_)
                          · generalize hA : Act.eval _ = ρ
                            have s154 : ρ (.tmp 154) = .string (strOfNums (vw r.list r.seen r.me)) := by rw [← hA]; kernel_rfl
                            have s156 : ρ (.tmp 156) = .string (strOfNums (vw r.list r.seen r.me)) := by rw [← hA]; kernel_rfl
                            clear hA
                            go_simp
                          go_big_quiet_op
                          refine hK _ ?_
                          clear hK K
                          refine wpLate_nil (fun wd hwd => ?_)
                          have HZ : Hid (KQ w6 w.heap.size (pw k) R G F r ts m'.b kv L' wd) := hwd.q
                          clear hwd HX
                          go_wp2_with fail
                          go_roundw
                          case rel => exact ⟨k + 1, by omega, by go_num, HQ6.out.after HZ.out.below⟩
                          case measure => simp [intOf]; omega
            · go_wp2
              go_roundw
              case rel => exact ⟨j + 1, m', by omega, by go_num, HQ⟩
              case measure => simp [intOf]; omega
        · go_wp2
          go_ret
          exact ⟨rfl, HBL.out⟩
      · go_wp2
        go_ret
        exact ⟨rfl, HR.out.below⟩
  · go_wp2
    go_ret
    exact ⟨rfl, HB1.out⟩

/-- THE LAW. -/
theorem law_writerknows (w : World) {v : Value} {xs : List RStep} (h : RLst w v xs) (bare : Bool) :
    Calls Tryz.prog 3 #[v, .bool bare] w fun e w' => e = .returned (.bool true) ∧ Below w.heap.size w w' := writerKnows_any v xs bare w h

end Go.Proofs.YtdlmlhmdjfbdiacGreat
