/-
  The law WriterDoes: each writer tells what the document says.
-/
import Derived.Test.YtdlmlhmdjfbdiabGreatWRun
import Derived.Test.YtdlmlhmdjfbdiabGreatWKnown
namespace Go.Proofs.YtdlmlhmdjfbdiabGreat
open Go Go.RowKit

/-- A writer and the same by the document, as they lie. -/
structure CKw (w : World) (base P Q : Nat) (S S2 : Nat → Prop) (lv ov : Value) (tvs : List Value) (bv ov2 : Value) (r : Wr) (ts : List (List Ch)) (wk : World) : Prop where
  pw : PwAt wk base S P lv ov tvs r.list r.opens ts r.me r.next r.seen r.sent
  sc : ScAt wk base S2 Q bv ov2 r.base r.opens r.me r.seen r.next r.sent
  below : Below w.heap.size w wk

theorem CKw.after {w wk w' : World} {base P Q : Nat} {S S2 : Nat → Prop} {lv ov : Value} {tvs : List Value} {bv ov2 : Value} {r : Wr} {ts : List (List Ch)} (h : CKw w base P Q S S2 lv ov tvs bv ov2 r ts wk) (hb : Below wk.heap.size wk w')   : CKw w base P Q S S2 lv ov tvs bv ov2 r ts w' := ⟨h.pw.below hb, h.sc.below hb, below_after h.below hb⟩

/-- Besides, values that lie there. -/
structure CVw (w : World) (base P Q : Nat) (S S2 : Nat → Prop) (lv ov : Value) (tvs : List Value) (bv ov2 : Value) (r : Wr) (ts : List (List Ch)) (v1 v2 : Value) (l1 l2 : List Ch) (wk : World) : Prop where
  ck   : CKw w base P Q S S2 lv ov tvs bv ov2 r ts wk
  h1 : Lst wk v1 l1
  h2 : Lst wk v2 l2
structure CDw (w : World) (base P Q : Nat) (S S2 : Nat → Prop) (lv ov : Value) (tvs : List Value) (bv ov2 : Value) (r : Wr) (ts : List (List Ch)) (v1 : Value) (wk : World) : Prop where
  ck   : CKw w base P Q S S2 lv ov tvs bv ov2 r ts wk
  h1 : DLst wk v1 r.opens

set_option maxRecDepth 20000 in
set_option maxHeartbeats 6400000 in
theorem writerDoes_any (v : Value) (xs : List RStep) (w : World) (h : RLst w v xs) :
    Calls Tryz.prog 3 #[v] w fun e w' => e = .returned (.bool true) ∧ Below w.heap.size w w' := by
  have HD : Hid (RLst w v xs) := h
  obtain ⟨a, cap, rfl⟩ := h.len
  clear h
  go_enter Tryz.func3, Tryz.ntmps3
  go_wp2_with fail
  refine (wbegun_any _).mono ?_
  rintro e w1 ⟨rfl, hb1⟩
  have HB1 : Hid (Below w.heap.size w w1) := hb1
  clear hb1
  go_wp2_with fail
  refine (greatR_any _ xs _ (HD.out.below HB1.out)).mono ?_
  rintro e w2 ⟨gr, rfl, hgr, rfl⟩
  cases gr
  · have hl := hgr rfl
    clear hgr
    go_wp2_with fail
    refine (newRoom_any _).mono ?_
    rintro e w3 ⟨rfl, rfl⟩
    have HR0 : Hid (RR w (w2.heap.size + 1) w2.heap.size false rm0 ((w2.alloc (.cells logZ 91)).alloc (.cells (roomZ w2.heap.size false) 37))) := rr_start HB1.out false
    clear HB1
    go_wp2
    generalize World.alloc _ _ = w4 at *
    generalize w2.heap.size + 1 = R at *
    generalize w2.heap.size = G at *
    go_loopw [4] (fun i wr => ∃ (j : Nat) (m : Rm), j ≤ xs.length ∧ i = .int .i64 j ∧ Hid (RR w R G false m wr)) (fun i _ => xs.length - (intOf i).toNat)
    case atStart => exact ⟨0, rm0, Nat.zero_le _, rfl, HR0⟩
    case round =>
      obtain ⟨j, m, hj, rfl, HR⟩ := hrel
      clear HR0
      by_cases hlt : j < xs.length
      · have hkl : j < xs.length := hlt
        obtain ⟨bb, off, rfl, hr⟩ := (HD.out.below HR.out.below).row (by omega)
        obtain ⟨_, c0, c1, c2, c3, c4⟩ := hr.at_ j hkl
        generalize xs[j] = x at *
        obtain ⟨do_, w_, at_, many, text⟩ := x
        simp only at c0 c1 c2 c3 c4
        clear hr
        go_wp2_with fail
        refine (HR.out.step ⟨do_, w_, at_, many, text⟩).mono ?_
        rintro e w5 ⟨rfl, hst, hbl⟩
        have HBL : Hid (Below w.heap.size w w5) := hbl
        clear hbl
        generalize overRm m ⟨do_, w_, at_, many, text⟩ = over at *
        have HB5 : Hid (over = false → ∃ m', RR w R G false m' w5) := fun e => ⟨_, hst e⟩
        cases over
        · obtain ⟨m', hm'⟩ := HB5.out rfl
          have HR5 : Hid (RR w R G false m' w5) := hm'
          clear hm' HB5 hst c0 c1 c2 c3 c4 HR
          go_wp2_with fail
          go_loopw [7] (fun i wr => ∃ k : Nat, k ≤ 4 ∧ i = .int .i64 k ∧ Hid (RR w R G false m' wr)) (fun i _ => 4 - (intOf i).toNat)
          case atStart => exact ⟨0, by omega, rfl, HR5⟩
          case round =>
            obtain ⟨k, hk4, rfl, HQ⟩ := hrel
            clear HR5
            by_cases hk : k < 4
            · obtain ⟨pw, sc, hrm⟩ := HQ.out.room
              have hki : (k : Int) < 4 := by omega
              have g1 := hrm.cells.wr k hk
              have g2 := hrm.cells.sc k hk
              cases hp : m'.p k with
              | none =>
                have hps : (m'.p k).isSome = false := by rw [hp]; rfl
                simp only [hps, ptrOf, Bool.false_eq_true, if_false] at g1
                obtain ⟨sv, hsv⟩ : ∃ sv, ptrOf (m'.s k).isSome (sc k) = sv := ⟨_, rfl⟩
                rw [hsv] at g2
                clear hrm hp hps hsv
                go_wp2_with fail
                go_quiet (fail)
                go_wp2
                go_roundw
                case rel => exact ⟨k + 1, by omega, by go_num, HQ.out.after (below_drewN (Below.refl _ _) _)⟩
                case measure => simp [intOf]; omega
              | some q =>
                obtain ⟨r, ts⟩ := q
                have HP : Hid (m'.p k = some (r, ts)) := hp
                have HS : Hid (m'.s k = some r) := by show m'.s k = _; rw [HQ.out.inv.both k hk, hp]; rfl
                have hps : (m'.p k).isSome = true := by rw [hp]; rfl
                have hss : (m'.s k).isSome = true := by rw [HS.out]; rfl
                simp only [hps, hss, ptrOf, if_true] at g1 g2
                have HO : Hid (WOk r ts) := rmi_wok HQ.out.inv hk hp
                have HKN : Hid (r.me = (k : Int) ∧ knownL r.me ts r.list = r.base ∧ ∀ x ∈ r.list, 0 ≤ x.gone ∧ x.gone ≤ 15) := by
                  obtain ⟨q1, q2, c, q3, _⟩ := HQ.out.inv.some k hk r ts hp
                  exact ⟨q1, q2.known q3 HQ.out.inv.good, fun x hx => (q3.tame HQ.out.inv.good x hx).2⟩
                have HRM : Hid (Room w.heap.size R G pw sc false (fun _ => False) m' wr) := hrm
                clear hrm hp hps hss
                go_wp2_with fail
                go_quiet (fail)
                have HQ6 : Hid (RR w R G false m' (wr.drewN nq)) := HQ.out.after (below_drewN (Below.refl _ _) _)
                have HRM6 : Hid (Room w.heap.size R G pw sc false (fun _ => False) m' (wr.drewN nq)) := HRM.out.after (below_drewN (Below.refl _ _) _)
                go_wp2_with fail
                generalize wr.drewN nq = w6 at *
                clear g1 g2 HRM HQ
                obtain ⟨S, lv, ov, tvs, hpw, _⟩ := HRM6.out.wr hk HP.out
                obtain ⟨S2, bv, ov2, hsc, _⟩ := HRM6.out.scr hk HS.out
                have HC : Hid (CKw w6 w.heap.size (pw k) (sc k) S S2 lv ov tvs bv ov2 r ts w6) := ⟨hpw, hsc, Below.refl _ _⟩
                clear hpw hsc
                refine wp_region_late (fun wk => CKw w6 w.heap.size (pw k) (sc k) S S2 lv ov tvs bv ov2 r ts wk) (fun i => i == 1 || i == 7 || i == 9 || i == 11 || i == 14 || i == 16 || i == 21 || i == 24 || i == 26 || i == 28 || i == 31 || i == 33 || i == 35 || i == 36 || i == 39 || i == 41 || i == 46) (fun _ => false) (by kernel_rfl) (by kernel_rfl) (by kernel_rfl) (HC.out.after (Below.refl _ _).drew) ?_
                refine wpLate_big (some 51) w rfl (.pointer (some ⟨pw k, 0, none⟩)) rfl (by kernel_rfl) (fun wk hwk => ?_) ?_
                · generalize hA : Act.eval _ = ρ
                  have s8 : ρ (.tmp 8) = .pointer (some ⟨pw k, 0, none⟩) := by rw [← hA]; kernel_rfl
                  clear hA
                  go_simp
                go_big_quiet_op
                refine wpLate_bigSpine (some 52) w rfl rfl (by kernel_rfl) (fun u => u = .int .i64 ((r.seen : Int))) (fun u wk => CKw w6 w.heap.size (pw k) (sc k) S S2 lv ov tvs bv ov2 r ts wk) (fun u wk => CKw w6 w.heap.size (pw k) (sc k) S S2 lv ov tvs bv ov2 r ts wk) (⟨_, rfl⟩) (fun _ _ h => h) (fun _ _ h => h) (fun wk hwk => ?_) (fun u9 hu9 => ?_)
                · generalize hA : Act.eval _ = ρ
                  have s51 : ρ (.tmp 51) = .pointer (some ⟨pw k, 0, none⟩) := by rw [← hA]; kernel_rfl
                  have sf : ρ (.func 8) = .func (.func 8) #[] #[] := by rw [← hA]; kernel_rfl
                  clear hA
                  go_simp
                  refine (seen_pw hwk.pw).mono ?_
                  rintro e w7 ⟨rfl, rfl⟩
                  exact ⟨_, rfl, rfl, hwk⟩
                subst hu9
                go_big_quiet_op
                refine wpLate_big (some 53) w rfl (.pointer (some ⟨sc k, 0, none⟩)) rfl (by kernel_rfl) (fun wk hwk => ?_) ?_
                · generalize hA : Act.eval _ = ρ
                  have s9 : ρ (.tmp 9) = .pointer (some ⟨sc k, 0, none⟩) := by rw [← hA]; kernel_rfl
                  clear hA
                  go_simp
                go_big_quiet_op
                refine wpLate_big (some 54) w rfl (.pointer (some ⟨sc k, 0, none⟩)) rfl (by kernel_rfl) (fun wk hwk => ?_) ?_
                · generalize hA : Act.eval _ = ρ
                  have s53 : ρ (.tmp 53) = .pointer (some ⟨sc k, 0, none⟩) := by rw [← hA]; kernel_rfl
                  clear hA
                  go_simp
                go_big_quiet_op
                refine wpLate_big (some 55) w rfl (.pointer (some ⟨sc k, 1, none⟩)) rfl (by kernel_rfl) (fun wk hwk => ?_) ?_
                · generalize hA : Act.eval _ = ρ
                  have s54 : ρ (.tmp 54) = .pointer (some ⟨sc k, 0, none⟩) := by rw [← hA]; kernel_rfl
                  clear hA
                  go_simp
                go_big_quiet_op
                refine wpLate_big (some 56) w rfl (.int .i64 ((r.seen : Int))) rfl (by kernel_rfl) (fun wk hwk => ?_) ?_
                · generalize hA : Act.eval _ = ρ
                  have s55 : ρ (.tmp 55) = .pointer (some ⟨sc k, 1, none⟩) := by rw [← hA]; kernel_rfl
                  clear hA
                  have c1 := hwk.sc.cells.seen
                  go_simp
                go_big_quiet_op
                refine wpLate_big (some 57) w rfl (.bool false) rfl (by kernel_rfl) (fun wk hwk => ?_) ?_
                · generalize hA : Act.eval _ = ρ
                  have s52 : ρ (.tmp 52) = .int .i64 ((r.seen : Int)) := by rw [← hA]; kernel_rfl
                  have s56 : ρ (.tmp 56) = .int .i64 ((r.seen : Int)) := by rw [← hA]; kernel_rfl
                  clear hA
                  go_simp
                go_big_quiet_op
                refine wpLate_bigSpine (some 58) w rfl rfl (by kernel_rfl) (fun u => u = .bool false) (fun u wk => CKw w6 w.heap.size (pw k) (sc k) S S2 lv ov tvs bv ov2 r ts wk) (fun u wk => CKw w6 w.heap.size (pw k) (sc k) S S2 lv ov tvs bv ov2 r ts wk) (⟨_, rfl⟩) (fun _ _ h => h) (fun _ _ h => h) (fun wk hwk => ?_) (fun u9 hu9 => ?_)
                · generalize hA : Act.eval _ = ρ
                  have s57 : ρ (.tmp 57) = .bool false := by rw [← hA]; kernel_rfl
                  clear hA
                  go_simp
                  exact ⟨rfl, hwk⟩
                subst hu9
                go_big_quiet_op
                refine wpLate_big (some 59) w rfl (.pointer (some ⟨pw k, 0, none⟩)) rfl (by kernel_rfl) (fun wk hwk => ?_) ?_
                · generalize hA : Act.eval _ = ρ
                  have s8 : ρ (.tmp 8) = .pointer (some ⟨pw k, 0, none⟩) := by rw [← hA]; kernel_rfl
                  clear hA
                  go_simp
                go_big_quiet_op
                refine wpLate_bigSpine (some 60) w rfl rfl (by kernel_rfl) (fun u => u = .int .i64 (leastW r.opens r.sent r.seen)) (fun u wk => CKw w6 w.heap.size (pw k) (sc k) S S2 lv ov tvs bv ov2 r ts wk) (fun u wk => CKw w6 w.heap.size (pw k) (sc k) S S2 lv ov tvs bv ov2 r ts wk) (⟨_, rfl⟩) (fun _ _ h => h) (fun _ _ h => h) (fun wk hwk => ?_) (fun u9 hu9 => ?_)
                · generalize hA : Act.eval _ = ρ
                  have s59 : ρ (.tmp 59) = .pointer (some ⟨pw k, 0, none⟩) := by rw [← hA]; kernel_rfl
                  have sf : ρ (.func 9) = .func (.func 9) #[] #[] := by rw [← hA]; kernel_rfl
                  clear hA
                  go_simp
                  refine (least_pw hwk.pw).mono ?_
                  rintro e w7 ⟨rfl, hb⟩
                  exact ⟨_, rfl, rfl, hwk.after hb⟩
                subst hu9
                go_big_quiet_op
                refine wpLate_big (some 61) w rfl (.pointer (some ⟨sc k, 0, none⟩)) rfl (by kernel_rfl) (fun wk hwk => ?_) ?_
                · generalize hA : Act.eval _ = ρ
                  have s9 : ρ (.tmp 9) = .pointer (some ⟨sc k, 0, none⟩) := by rw [← hA]; kernel_rfl
                  clear hA
                  go_simp
                go_big_quiet_op
                refine wpLate_bigSpine (some 62) w rfl rfl (by kernel_rfl) (fun u => u = .int .i64 (leastW r.opens r.sent r.seen)) (fun u wk => CKw w6 w.heap.size (pw k) (sc k) S S2 lv ov tvs bv ov2 r ts wk) (fun u wk => CKw w6 w.heap.size (pw k) (sc k) S S2 lv ov tvs bv ov2 r ts wk) (⟨_, rfl⟩) (fun _ _ h => h) (fun _ _ h => h) (fun wk hwk => ?_) (fun u9 hu9 => ?_)
                · generalize hA : Act.eval _ = ρ
                  have s61 : ρ (.tmp 61) = .pointer (some ⟨sc k, 0, none⟩) := by rw [← hA]; kernel_rfl
                  have sf : ρ (.func 10) = .func (.func 10) #[] #[] := by rw [← hA]; kernel_rfl
                  clear hA
                  go_simp
                  refine (least_sc hwk.sc).mono ?_
                  rintro e w7 ⟨rfl, hb⟩
                  exact ⟨_, rfl, rfl, hwk.after hb⟩
                subst hu9
                go_big_quiet_op
                refine wpLate_big (some 63) w rfl (.bool false) rfl (by kernel_rfl) (fun wk hwk => ?_) ?_
                · generalize hA : Act.eval _ = ρ
                  have s60 : ρ (.tmp 60) = .int .i64 (leastW r.opens r.sent r.seen) := by rw [← hA]; kernel_rfl
                  have s62 : ρ (.tmp 62) = .int .i64 (leastW r.opens r.sent r.seen) := by rw [← hA]; kernel_rfl
                  clear hA
                  go_simp
                go_big_quiet_op
                refine wpLate_big (some 64) w rfl (.bool false) rfl (by kernel_rfl) (fun wk hwk => ?_) ?_
                · generalize hA : Act.eval _ = ρ
                  have s58 : ρ (.tmp 58) = .bool false := by rw [← hA]; kernel_rfl
                  have s63 : ρ (.tmp 63) = .bool false := by rw [← hA]; kernel_rfl
                  have k2 : ρ (.const (.bool true)) = .bool true := by rw [← hA]; kernel_rfl
                  clear hA
                  go_simp
                go_big_quiet_op
                refine wpLate_bigSpine (some 65) w rfl rfl (by kernel_rfl) (fun u => u = .bool false) (fun u wk => CKw w6 w.heap.size (pw k) (sc k) S S2 lv ov tvs bv ov2 r ts wk) (fun u wk => CKw w6 w.heap.size (pw k) (sc k) S S2 lv ov tvs bv ov2 r ts wk) (⟨_, rfl⟩) (fun _ _ h => h) (fun _ _ h => h) (fun wk hwk => ?_) (fun u9 hu9 => ?_)
                · generalize hA : Act.eval _ = ρ
                  have s64 : ρ (.tmp 64) = .bool false := by rw [← hA]; kernel_rfl
                  clear hA
                  go_simp
                  exact ⟨rfl, hwk⟩
                subst hu9
                go_big_quiet_op
                refine wpLate_big (some 66) w rfl (.pointer (some ⟨pw k, 0, none⟩)) rfl (by kernel_rfl) (fun wk hwk => ?_) ?_
                · generalize hA : Act.eval _ = ρ
                  have s8 : ρ (.tmp 8) = .pointer (some ⟨pw k, 0, none⟩) := by rw [← hA]; kernel_rfl
                  clear hA
                  go_simp
                go_big_quiet_op
                refine wpLate_bigSpine (some 67) w rfl rfl (by kernel_rfl) (fun u => True) (fun u wk => CKw w6 w.heap.size (pw k) (sc k) S S2 lv ov tvs bv ov2 r ts wk) (fun u wk => CDw w6 w.heap.size (pw k) (sc k) S S2 lv ov tvs bv ov2 r ts u wk) (⟨.int .i64 0, trivial⟩) (fun _ _ h => h) (fun _ _ h => h.ck) (fun wk hwk => ?_) (fun vd _ => ?_)
                · generalize hA : Act.eval _ = ρ
                  have s66 : ρ (.tmp 66) = .pointer (some ⟨pw k, 0, none⟩) := by rw [← hA]; kernel_rfl
                  have sf : ρ (.func 12) = .func (.func 12) #[] #[] := by rw [← hA]; kernel_rfl
                  clear hA
                  go_simp
                  refine (open_pw hwk.pw (by have := HO.out.few; omega)).mono ?_
                  rintro e w7 ⟨v7, rfl, ho, hb⟩
                  exact ⟨_, rfl, hwk.after hb, ho.dlst⟩
                go_big_quiet_op
                refine wpLate_big (some 68) w rfl (.pointer (some ⟨sc k, 0, none⟩)) rfl (by kernel_rfl) (fun wk hwk => ?_) ?_
                · generalize hA : Act.eval _ = ρ
                  have s9 : ρ (.tmp 9) = .pointer (some ⟨sc k, 0, none⟩) := by rw [← hA]; kernel_rfl
                  clear hA
                  go_simp
                go_big_quiet_op
                refine wpLate_big (some 69) w rfl (.pointer (some ⟨sc k, 0, none⟩)) rfl (by kernel_rfl) (fun wk hwk => ?_) ?_
                · generalize hA : Act.eval _ = ρ
                  have s68 : ρ (.tmp 68) = .pointer (some ⟨sc k, 0, none⟩) := by rw [← hA]; kernel_rfl
                  clear hA
                  go_simp
                go_big_quiet_op
                refine wpLate_big (some 70) w rfl (.pointer (some ⟨sc k, 4, none⟩)) rfl (by kernel_rfl) (fun wk hwk => ?_) ?_
                · generalize hA : Act.eval _ = ρ
                  have s69 : ρ (.tmp 69) = .pointer (some ⟨sc k, 0, none⟩) := by rw [← hA]; kernel_rfl
                  clear hA
                  go_simp
                go_big_quiet_op
                refine wpLate_big (some 71) w rfl (ov2) rfl (by kernel_rfl) (fun wk hwk => ?_) ?_
                · generalize hA : Act.eval _ = ρ
                  have s70 : ρ (.tmp 70) = .pointer (some ⟨sc k, 4, none⟩) := by rw [← hA]; kernel_rfl
                  clear hA
                  have c1 := hwk.sc.cells.opens
                  go_simp
                go_big_quiet_op
                refine wpLate_bigSpine (some 72) w rfl rfl (by kernel_rfl) (fun u => u = .bool true) (fun u wk => CKw w6 w.heap.size (pw k) (sc k) S S2 lv ov tvs bv ov2 r ts wk) (fun u wk => CKw w6 w.heap.size (pw k) (sc k) S S2 lv ov tvs bv ov2 r ts wk) (⟨_, rfl⟩) (fun _ _ h => h) (fun _ _ h => h) (fun wk hwk => ?_) (fun u9 hu9 => ?_)
                · generalize hA : Act.eval _ = ρ
                  have s67 : ρ (.tmp 67) = vd := by rw [← hA]; kernel_rfl
                  have s71 : ρ (.tmp 71) = ov2 := by rw [← hA]; kernel_rfl
                  have sf : ρ (.func 11) = .func (.func 11) #[] #[] := by rw [← hA]; kernel_rfl
                  clear hA
                  go_simp
                  refine (sameDeeds_eq hwk.h1 hwk.ck.sc.ownO.dlst (by have := HO.out.few; omega)).mono ?_
                  rintro e w7 ⟨rfl, hb⟩
                  exact ⟨_, rfl, rfl, hwk.ck.after hb⟩
                subst hu9
                go_big_quiet_op
                refine wpLate_big (some 73) w rfl (.bool false) rfl (by kernel_rfl) (fun wk hwk => ?_) ?_
                · generalize hA : Act.eval _ = ρ
                  have s72 : ρ (.tmp 72) = .bool true := by rw [← hA]; kernel_rfl
                  clear hA
                  go_simp
                go_big_quiet_op
                refine wpLate_big (some 74) w rfl (.bool false) rfl (by kernel_rfl) (fun wk hwk => ?_) ?_
                · generalize hA : Act.eval _ = ρ
                  have s65 : ρ (.tmp 65) = .bool false := by rw [← hA]; kernel_rfl
                  have s73 : ρ (.tmp 73) = .bool false := by rw [← hA]; kernel_rfl
                  have k2 : ρ (.const (.bool true)) = .bool true := by rw [← hA]; kernel_rfl
                  clear hA
                  go_simp
                go_big_quiet_op
                refine wpLate_bigSpine (some 75) w rfl rfl (by kernel_rfl) (fun u => u = .bool false) (fun u wk => CKw w6 w.heap.size (pw k) (sc k) S S2 lv ov tvs bv ov2 r ts wk) (fun u wk => CKw w6 w.heap.size (pw k) (sc k) S S2 lv ov tvs bv ov2 r ts wk) (⟨_, rfl⟩) (fun _ _ h => h) (fun _ _ h => h) (fun wk hwk => ?_) (fun u9 hu9 => ?_)
                · generalize hA : Act.eval _ = ρ
                  have s74 : ρ (.tmp 74) = .bool false := by rw [← hA]; kernel_rfl
                  clear hA
                  go_simp
                  exact ⟨rfl, hwk⟩
                subst hu9
                go_big_quiet_op
                refine wpLate_big (some 76) w rfl (.pointer (some ⟨pw k, 0, none⟩)) rfl (by kernel_rfl) (fun wk hwk => ?_) ?_
                · generalize hA : Act.eval _ = ρ
                  have s8 : ρ (.tmp 8) = .pointer (some ⟨pw k, 0, none⟩) := by rw [← hA]; kernel_rfl
                  clear hA
                  go_simp
                go_big_quiet_op
                refine wpLate_bigSpine (some 77) w rfl rfl (by kernel_rfl) (fun u => u = .string (strOfNums (vw r.list r.seen r.me))) (fun u wk => CKw w6 w.heap.size (pw k) (sc k) S S2 lv ov tvs bv ov2 r ts wk) (fun u wk => CKw w6 w.heap.size (pw k) (sc k) S S2 lv ov tvs bv ov2 r ts wk) (⟨_, rfl⟩) (fun _ _ h => h) (fun _ _ h => h) (fun wk hwk => ?_) (fun u9 hu9 => ?_)
                · generalize hA : Act.eval _ = ρ
                  have s76 : ρ (.tmp 76) = .pointer (some ⟨pw k, 0, none⟩) := by rw [← hA]; kernel_rfl
                  have sf : ρ (.func 13) = .func (.func 13) #[] #[] := by rw [← hA]; kernel_rfl
                  clear hA
                  go_simp
                  refine (text_pw hwk.pw (by have := HO.out.len; omega)).mono ?_
                  rintro e w7 ⟨rfl, hb⟩
                  exact ⟨_, rfl, rfl, hwk.after hb⟩
                subst hu9
                go_big_quiet_op
                refine wpLate_big (some 78) w rfl (.pointer (some ⟨sc k, 0, none⟩)) rfl (by kernel_rfl) (fun wk hwk => ?_) ?_
                · generalize hA : Act.eval _ = ρ
                  have s9 : ρ (.tmp 9) = .pointer (some ⟨sc k, 0, none⟩) := by rw [← hA]; kernel_rfl
                  clear hA
                  go_simp
                go_big_quiet_op
                refine wpLate_bigSpine (some 79) w rfl rfl (by kernel_rfl) (fun u => u = .string (strOfNums (vw r.list r.seen r.me))) (fun u wk => CKw w6 w.heap.size (pw k) (sc k) S S2 lv ov tvs bv ov2 r ts wk) (fun u wk => CKw w6 w.heap.size (pw k) (sc k) S S2 lv ov tvs bv ov2 r ts wk) (⟨_, rfl⟩) (fun _ _ h => h) (fun _ _ h => h) (fun wk hwk => ?_) (fun u9 hu9 => ?_)
                · generalize hA : Act.eval _ = ρ
                  have s78 : ρ (.tmp 78) = .pointer (some ⟨sc k, 0, none⟩) := by rw [← hA]; kernel_rfl
                  have sf : ρ (.func 14) = .func (.func 14) #[] #[] := by rw [← hA]; kernel_rfl
                  clear hA
                  go_simp
                  refine (text_sc hwk.sc (by have := HO.out.few; omega) HO.out.top).mono ?_
                  rintro e w7 ⟨rfl, hb⟩
                  exact ⟨_, rfl, rfl, hwk.after hb⟩
                subst hu9
                go_big_quiet_op
                refine wpLate_big (some 80) w rfl (.bool false) rfl (by kernel_rfl) (fun wk hwk => ?_) ?_
                · generalize hA : Act.eval _ = ρ
                  have s77 : ρ (.tmp 77) = .string (strOfNums (vw r.list r.seen r.me)) := by rw [← hA]; kernel_rfl
                  have s79 : ρ (.tmp 79) = .string (strOfNums (vw r.list r.seen r.me)) := by rw [← hA]; kernel_rfl
                  clear hA
                  go_simp
                go_big_quiet_op
                refine wpLate_big (some 81) w rfl (.bool false) rfl (by kernel_rfl) (fun wk hwk => ?_) ?_
                · generalize hA : Act.eval _ = ρ
                  have s75 : ρ (.tmp 75) = .bool false := by rw [← hA]; kernel_rfl
                  have s80 : ρ (.tmp 80) = .bool false := by rw [← hA]; kernel_rfl
                  have k2 : ρ (.const (.bool true)) = .bool true := by rw [← hA]; kernel_rfl
                  clear hA
                  go_simp
                go_big_quiet_op
                refine wpLate_bigSpine (some 82) w rfl rfl (by kernel_rfl) (fun u => u = .bool false) (fun u wk => CKw w6 w.heap.size (pw k) (sc k) S S2 lv ov tvs bv ov2 r ts wk) (fun u wk => CKw w6 w.heap.size (pw k) (sc k) S S2 lv ov tvs bv ov2 r ts wk) (⟨_, rfl⟩) (fun _ _ h => h) (fun _ _ h => h) (fun wk hwk => ?_) (fun u9 hu9 => ?_)
                · generalize hA : Act.eval _ = ρ
                  have s81 : ρ (.tmp 81) = .bool false := by rw [← hA]; kernel_rfl
                  clear hA
                  go_simp
                  exact ⟨rfl, hwk⟩
                subst hu9
                go_big_quiet_op
                refine wpLate_big (some 83) w rfl (.pointer (some ⟨pw k, 0, none⟩)) rfl (by kernel_rfl) (fun wk hwk => ?_) ?_
                · generalize hA : Act.eval _ = ρ
                  have s8 : ρ (.tmp 8) = .pointer (some ⟨pw k, 0, none⟩) := by rw [← hA]; kernel_rfl
                  clear hA
                  go_simp
                go_big_quiet_op
                refine wpLate_bigSpine (some 84) w rfl rfl (by kernel_rfl) (fun u => True) (fun u wk => CKw w6 w.heap.size (pw k) (sc k) S S2 lv ov tvs bv ov2 r ts wk) (fun u wk => CVw w6 w.heap.size (pw k) (sc k) S S2 lv ov tvs bv ov2 r ts u (.slice none 0 0) (r.list) ([]) wk) (⟨.int .i64 0, trivial⟩) (fun _ _ h => h) (fun _ _ h => h.ck) (fun wk hwk => ?_) (fun v1 _ => ?_)
                · generalize hA : Act.eval _ = ρ
                  have s83 : ρ (.tmp 83) = .pointer (some ⟨pw k, 0, none⟩) := by rw [← hA]; kernel_rfl
                  have sf : ρ (.func 16) = .func (.func 16) #[] #[] := by rw [← hA]; kernel_rfl
                  clear hA
                  go_simp
                  refine (chars_pw hwk.pw (by have := HO.out.len; omega)).mono ?_
                  rintro e w7 ⟨v7, rfl, ho, hb⟩
                  exact ⟨_, rfl, hwk.after hb, ho.lst, lst_nil _⟩
                go_big_quiet_op
                refine wpLate_big (some 85) w rfl (.pointer (some ⟨sc k, 0, none⟩)) rfl (by kernel_rfl) (fun wk hwk => ?_) ?_
                · generalize hA : Act.eval _ = ρ
                  have s9 : ρ (.tmp 9) = .pointer (some ⟨sc k, 0, none⟩) := by rw [← hA]; kernel_rfl
                  clear hA
                  go_simp
                go_big_quiet_op
                refine wpLate_bigSpine (some 86) w rfl rfl (by kernel_rfl) (fun u => True) (fun u wk => CKw w6 w.heap.size (pw k) (sc k) S S2 lv ov tvs bv ov2 r ts wk) (fun u wk => CVw w6 w.heap.size (pw k) (sc k) S S2 lv ov tvs bv ov2 r ts v1 u (r.list) (r.list) wk) (⟨.int .i64 0, trivial⟩) (fun _ _ h => h) (fun _ _ h => h.ck) (fun wk hwk => ?_) (fun v2 _ => ?_)
                · generalize hA : Act.eval _ = ρ
                  have s85 : ρ (.tmp 85) = .pointer (some ⟨sc k, 0, none⟩) := by rw [← hA]; kernel_rfl
                  have sf : ρ (.func 17) = .func (.func 17) #[] #[] := by rw [← hA]; kernel_rfl
                  clear hA
                  go_simp
                  refine (chars_sc hwk.ck.sc (by have := HO.out.few; omega) HO.out.top).mono ?_
                  rintro e w7 ⟨v7, rfl, ho, hb⟩
                  exact ⟨_, rfl, hwk.ck.after hb, hwk.h1.below hb, ho⟩
                go_big_quiet_op
                refine wpLate_bigSpine (some 87) w rfl rfl (by kernel_rfl) (fun u => u = .bool true) (fun u wk => CKw w6 w.heap.size (pw k) (sc k) S S2 lv ov tvs bv ov2 r ts wk) (fun u wk => CKw w6 w.heap.size (pw k) (sc k) S S2 lv ov tvs bv ov2 r ts wk) (⟨_, rfl⟩) (fun _ _ h => h) (fun _ _ h => h) (fun wk hwk => ?_) (fun u9 hu9 => ?_)
                · generalize hA : Act.eval _ = ρ
                  have s84 : ρ (.tmp 84) = v1 := by rw [← hA]; kernel_rfl
                  have s86 : ρ (.tmp 86) = v2 := by rw [← hA]; kernel_rfl
                  have sf : ρ (.func 15) = .func (.func 15) #[] #[] := by rw [← hA]; kernel_rfl
                  clear hA
                  go_simp
                  refine (sameChars_lst hwk.h1 hwk.h2 (by have := HO.out.len; omega) (by have := HO.out.len; omega)).mono ?_
                  rintro e w7 ⟨b7, rfl, hbe, hb⟩
                  obtain rfl := hbe.2 rfl
                  exact ⟨_, rfl, rfl, hwk.ck.after hb⟩
                subst hu9
                go_big_quiet_op
                refine wpLate_big (some 88) w rfl (.bool false) rfl (by kernel_rfl) (fun wk hwk => ?_) ?_
                · generalize hA : Act.eval _ = ρ
                  have s87 : ρ (.tmp 87) = .bool true := by rw [← hA]; kernel_rfl
                  clear hA
                  go_simp
                go_big_quiet_op
                refine wpLate_big (some 89) w rfl (.bool false) rfl (by kernel_rfl) (fun wk hwk => ?_) ?_
                · generalize hA : Act.eval _ = ρ
                  have s82 : ρ (.tmp 82) = .bool false := by rw [← hA]; kernel_rfl
                  have s88 : ρ (.tmp 88) = .bool false := by rw [← hA]; kernel_rfl
                  have k2 : ρ (.const (.bool true)) = .bool true := by rw [← hA]; kernel_rfl
                  clear hA
                  go_simp
                go_big_quiet_op
                refine wpLate_bigSpine (some 90) w rfl rfl (by kernel_rfl) (fun u => u = .bool false) (fun u wk => CKw w6 w.heap.size (pw k) (sc k) S S2 lv ov tvs bv ov2 r ts wk) (fun u wk => CKw w6 w.heap.size (pw k) (sc k) S S2 lv ov tvs bv ov2 r ts wk) (⟨_, rfl⟩) (fun _ _ h => h) (fun _ _ h => h) (fun wk hwk => ?_) (fun u9 hu9 => ?_)
                · generalize hA : Act.eval _ = ρ
                  have s89 : ρ (.tmp 89) = .bool false := by rw [← hA]; kernel_rfl
                  clear hA
                  go_simp
                  exact ⟨rfl, hwk⟩
                subst hu9
                go_big_quiet_op
                refine wpLate_big (some 91) w rfl (.pointer (some ⟨pw k, 0, none⟩)) rfl (by kernel_rfl) (fun wk hwk => ?_) ?_
                · generalize hA : Act.eval _ = ρ
                  have s8 : ρ (.tmp 8) = .pointer (some ⟨pw k, 0, none⟩) := by rw [← hA]; kernel_rfl
                  clear hA
                  go_simp
                go_big_quiet_op
                refine wpLate_bigSpine (some 92) w rfl rfl (by kernel_rfl) (fun u => True) (fun u wk => CKw w6 w.heap.size (pw k) (sc k) S S2 lv ov tvs bv ov2 r ts wk) (fun u wk => CVw w6 w.heap.size (pw k) (sc k) S S2 lv ov tvs bv ov2 r ts u (.slice none 0 0) (r.base) ([]) wk) (⟨.int .i64 0, trivial⟩) (fun _ _ h => h) (fun _ _ h => h.ck) (fun wk hwk => ?_) (fun v3 _ => ?_)
                · generalize hA : Act.eval _ = ρ
                  have s91 : ρ (.tmp 91) = .pointer (some ⟨pw k, 0, none⟩) := by rw [← hA]; kernel_rfl
                  have sf : ρ (.func 18) = .func (.func 18) #[] #[] := by rw [← hA]; kernel_rfl
                  clear hA
                  go_simp
                  refine (known_pw (me := k) (by rw [← HKN.out.1]; exact hwk.pw) (by have := HO.out.len; omega) (by omega) (by have := HO.out.few; omega) HO.out.took HKN.out.2.2).mono ?_
                  rintro e w7 ⟨v7, rfl, ho, hb⟩
                  rw [← HKN.out.1, HKN.out.2.1] at ho
                  exact ⟨_, rfl, hwk.after hb, ho.lst, lst_nil _⟩
                go_big_quiet_op
                refine wpLate_big (some 93) w rfl (.pointer (some ⟨sc k, 0, none⟩)) rfl (by kernel_rfl) (fun wk hwk => ?_) ?_
                · generalize hA : Act.eval _ = ρ
                  have s9 : ρ (.tmp 9) = .pointer (some ⟨sc k, 0, none⟩) := by rw [← hA]; kernel_rfl
                  clear hA
                  go_simp
                go_big_quiet_op
                refine wpLate_big (some 94) w rfl (.pointer (some ⟨sc k, 0, none⟩)) rfl (by kernel_rfl) (fun wk hwk => ?_) ?_
                · generalize hA : Act.eval _ = ρ
                  have s93 : ρ (.tmp 93) = .pointer (some ⟨sc k, 0, none⟩) := by rw [← hA]; kernel_rfl
                  clear hA
                  go_simp
                go_big_quiet_op
                refine wpLate_big (some 95) w rfl (.pointer (some ⟨sc k, 3, none⟩)) rfl (by kernel_rfl) (fun wk hwk => ?_) ?_
                · generalize hA : Act.eval _ = ρ
                  have s94 : ρ (.tmp 94) = .pointer (some ⟨sc k, 0, none⟩) := by rw [← hA]; kernel_rfl
                  clear hA
                  go_simp
                go_big_quiet_op
                refine wpLate_big (some 96) w rfl (bv) rfl (by kernel_rfl) (fun wk hwk => ?_) ?_
                · generalize hA : Act.eval _ = ρ
                  have s95 : ρ (.tmp 95) = .pointer (some ⟨sc k, 3, none⟩) := by rw [← hA]; kernel_rfl
                  clear hA
                  have c1 := hwk.sc.cells.base
                  go_simp
                go_big_quiet_op
                refine wpLate_bigSpine (some 97) w rfl rfl (by kernel_rfl) (fun u => u = .bool true) (fun u wk => CKw w6 w.heap.size (pw k) (sc k) S S2 lv ov tvs bv ov2 r ts wk) (fun u wk => CKw w6 w.heap.size (pw k) (sc k) S S2 lv ov tvs bv ov2 r ts wk) (⟨_, rfl⟩) (fun _ _ h => h) (fun _ _ h => h) (fun wk hwk => ?_) (fun u9 hu9 => ?_)
                · generalize hA : Act.eval _ = ρ
                  have s92 : ρ (.tmp 92) = v3 := by rw [← hA]; kernel_rfl
                  have s96 : ρ (.tmp 96) = bv := by rw [← hA]; kernel_rfl
                  have sf : ρ (.func 15) = .func (.func 15) #[] #[] := by rw [← hA]; kernel_rfl
                  clear hA
                  go_simp
                  refine (sameChars_lst hwk.h1 hwk.ck.sc.ownB.lst (by have := HO.out.base; omega) (by have := HO.out.base; omega)).mono ?_
                  rintro e w7 ⟨b7, rfl, hbe, hb⟩
                  obtain rfl := hbe.2 rfl
                  exact ⟨_, rfl, rfl, hwk.ck.after hb⟩
                subst hu9
                go_big_quiet_op
                refine wpLate_big (some 98) w rfl (.bool false) rfl (by kernel_rfl) (fun wk hwk => ?_) ?_
                · generalize hA : Act.eval _ = ρ
                  have s97 : ρ (.tmp 97) = .bool true := by rw [← hA]; kernel_rfl
                  clear hA
                  go_simp
                go_big_quiet_op
                refine wpLate_big (some 99) w rfl (.bool false) rfl (by kernel_rfl) (fun wk hwk => ?_) ?_
                · generalize hA : Act.eval _ = ρ
                  have s90 : ρ (.tmp 90) = .bool false := by rw [← hA]; kernel_rfl
                  have s98 : ρ (.tmp 98) = .bool false := by rw [← hA]; kernel_rfl
                  have k2 : ρ (.const (.bool true)) = .bool true := by rw [← hA]; kernel_rfl
                  clear hA
                  go_simp
                go_big_quiet_op
                refine wpLate_nil (fun w9 hw9 => ?_)
                have H9 : Hid (CKw w6 w.heap.size (pw k) (sc k) S S2 lv ov tvs bv ov2 r ts w9) := hw9
                clear hw9
                go_wp2
                go_roundw
                case rel => exact ⟨k + 1, by omega, by go_num, HQ6.out.after H9.out.below⟩
                case measure => simp [intOf]; omega
            · go_wp2
              go_roundw
              case rel => exact ⟨j + 1, m', by omega, by go_num, HQ⟩
              case measure => simp [intOf]; omega
        · go_wp2
          go_ret
          exact ⟨rfl, HBL.out⟩
      · go_wp2
        go_ret
        exact ⟨rfl, HR.out.below⟩
  · go_wp2
    go_ret
    exact ⟨rfl, HB1.out⟩

/-- THE LAW. -/
theorem law_writerdoes (w : World) {v : Value} {xs : List RStep} (h : RLst w v xs) :
    Calls Tryz.prog 3 #[v] w fun e w' => e = .returned (.bool true) ∧ Below w.heap.size w w' := writerDoes_any v xs w h

end Go.Proofs.YtdlmlhmdjfbdiabGreat
