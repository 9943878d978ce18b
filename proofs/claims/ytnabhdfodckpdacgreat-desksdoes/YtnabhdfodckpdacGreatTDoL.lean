/-
  The law DesksDoes: every step is as the document says.
-/
import Derived.Test.YtnabhdfodckpdacGreatTSm
namespace Go.Proofs.YtnabhdfodckpdacGreat
set_option maxRecDepth 20000
open Go Go.RowKit
section
variable {P : Program} {ops : Array Oper} {U0 : Cls} {sp lt : Nat → Bool}
theorem wpLate_skipT {Q : Act → World → Prop} {a : Act} {o : Oper} {rest : List Oper} {k : Nat} {U D : Cls} (d : Option Tmp) (w0 : World) (hd : o.dst = d) (hw : Region.wanted o (yielded ops a.tmps) = false)
 (h : Oper.quiet P ⟨d, .move (.const undef), 0, "", #[], none⟩ a (fun _ => True) (fun a' => wpLate P ops U0 sp lt Q rest (k + 1) a' U D)) : wpLate P ops U0 sp lt Q (o :: rest) k a U D := by
 show if _ then _ else _
 rw [if_neg (by simp [hw]), hd]
 exact put_of_quiet w0 h
end
theorem BothD.settleD {w wk : World} {D G E F : Nat} {pw qw : Nat → Nat} {t u : Twn} (h : BothD w D G pw E F qw t u wk) :
 Calls Tryz.prog 28 #[.pointer (some ⟨D, 0, none⟩)] wk fun e w' => e = .returned (.tuple #[]) ∧ BothD w D G pw E F qw (settleT t) u w' := by
 obtain ⟨T, h1, h2⟩ := h.fst
 exact h1.settles.mono fun e w' ⟨e1, e2⟩ => ⟨e1, h2 _ _ _ e2⟩
theorem BothD.settleT {w wk : World} {D G E F : Nat} {pw qw : Nat → Nat} {t u : Twn} (h : BothD w D G pw E F qw t u wk) (hr : ∃ tk, TR u tk) :
 Calls Tryz.prog 29 #[.pointer (some ⟨E, 0, none⟩)] wk fun e w' => e = .returned (.tuple #[]) ∧ ∃ qw', BothD w D G pw E F qw' t (settleT u) w' := by
 obtain ⟨T, h1, h2⟩ := h.snd
 obtain ⟨tk, hr⟩ := hr
 exact (settle_tn h1 hr).mono fun e w' ⟨e1, qw', e2⟩ => ⟨e1, qw', h2 _ _ _ e2⟩
set_option maxHeartbeats 12800000 in
theorem desksDoes_any (v : Value) (xs : List Tst) (w : World) (h : TLst w v xs) :
 Calls Tryz.prog 4 #[v] w fun e w' => e = .returned (.bool true) ∧ Below w.heap.size w w' := by
 have HD : Hid (TLst w v xs) := h
 obtain ⟨a, cap, rfl⟩ := h.len
 clear h
 go_enter Tryz.func4, Tryz.ntmps4
 go_wp2_with fail
 refine (tbegun_any _).mono ?_
 rintro e w0 ⟨rfl, hb0⟩
 have HB0 : Hid (Below w.heap.size w w0) := hb0
 clear hb0
 go_wp2_with fail
 refine (greatT_any _ xs _ (HD.out.below HB0.out)).mono ?_
 rintro e w1 ⟨gr, rfl, hgr, rfl⟩
 cases gr
 ·have hl := hgr rfl
  clear hgr
  go_wp2_with fail
  have H0 : Hid (BothD w1 (w1.heap.size + 1) w1.heap.size (fun _ => 0) (w1.heap.size + 3) (w1.heap.size + 2) (fun _ => 0) twn0 twn0 ((((w1.alloc (.cells logZ 93)).alloc (.cells (deskZ w1.heap.size) 109)).alloc (.cells bookZ 114)).alloc (.cells (deskZ (w1.heap.size + 2)) 116))) := both_start w1
  refine (new_dk w1).mono ?_
  rintro e w2 ⟨rfl, rfl⟩
  go_wp2_with fail
  refine (new_tn _).mono ?_
  rintro e w2 ⟨rfl, rfl⟩
  rw [show ((w1.alloc (.cells logZ 93)).alloc (.cells (deskZ w1.heap.size) 109)).heap.size = w1.heap.size + 2 by simp]
  generalize World.alloc _ _ = w2 at *
  rw [show w1.heap.size + 2 + 1 = w1.heap.size + 3 by omega]
  generalize w1.heap.size + 3 = E at *
  generalize w1.heap.size + 2 = F at *
  generalize w1.heap.size + 1 = D at *
  have H2 : Hid (∃ G pw qw, BothD w1 D G pw E F qw twn0 twn0 w2) := ⟨_, _, _, H0.out⟩
  clear H0
  obtain ⟨G, pw0, qw0, hd2⟩ := H2.out
  have H3 : Hid (BothD w1 D G pw0 E F qw0 twn0 twn0 w2) := hd2
  clear hd2 H2
  go_wp2_with fail
  go_loopw [5] (fun i wr => ∃ (j : Nat) (t : Twn) (pw qw : Nat → Nat), j ≤ xs.length ∧ i = .int .i64 j ∧ Hid (BothD w1 D G pw E F qw t t wr)) (fun i _ => xs.length - (intOf i).toNat)
  case atStart => exact ⟨0, twn0, pw0, qw0, Nat.zero_le _, rfl, H3.out⟩
  case round =>
   obtain ⟨j, t, pw, qw, hj, rfl, HW⟩ := hrel
   clear H3
   have HTRX : Hid (∃ tk, TR t tk) := by obtain ⟨tk, _, h2⟩ := HW.out; exact ⟨tk, h2⟩
   obtain ⟨tk, htr⟩ := HTRX.out
   have HTR : Hid (TR t tk) := htr
   clear htr
   by_cases hlt : j < xs.length
   ·obtain ⟨bb, off, rfl, hr⟩ := (HD.out.below (bla HB0.out HW.out.below)).row (by omega)
    have hjl : (j : Int) < (xs.length : Int) := by omega
    have HC : Hid (∀ wk, Below w1.heap.size w1 wk → TsAt wk bb (off + j * 5) xs[j]) := fun wk hb => by
     obtain ⟨b2, o2, he, hr2⟩ := (HD.out.below (bla HB0.out hb)).row (by omega)
     simp only [Option.some.injEq, Addr.mk.injEq] at he
     obtain ⟨rfl, rfl, _⟩ := he
     exact hr2.at_ j hlt
    generalize xs[j] = x at *
    obtain ⟨kind, w_, at_, many, text⟩ := x
    clear hr
    obtain ⟨cq, hcq⟩ : ∃ c, (tDo t ⟨kind, w_, at_, many, text⟩).1 = c := ⟨_, rfl⟩
    have HCQ : Hid ((tDo t ⟨kind, w_, at_, many, text⟩).1 = cq) := hcq
    obtain ⟨t2, ht2⟩ : ∃ t2, (tDo t ⟨kind, w_, at_, many, text⟩).2 = t2 := ⟨_, rfl⟩
    have HT2 : Hid ((tDo t ⟨kind, w_, at_, many, text⟩).2 = t2) := ht2
    clear hcq ht2
    go_wp2_with fail
    cases hm : ((j : Int).tmod 4 == 0) with
    | true =>
     have HM0 : Hid (((j : Int).tmod 4 == 0) = true) := hm
     clear hm
     refine wp_region_lateD (fun wk => ∃ pw qw t u, BothD w1 D G pw E F qw t u wk) (fun wk => BothD w1 D G pw E F qw t t wk) (fun i => i == 5 || i == 11 || i == 13 || i == 17 || i == 20) (fun _ => false) (by kernel_rfl) (by kernel_rfl) (by kernel_rfl) (fun _ h => ⟨_, _, _, _, h⟩) (HW.out.after (Below.refl _ _).drew) ?_
     refine wlb (some 18) w rfl (.pointer (some ⟨D, 0, none⟩)) rfl (by kernel_rfl) (fun wk hwk => ?_) ?_
     ·generalize hA : Act.eval _ = ρ
      have s3 : ρ (.tmp 3) = .pointer (some ⟨D, 0, none⟩) := by rw [← hA]; kernel_rfl
      clear hA
      go_simp
     go_big_quiet_op
     refine wlb (some 19) w rfl (.slice (some ⟨bb, off, none⟩) xs.length cap) rfl (by kernel_rfl) (fun wk hwk => ?_) ?_
     ·generalize hA : Act.eval _ = ρ
      have s0 : ρ (.tmp 0) = .slice (some ⟨bb, off, none⟩) xs.length cap := by rw [← hA]; kernel_rfl
      clear hA
      go_simp
     go_big_quiet_op
     refine wlb (some 20) w rfl (.int .i64 (j : Int)) rfl (by kernel_rfl) (fun wk hwk => ?_) ?_
     ·generalize hA : Act.eval _ = ρ
      have s5 : ρ (.tmp 5) = .int .i64 (j : Int) := by rw [← hA]; kernel_rfl
      clear hA
      go_simp
     go_big_quiet_op
     refine wlb (some 21) w rfl (.pointer (some ⟨bb, off + j * 5, none⟩)) rfl (by kernel_rfl) (fun wk hwk => ?_) ?_
     ·generalize hA : Act.eval _ = ρ
      have s19 : ρ (.tmp 19) = .slice (some ⟨bb, off, none⟩) xs.length cap := by rw [← hA]; kernel_rfl
      have s20 : ρ (.tmp 20) = .int .i64 (j : Int) := by rw [← hA]; kernel_rfl
      clear hA
      have hj2 := hjl
      go_simp
     go_big_quiet_op
     refine wlb (some 22) w rfl (tsV ⟨kind, w_, at_, many, text⟩) rfl (by kernel_rfl) (fun wk hwk => ?_) ?_
     ·generalize hA : Act.eval _ = ρ
      have s21 : ρ (.tmp 21) = .pointer (some ⟨bb, off + j * 5, none⟩) := by rw [← hA]; kernel_rfl
      clear hA
      obtain ⟨_, c0, c1, c2, c3, c4⟩ := HC.out wk (by obtain ⟨_, _, _, _, hq⟩ := hwk; exact hq.below)
      go_simp
     go_big_quiet_op
     refine wls (some 23) w rfl rfl (by kernel_rfl) (fun u => u = .int .i64 cq) (fun u wk => ∃ pw qw t u, BothD w1 D G pw E F qw t u wk) (fun u wk => ∃ pw2, BothD w1 D G pw2 E F qw t2 t wk) (⟨_, rfl⟩) (fun _ _ h => h) (fun _ _ h => by obtain ⟨p2, h⟩ := h; exact ⟨_, _, _, _, h⟩) (fun wk hwk => ?_) (fun u9 hu9 => ?_)
     ·generalize hA : Act.eval _ = ρ
      have s18 : ρ (.tmp 18) = .pointer (some ⟨D, 0, none⟩) := by rw [← hA]; kernel_rfl
      have s22 : ρ (.tmp 22) = tsV ⟨kind, w_, at_, many, text⟩ := by rw [← hA]; kernel_rfl
      have sf : ρ (.func 25) = .func (.func 25) #[] #[] := by rw [← hA]; kernel_rfl
      clear hA
      go_simp
      obtain ⟨T, h1, h2⟩ := hwk.fst
      refine (h1.does ⟨kind, w_, at_, many, text⟩).mono ?_
      rintro e w7 ⟨rfl, pw7, h7, _⟩
      exact ⟨_, rfl, by rw [HCQ.out], pw7, by rw [← HT2.out]; exact h2 _ _ _ h7⟩
     subst hu9
     go_big_quiet_op
     refine wlb (some 24) w rfl (.pointer (some ⟨E, 0, none⟩)) rfl (by kernel_rfl) (fun wk hwk => ?_) ?_
     ·generalize hA : Act.eval _ = ρ
      have s4 : ρ (.tmp 4) = .pointer (some ⟨E, 0, none⟩) := by rw [← hA]; kernel_rfl
      clear hA
      go_simp
     go_big_quiet_op
     refine wlb (some 25) w rfl (.slice (some ⟨bb, off, none⟩) xs.length cap) rfl (by kernel_rfl) (fun wk hwk => ?_) ?_
     ·generalize hA : Act.eval _ = ρ
      have s0 : ρ (.tmp 0) = .slice (some ⟨bb, off, none⟩) xs.length cap := by rw [← hA]; kernel_rfl
      clear hA
      go_simp
     go_big_quiet_op
     refine wlb (some 26) w rfl (.int .i64 (j : Int)) rfl (by kernel_rfl) (fun wk hwk => ?_) ?_
     ·generalize hA : Act.eval _ = ρ
      have s5 : ρ (.tmp 5) = .int .i64 (j : Int) := by rw [← hA]; kernel_rfl
      clear hA
      go_simp
     go_big_quiet_op
     refine wlb (some 27) w rfl (.pointer (some ⟨bb, off + j * 5, none⟩)) rfl (by kernel_rfl) (fun wk hwk => ?_) ?_
     ·generalize hA : Act.eval _ = ρ
      have s25 : ρ (.tmp 25) = .slice (some ⟨bb, off, none⟩) xs.length cap := by rw [← hA]; kernel_rfl
      have s26 : ρ (.tmp 26) = .int .i64 (j : Int) := by rw [← hA]; kernel_rfl
      clear hA
      have hj2 := hjl
      go_simp
     go_big_quiet_op
     refine wlb (some 28) w rfl (tsV ⟨kind, w_, at_, many, text⟩) rfl (by kernel_rfl) (fun wk hwk => ?_) ?_
     ·generalize hA : Act.eval _ = ρ
      have s27 : ρ (.tmp 27) = .pointer (some ⟨bb, off + j * 5, none⟩) := by rw [← hA]; kernel_rfl
      clear hA
      obtain ⟨_, c0, c1, c2, c3, c4⟩ := HC.out wk (by obtain ⟨_, _, _, _, hq⟩ := hwk; exact hq.below)
      go_simp
     go_big_quiet_op
     refine wls (some 29) w rfl rfl (by kernel_rfl) (fun u => u = .int .i64 cq) (fun u wk => ∃ pw qw t u, BothD w1 D G pw E F qw t u wk) (fun u wk => ∃ pw2 qw2, BothD w1 D G pw2 E F qw2 t2 t2 wk) (⟨_, rfl⟩) (fun _ _ h => h) (fun _ _ h => by obtain ⟨p2, q2, h⟩ := h; exact ⟨_, _, _, _, h⟩) (fun wk hwk => ?_) (fun u9 hu9 => ?_)
     ·generalize hA : Act.eval _ = ρ
      have s24 : ρ (.tmp 24) = .pointer (some ⟨E, 0, none⟩) := by rw [← hA]; kernel_rfl
      have s28 : ρ (.tmp 28) = tsV ⟨kind, w_, at_, many, text⟩ := by rw [← hA]; kernel_rfl
      have sf : ρ (.func 26) = .func (.func 26) #[] #[] := by rw [← hA]; kernel_rfl
      clear hA
      go_simp
      obtain ⟨p2, hq⟩ := hwk
      obtain ⟨T, h1, h2⟩ := hq.snd
      refine (do_tn h1 HTR.out ⟨kind, w_, at_, many, text⟩).mono ?_
      rintro e w7 ⟨rfl, pw7, h7⟩
      exact ⟨_, rfl, by rw [HCQ.out], p2, pw7, by rw [HT2.out] at h7; exact h2 _ _ _ h7⟩
     subst hu9
     go_big_quiet_op
     refine wlb (some 30) w rfl (.bool false) rfl (by kernel_rfl) (fun wk hwk => ?_) ?_
     ·generalize hA : Act.eval _ = ρ
      have s23 : ρ (.tmp 23) = .int .i64 (cq) := by rw [← hA]; kernel_rfl
      have s29 : ρ (.tmp 29) = .int .i64 (cq) := by rw [← hA]; kernel_rfl
      clear hA
      go_simp
     go_big_quiet_op
     refine wls (some 31) w rfl rfl (by kernel_rfl) (fun u => u = .bool false) (fun u wk => ∃ pw qw t u, BothD w1 D G pw E F qw t u wk) (fun u wk => ∃ pw2 qw2, BothD w1 D G pw2 E F qw2 t2 t2 wk) (⟨_, rfl⟩) (fun _ _ h => h) (fun _ _ h => by obtain ⟨p2, q2, h⟩ := h; exact ⟨_, _, _, _, h⟩) (fun wk hwk => ?_) (fun u9 hu9 => ?_)
     ·generalize hA : Act.eval _ = ρ
      have s30 : ρ (.tmp 30) = .bool false := by rw [← hA]; kernel_rfl
      clear hA
      go_simp
      exact ⟨rfl, hwk⟩
     subst hu9
     go_big_quiet_op
     refine wlb (some 32) w rfl (.int .i64 (j : Int)) rfl (by kernel_rfl) (fun wk hwk => ?_) ?_
     ·generalize hA : Act.eval _ = ρ
      have s5 : ρ (.tmp 5) = .int .i64 (j : Int) := by rw [← hA]; kernel_rfl
      clear hA
      go_simp
     go_big_quiet_op
     refine wlb (some 33) w rfl (.int .i64 ((j : Int).tmod 4)) rfl (by kernel_rfl) (fun wk hwk => ?_) ?_
     ·generalize hA : Act.eval _ = ρ
      have s32 : ρ (.tmp 32) = .int .i64 (j : Int) := by rw [← hA]; kernel_rfl
      have k1 : ρ (.const (.int .i64 (4))) = .int .i64 (4) := by rw [← hA]; kernel_rfl
      clear hA
      go_simp
     go_big_quiet_op
     refine wlb (some 34) w rfl (.bool true) rfl (by kernel_rfl) (fun wk hwk => ?_) ?_
     ·generalize hA : Act.eval _ = ρ
      have s33 : ρ (.tmp 33) = .int .i64 ((j : Int).tmod 4) := by rw [← hA]; kernel_rfl
      have k1 : ρ (.const (.int .i64 (0))) = .int .i64 (0) := by rw [← hA]; kernel_rfl
      clear hA
      have hm3 : ((j : Int).tmod 4 == 0) = true := HM0.out
      go_simp
     go_big_quiet_op
     refine wls (some 35) w rfl rfl (by kernel_rfl) (fun u => u = .bool true) (fun u wk => ∃ pw qw t u, BothD w1 D G pw E F qw t u wk) (fun u wk => ∃ pw2 qw2, BothD w1 D G pw2 E F qw2 t2 t2 wk) (⟨_, rfl⟩) (fun _ _ h => h) (fun _ _ h => by obtain ⟨p2, q2, h⟩ := h; exact ⟨_, _, _, _, h⟩) (fun wk hwk => ?_) (fun u9 hu9 => ?_)
     ·generalize hA : Act.eval _ = ρ
      have s34 : ρ (.tmp 34) = .bool true := by rw [← hA]; kernel_rfl
      clear hA
      go_simp
      exact ⟨rfl, hwk⟩
     subst hu9
     go_big_quiet_op
     refine wlb (some 36) w rfl (.pointer (some ⟨D, 0, none⟩)) rfl (by kernel_rfl) (fun wk hwk => ?_) ?_
     ·generalize hA : Act.eval _ = ρ
      have s3 : ρ (.tmp 3) = .pointer (some ⟨D, 0, none⟩) := by rw [← hA]; kernel_rfl
      clear hA
      go_simp
     go_big_quiet_op
     refine wlb (some 37) w rfl (.pointer (some ⟨E, 0, none⟩)) rfl (by kernel_rfl) (fun wk hwk => ?_) ?_
     ·generalize hA : Act.eval _ = ρ
      have s4 : ρ (.tmp 4) = .pointer (some ⟨E, 0, none⟩) := by rw [← hA]; kernel_rfl
      clear hA
      go_simp
     go_big_quiet_op
     refine wls (some 38) w rfl rfl (by kernel_rfl) (fun u => u = .bool true) (fun u wk => ∃ pw qw t u, BothD w1 D G pw E F qw t u wk) (fun u wk => ∃ pw2 qw2, BothD w1 D G pw2 E F qw2 t2 t2 wk) (⟨_, rfl⟩) (fun _ _ h => h) (fun _ _ h => by obtain ⟨p2, q2, h⟩ := h; exact ⟨_, _, _, _, h⟩) (fun wk hwk => ?_) (fun u9 hu9 => ?_)
     ·generalize hA : Act.eval _ = ρ
      have s36 : ρ (.tmp 36) = .pointer (some ⟨D, 0, none⟩) := by rw [← hA]; kernel_rfl
      have s37 : ρ (.tmp 37) = .pointer (some ⟨E, 0, none⟩) := by rw [← hA]; kernel_rfl
      have sf : ρ (.func 27) = .func (.func 27) #[] #[] := by rw [← hA]; kernel_rfl
      clear hA
      go_simp
      obtain ⟨p2, q2, hq⟩ := hwk
      refine (sameDesks_any hq).mono ?_
      rintro e w7 ⟨rfl, h7⟩
      exact ⟨_, rfl, rfl, p2, q2, h7⟩
     subst hu9
     go_big_quiet_op
     refine wlb (some 39) w rfl (.bool false) rfl (by kernel_rfl) (fun wk hwk => ?_) ?_
     ·generalize hA : Act.eval _ = ρ
      have s38 : ρ (.tmp 38) = .bool true := by rw [← hA]; kernel_rfl
      clear hA
      go_simp
     go_big_quiet_op
     refine wlb (some 40) w rfl (.bool false) rfl (by kernel_rfl) (fun wk hwk => ?_) ?_
     ·generalize hA : Act.eval _ = ρ
      have s35 : ρ (.tmp 35) = .bool true := by rw [← hA]; kernel_rfl
      have s39 : ρ (.tmp 39) = .bool false := by rw [← hA]; kernel_rfl
      have k2 : ρ (.const (.bool false)) = .bool false := by rw [← hA]; kernel_rfl
      clear hA
      go_simp
     go_big_quiet_op
     refine wlb (some 41) w rfl (.bool false) rfl (by kernel_rfl) (fun wk hwk => ?_) ?_
     ·generalize hA : Act.eval _ = ρ
      have s31 : ρ (.tmp 31) = .bool false := by rw [← hA]; kernel_rfl
      have k1 : ρ (.const (.bool true)) = .bool true := by rw [← hA]; kernel_rfl
      have s40 : ρ (.tmp 40) = .bool false := by rw [← hA]; kernel_rfl
      clear hA
      go_simp
     go_big_quiet_op
     refine wpLate_nil (fun w9 hw9 => ?_)
     have H9 : Hid (∃ pw2 qw2, BothD w1 D G pw2 E F qw2 t2 t2 w9) := hw9
     clear hw9
     go_wp2_with fail
     obtain ⟨p2, q2, h9⟩ := H9.out
     go_roundw
     case rel => exact ⟨j + 1, t2, p2, q2, by omega, by go_num, h9⟩
     case measure => simp [intOf]; omega
    | false =>
     have HM0 : Hid (((j : Int).tmod 4 == 0) = false) := hm
     clear hm
     refine wp_region_lateD (fun wk => ∃ pw qw t u, BothD w1 D G pw E F qw t u wk) (fun wk => BothD w1 D G pw E F qw t t wk) (fun i => i == 5 || i == 11 || i == 13 || i == 17 || i == 20) (fun _ => false) (by kernel_rfl) (by kernel_rfl) (by kernel_rfl) (fun _ h => ⟨_, _, _, _, h⟩) (HW.out.after (Below.refl _ _).drew) ?_
     refine wlb (some 18) w rfl (.pointer (some ⟨D, 0, none⟩)) rfl (by kernel_rfl) (fun wk hwk => ?_) ?_
     ·generalize hA : Act.eval _ = ρ
      have s3 : ρ (.tmp 3) = .pointer (some ⟨D, 0, none⟩) := by rw [← hA]; kernel_rfl
      clear hA
      go_simp
     go_big_quiet_op
     refine wlb (some 19) w rfl (.slice (some ⟨bb, off, none⟩) xs.length cap) rfl (by kernel_rfl) (fun wk hwk => ?_) ?_
     ·generalize hA : Act.eval _ = ρ
      have s0 : ρ (.tmp 0) = .slice (some ⟨bb, off, none⟩) xs.length cap := by rw [← hA]; kernel_rfl
      clear hA
      go_simp
     go_big_quiet_op
     refine wlb (some 20) w rfl (.int .i64 (j : Int)) rfl (by kernel_rfl) (fun wk hwk => ?_) ?_
     ·generalize hA : Act.eval _ = ρ
      have s5 : ρ (.tmp 5) = .int .i64 (j : Int) := by rw [← hA]; kernel_rfl
      clear hA
      go_simp
     go_big_quiet_op
     refine wlb (some 21) w rfl (.pointer (some ⟨bb, off + j * 5, none⟩)) rfl (by kernel_rfl) (fun wk hwk => ?_) ?_
     ·generalize hA : Act.eval _ = ρ
      have s19 : ρ (.tmp 19) = .slice (some ⟨bb, off, none⟩) xs.length cap := by rw [← hA]; kernel_rfl
      have s20 : ρ (.tmp 20) = .int .i64 (j : Int) := by rw [← hA]; kernel_rfl
      clear hA
      have hj2 := hjl
      go_simp
     go_big_quiet_op
     refine wlb (some 22) w rfl (tsV ⟨kind, w_, at_, many, text⟩) rfl (by kernel_rfl) (fun wk hwk => ?_) ?_
     ·generalize hA : Act.eval _ = ρ
      have s21 : ρ (.tmp 21) = .pointer (some ⟨bb, off + j * 5, none⟩) := by rw [← hA]; kernel_rfl
      clear hA
      obtain ⟨_, c0, c1, c2, c3, c4⟩ := HC.out wk (by obtain ⟨_, _, _, _, hq⟩ := hwk; exact hq.below)
      go_simp
     go_big_quiet_op
     refine wls (some 23) w rfl rfl (by kernel_rfl) (fun u => u = .int .i64 cq) (fun u wk => ∃ pw qw t u, BothD w1 D G pw E F qw t u wk) (fun u wk => ∃ pw2, BothD w1 D G pw2 E F qw t2 t wk) (⟨_, rfl⟩) (fun _ _ h => h) (fun _ _ h => by obtain ⟨p2, h⟩ := h; exact ⟨_, _, _, _, h⟩) (fun wk hwk => ?_) (fun u9 hu9 => ?_)
     ·generalize hA : Act.eval _ = ρ
      have s18 : ρ (.tmp 18) = .pointer (some ⟨D, 0, none⟩) := by rw [← hA]; kernel_rfl
      have s22 : ρ (.tmp 22) = tsV ⟨kind, w_, at_, many, text⟩ := by rw [← hA]; kernel_rfl
      have sf : ρ (.func 25) = .func (.func 25) #[] #[] := by rw [← hA]; kernel_rfl
      clear hA
      go_simp
      obtain ⟨T, h1, h2⟩ := hwk.fst
      refine (h1.does ⟨kind, w_, at_, many, text⟩).mono ?_
      rintro e w7 ⟨rfl, pw7, h7, _⟩
      exact ⟨_, rfl, by rw [HCQ.out], pw7, by rw [← HT2.out]; exact h2 _ _ _ h7⟩
     subst hu9
     go_big_quiet_op
     refine wlb (some 24) w rfl (.pointer (some ⟨E, 0, none⟩)) rfl (by kernel_rfl) (fun wk hwk => ?_) ?_
     ·generalize hA : Act.eval _ = ρ
      have s4 : ρ (.tmp 4) = .pointer (some ⟨E, 0, none⟩) := by rw [← hA]; kernel_rfl
      clear hA
      go_simp
     go_big_quiet_op
     refine wlb (some 25) w rfl (.slice (some ⟨bb, off, none⟩) xs.length cap) rfl (by kernel_rfl) (fun wk hwk => ?_) ?_
     ·generalize hA : Act.eval _ = ρ
      have s0 : ρ (.tmp 0) = .slice (some ⟨bb, off, none⟩) xs.length cap := by rw [← hA]; kernel_rfl
      clear hA
      go_simp
     go_big_quiet_op
     refine wlb (some 26) w rfl (.int .i64 (j : Int)) rfl (by kernel_rfl) (fun wk hwk => ?_) ?_
     ·generalize hA : Act.eval _ = ρ
      have s5 : ρ (.tmp 5) = .int .i64 (j : Int) := by rw [← hA]; kernel_rfl
      clear hA
      go_simp
     go_big_quiet_op
     refine wlb (some 27) w rfl (.pointer (some ⟨bb, off + j * 5, none⟩)) rfl (by kernel_rfl) (fun wk hwk => ?_) ?_
     ·generalize hA : Act.eval _ = ρ
      have s25 : ρ (.tmp 25) = .slice (some ⟨bb, off, none⟩) xs.length cap := by rw [← hA]; kernel_rfl
      have s26 : ρ (.tmp 26) = .int .i64 (j : Int) := by rw [← hA]; kernel_rfl
      clear hA
      have hj2 := hjl
      go_simp
     go_big_quiet_op
     refine wlb (some 28) w rfl (tsV ⟨kind, w_, at_, many, text⟩) rfl (by kernel_rfl) (fun wk hwk => ?_) ?_
     ·generalize hA : Act.eval _ = ρ
      have s27 : ρ (.tmp 27) = .pointer (some ⟨bb, off + j * 5, none⟩) := by rw [← hA]; kernel_rfl
      clear hA
      obtain ⟨_, c0, c1, c2, c3, c4⟩ := HC.out wk (by obtain ⟨_, _, _, _, hq⟩ := hwk; exact hq.below)
      go_simp
     go_big_quiet_op
     refine wls (some 29) w rfl rfl (by kernel_rfl) (fun u => u = .int .i64 cq) (fun u wk => ∃ pw qw t u, BothD w1 D G pw E F qw t u wk) (fun u wk => ∃ pw2 qw2, BothD w1 D G pw2 E F qw2 t2 t2 wk) (⟨_, rfl⟩) (fun _ _ h => h) (fun _ _ h => by obtain ⟨p2, q2, h⟩ := h; exact ⟨_, _, _, _, h⟩) (fun wk hwk => ?_) (fun u9 hu9 => ?_)
     ·generalize hA : Act.eval _ = ρ
      have s24 : ρ (.tmp 24) = .pointer (some ⟨E, 0, none⟩) := by rw [← hA]; kernel_rfl
      have s28 : ρ (.tmp 28) = tsV ⟨kind, w_, at_, many, text⟩ := by rw [← hA]; kernel_rfl
      have sf : ρ (.func 26) = .func (.func 26) #[] #[] := by rw [← hA]; kernel_rfl
      clear hA
      go_simp
      obtain ⟨p2, hq⟩ := hwk
      obtain ⟨T, h1, h2⟩ := hq.snd
      refine (do_tn h1 HTR.out ⟨kind, w_, at_, many, text⟩).mono ?_
      rintro e w7 ⟨rfl, pw7, h7⟩
      exact ⟨_, rfl, by rw [HCQ.out], p2, pw7, by rw [HT2.out] at h7; exact h2 _ _ _ h7⟩
     subst hu9
     go_big_quiet_op
     refine wlb (some 30) w rfl (.bool false) rfl (by kernel_rfl) (fun wk hwk => ?_) ?_
     ·generalize hA : Act.eval _ = ρ
      have s23 : ρ (.tmp 23) = .int .i64 (cq) := by rw [← hA]; kernel_rfl
      have s29 : ρ (.tmp 29) = .int .i64 (cq) := by rw [← hA]; kernel_rfl
      clear hA
      go_simp
     go_big_quiet_op
     refine wls (some 31) w rfl rfl (by kernel_rfl) (fun u => u = .bool false) (fun u wk => ∃ pw qw t u, BothD w1 D G pw E F qw t u wk) (fun u wk => ∃ pw2 qw2, BothD w1 D G pw2 E F qw2 t2 t2 wk) (⟨_, rfl⟩) (fun _ _ h => h) (fun _ _ h => by obtain ⟨p2, q2, h⟩ := h; exact ⟨_, _, _, _, h⟩) (fun wk hwk => ?_) (fun u9 hu9 => ?_)
     ·generalize hA : Act.eval _ = ρ
      have s30 : ρ (.tmp 30) = .bool false := by rw [← hA]; kernel_rfl
      clear hA
      go_simp
      exact ⟨rfl, hwk⟩
     subst hu9
     go_big_quiet_op
     refine wlb (some 32) w rfl (.int .i64 (j : Int)) rfl (by kernel_rfl) (fun wk hwk => ?_) ?_
     ·generalize hA : Act.eval _ = ρ
      have s5 : ρ (.tmp 5) = .int .i64 (j : Int) := by rw [← hA]; kernel_rfl
      clear hA
      go_simp
     go_big_quiet_op
     refine wlb (some 33) w rfl (.int .i64 ((j : Int).tmod 4)) rfl (by kernel_rfl) (fun wk hwk => ?_) ?_
     ·generalize hA : Act.eval _ = ρ
      have s32 : ρ (.tmp 32) = .int .i64 (j : Int) := by rw [← hA]; kernel_rfl
      have k1 : ρ (.const (.int .i64 (4))) = .int .i64 (4) := by rw [← hA]; kernel_rfl
      clear hA
      go_simp
     go_big_quiet_op
     refine wlb (some 34) w rfl (.bool false) rfl (by kernel_rfl) (fun wk hwk => ?_) ?_
     ·generalize hA : Act.eval _ = ρ
      have s33 : ρ (.tmp 33) = .int .i64 ((j : Int).tmod 4) := by rw [← hA]; kernel_rfl
      have k1 : ρ (.const (.int .i64 (0))) = .int .i64 (0) := by rw [← hA]; kernel_rfl
      clear hA
      have hm3 : ((j : Int).tmod 4 == 0) = false := HM0.out
      go_simp
     go_big_quiet_op
     refine wls (some 35) w rfl rfl (by kernel_rfl) (fun u => u = .bool false) (fun u wk => ∃ pw qw t u, BothD w1 D G pw E F qw t u wk) (fun u wk => ∃ pw2 qw2, BothD w1 D G pw2 E F qw2 t2 t2 wk) (⟨_, rfl⟩) (fun _ _ h => h) (fun _ _ h => by obtain ⟨p2, q2, h⟩ := h; exact ⟨_, _, _, _, h⟩) (fun wk hwk => ?_) (fun u9 hu9 => ?_)
     ·generalize hA : Act.eval _ = ρ
      have s34 : ρ (.tmp 34) = .bool false := by rw [← hA]; kernel_rfl
      clear hA
      go_simp
      exact ⟨rfl, hwk⟩
     subst hu9
     go_big_quiet_op
     refine wpLate_skipT (some 36) w rfl (by kernel_rfl) ?_
     go_big_quiet_op
     refine wpLate_skipT (some 37) w rfl (by kernel_rfl) ?_
     go_big_quiet_op
     refine wpLate_skipT (some 38) w rfl (by kernel_rfl) ?_
     go_big_quiet_op
     refine wpLate_skipT (some 39) w rfl (by kernel_rfl) ?_
     go_big_quiet_op
     refine wlb (some 40) w rfl (.bool false) rfl (by kernel_rfl) (fun wk hwk => ?_) ?_
     ·generalize hA : Act.eval _ = ρ
      have s35 : ρ (.tmp 35) = .bool false := by rw [← hA]; kernel_rfl
      have k1 : ρ (.const (.bool false)) = .bool false := by rw [← hA]; kernel_rfl
      clear hA
      go_simp
     go_big_quiet_op
     refine wlb (some 41) w rfl (.bool false) rfl (by kernel_rfl) (fun wk hwk => ?_) ?_
     ·generalize hA : Act.eval _ = ρ
      have s31 : ρ (.tmp 31) = .bool false := by rw [← hA]; kernel_rfl
      have k1 : ρ (.const (.bool true)) = .bool true := by rw [← hA]; kernel_rfl
      have s40 : ρ (.tmp 40) = .bool false := by rw [← hA]; kernel_rfl
      clear hA
      go_simp
     go_big_quiet_op
     refine wpLate_nil (fun w9 hw9 => ?_)
     have H9 : Hid (∃ pw2 qw2, BothD w1 D G pw2 E F qw2 t2 t2 w9) := hw9
     clear hw9
     go_wp2_with fail
     obtain ⟨p2, q2, h9⟩ := H9.out
     go_roundw
     case rel => exact ⟨j + 1, t2, p2, q2, by omega, by go_num, h9⟩
     case measure => simp [intOf]; omega
   ·go_wp2_with fail
    refine (sameDesks_any HW.out).mono ?_
    rintro e w5 ⟨rfl, h5⟩
    have H5 : Hid (BothD w1 D G pw E F qw t t w5) := h5
    clear h5 HW
    go_wp2_with fail
    refine H5.out.settleD.mono ?_
    rintro e w6 ⟨rfl, h6⟩
    have H6 : Hid (BothD w1 D G pw E F qw (settleT t) t w6) := h6
    clear h6 H5
    go_wp2_with fail
    refine (H6.out.settleT HTRX.out).mono ?_
    rintro e w7 ⟨rfl, qw7, h7⟩
    have H7 : Hid (BothD w1 D G pw E F qw7 (settleT t) (settleT t) w7) := h7
    clear h7 H6
    go_wp2_with fail
    refine (sameDesks_any H7.out).mono ?_
    rintro e w8 ⟨rfl, h8⟩
    have H8 : Hid (BothD w1 D G pw E F qw7 (settleT t) (settleT t) w8) := h8
    clear h8 H7
    go_wp2_with fail
    go_ret
    exact ⟨rfl, bla HB0.out H8.out.below⟩
 ·go_wp2
  go_ret
  exact ⟨rfl, HB0.out⟩
theorem law_desksdoes (w : World) {v : Value} {xs : List Tst} (h : TLst w v xs) :
 Calls Tryz.prog 4 #[v] w fun e w' => e = .returned (.bool true) ∧ Below w.heap.size w w' := desksDoes_any v xs w h
end Go.Proofs.YtnabhdfodckpdacGreat
