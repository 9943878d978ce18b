/-
  The desk in the middle of a call: its desks, and its builder; step, logged, then.
-/
import Derived.Test.YtcbnnfeelhlapadGreatDoorKLA
import Derived.Test.YtcbnnfeelhlapadGreatDoorLMem
import Derived.Test.YtcbnnfeelhlapadGreatDoorRPlain
import Derived.Test.YtcbnnfeelhlapadGreatDoorFFin
namespace Go.Proofs.YtcbnnfeelhlapadGreatDoor
set_option maxRecDepth 20000
open Go Go.RowKit
structure LkIn (base : Nat) (w0 : World) (S : Nat → Prop) (R D G : Nat) (pw : Nat → Nat) (told : List UInt8) (t : Twn) (wk : World) : Prop where
 dk : ∃ tk, DkIn base w0 S D G pw t tk (updT (fun _ => Th.no base) 0 (Th.lk base R D told)) wk ∧ TR t tk
 rdy : Rdy base wk
theorem no_in {c : Int} (h : Sm c) : inI c := by
 unfold Sm at h
 unfold inI
 omega
section
variable {base R D G : Nat} {pw : Nat → Nat} {w0 wk w' : World} {S : Nat → Prop} {told : List UInt8} {t : Twn}
theorem LkIn.after (h : LkIn base w0 S R D G pw told t wk) (hb : Below wk.heap.size wk w') : LkIn base w0 S R D G pw told t w' := by
 obtain ⟨⟨tk, h1, h2⟩, h3⟩ := h
 exact ⟨⟨tk, h1.after hb, h2⟩, h3.after hb⟩
theorem LkIn.any (h : LkIn base w0 S R D G pw told t wk) : DkAny base w0 S D G pw t wk := by
 obtain ⟨⟨tk, h1, h2⟩, _⟩ := h
 exact ⟨tk, h1.bare, h2⟩
theorem LkIn.turn (h : LkIn base w0 S R D G pw told t wk) : ∃ T, LkAt wk base T R D told ∧ (base ≤ wk.heap.size ∧ ∀ k, T k → base ≤ k ∧ k < wk.heap.size) ∧ ∀ told' w', LkTo wk base T R D told' w' → LkIn base w0 S R D G pw told' t w' := by
 obtain ⟨⟨tk, h1, h2⟩, h3⟩ := h
 obtain ⟨T, a1, a2, a3⟩ := h1.boxed 0
 rw [updT_same] at a1
 refine ⟨T, a1, ⟨Hq.base_le h1, a2⟩, fun told' w' ht => ⟨⟨tk, (a3 (Th.lk base R D told') w' ht.2 ht.1).other (fun j T hp => ?_), h2⟩, h3.kept ht.2 (fun k e => (a2 k e).1)⟩⟩
 by_cases e : j = 0
 ·subst e; rw [updT_same] at hp ⊢; exact hp
 ·rw [updT_other _ _ e] at hp ⊢; rw [updT_other _ _ e] at hp; exact hp
theorem LkIn.cell (h : LkIn base w0 S R D G pw told t wk) : wk.cell? ⟨R, 2, none⟩ = some (.pointer (some ⟨D, 0, none⟩)) ∧ R < wk.heap.size := by
 obtain ⟨T, h1, _⟩ := h.turn
 exact h1.block
theorem LkIn.log (h : LkIn base w0 S R D G pw told t wk) : wk.cell? ⟨D, 0, none⟩ = some (.pointer (some ⟨G, 0, none⟩)) ∧ D < wk.heap.size := ⟨h.any.cells.book, h.any.cells.lt⟩
theorem LkIn.ti (h : LkIn base w0 S R D G pw told t wk) : TwI t := h.any.ti
theorem LkIn.does (h : LkIn base w0 S R D G pw told t wk) (x : Tst) :
 Calls Tryz.prog 47 #[.pointer (some ⟨D, 0, none⟩), tsV x] wk fun e w' => e = .returned (.int .i64 (tDo t x).1) ∧ ∃ pw', LkIn base w0 S R D G pw' told (tDo t x).2 w' := by
 obtain ⟨⟨tk, h1, h2⟩, h3⟩ := h
 obtain ⟨T, ha, hs⟩ := h1.call
 exact (do_dk ha h2 x).mono fun e w' ⟨e1, pw', tk', e2, e3, _⟩ => ⟨e1, pw', ⟨tk', hs _ _ _ _ e2, e3⟩, h3.kept e2.2 (fun k e => (ha.lo k e).1)⟩
theorem LkIn.settles (h : LkIn base w0 S R D G pw told t wk) :
 Calls Tryz.prog 83 #[.pointer (some ⟨D, 0, none⟩)] wk fun e w' => e = .returned (.tuple #[]) ∧ LkIn base w0 S R D G pw told (settleT t) w' := by
 obtain ⟨⟨tk, h1, h2⟩, h3⟩ := h
 obtain ⟨T, ha, hs⟩ := h1.call
 exact (settle_dk ha h2).mono fun e w' ⟨e1, tk', e2, e3⟩ => ⟨e1, ⟨tk', hs _ _ _ _ e2, e3⟩, h3.kept e2.2 (fun k e => (ha.lo k e).1)⟩
theorem LkIn.tells (h : LkIn base w0 S R D G pw told t wk) {fn : FuncId} {args : Array Value} {told' : List UInt8} {w1 : World} (hb : Below wk.heap.size wk w1)
 (hc : ∀ T, LkAt w1 base T R D told → (base ≤ w1.heap.size ∧ ∀ k, T k → base ≤ k ∧ k < w1.heap.size) → (∀ k, T k → k < wk.heap.size) → Rdy base w1 → Calls Tryz.prog fn args w1 fun e w' => e = .returned (.tuple #[]) ∧ LkTo w1 base T R D told' w') :
 Calls Tryz.prog fn args w1 fun e w' => e = .returned (.tuple #[]) ∧ LkIn base w0 S R D G pw told' t w' := by
 obtain ⟨T, a1, a2, a3⟩ := h.turn
 exact (hc T (a1.below a2 hb) (held_below a2 hb) (fun k e => (a2.2 k e).2) (h.rdy.after hb)).mono fun e w' ⟨e1, e2⟩ => ⟨e1, a3 _ _ (LkTo.since hb e2 a2)⟩
theorem LkIn.says (h : LkIn base w0 S R D G pw told t wk) (s : ByteArray) (hz : told.length + s.size ≤ 900000000) :
 Calls Tryz.prog 49 #[.pointer (some ⟨R, 0, none⟩), .slice (some ⟨wk.heap.size, 0, none⟩) 1 1] (wk.alloc (.cells #[.string s] 9)) fun e w' => e = .returned (.tuple #[]) ∧ LkIn base w0 S R D G pw (told ++ (s.data.toList ++ [10])) t w' := by
 obtain ⟨T, a1, a2, a3⟩ := h.turn
 exact (say_one a1 a2 s hz rfl).mono fun e w' ⟨e1, e2⟩ => ⟨e1, a3 _ _ e2⟩
theorem LkIn.says2 (h : LkIn base w0 S R D G pw told t wk) (s x : ByteArray) (hz : told.length + (s.size + x.size) ≤ 800000000) :
 Calls Tryz.prog 49 #[.pointer (some ⟨R, 0, none⟩), .slice (some ⟨wk.heap.size, 0, none⟩) 2 2] (wk.alloc (.cells #[.string s, .string x] 9)) fun e w' => e = .returned (.tuple #[]) ∧ LkIn base w0 S R D G pw (told ++ (jnB [s.data.toList, x.data.toList] ++ [10])) t w' := by
 obtain ⟨T, a1, a2, a3⟩ := h.turn
 exact (say_two a1 a2 s x hz rfl).mono fun e w' ⟨e1, e2⟩ => ⟨e1, a3 _ _ e2⟩
theorem LkIn.whats (h : LkIn base w0 S R D G pw told t wk) (hz : told.length ≤ 800000000) :
 Calls Tryz.prog 28 #[.pointer (some ⟨R, 0, none⟩)] wk fun e w' => e = .returned (.tuple #[]) ∧ LkIn base w0 S R D G pw (told ++ whatW) t w' :=
 h.tells (Below.refl _ _) fun _ a1 a2 _ _ => what_lk a1 a2 hz
theorem LkIn.nos (h : LkIn base w0 S R D G pw told t wk) (c : Int) (hc : inI c) (hz : told.length ≤ 700000000) :
 Calls Tryz.prog 48 #[.pointer (some ⟨R, 0, none⟩), .int .i64 c] wk fun e w' => e = .returned (.tuple #[]) ∧ LkIn base w0 S R D G pw (told ++ noW c) t w' :=
 h.tells (Below.refl _ _) fun _ a1 a2 _ a4 => no_lk a1 a2 a4 c hc hz
theorem deeds_far {w1 : World} {v : Value} {ds : List Dd} {T : Nat → Prop} (ho : OwnD w1 wk.heap.size v ds) (hT : ∀ k, T k → k < wk.heap.size) : ∀ w2, Kept T w1 w2 → DLst w2 v ds := fun w2 hk => by
 have : OwnD w2 wk.heap.size v ds := owns_block ho (fun k e => by
  obtain ⟨h1, h2⟩ := World.ownsRow.lt ho k e
  exact hk.block k h2 (fun e' => by have := hT k e'; omega))
 exact this.dlst
theorem LkIn.lists (h : LkIn base w0 S R D G pw told t wk) {w1 : World} {v : Value} {ds : List Dd} (hb : Below wk.heap.size wk w1) (ho : OwnD w1 wk.heap.size v ds) (hn : ds.length ≤ 1000) (hz : told.length ≤ 700000000) :
 Calls Tryz.prog 81 #[.pointer (some ⟨R, 0, none⟩), v] w1 fun e w' => e = .returned (.tuple #[]) ∧ LkIn base w0 S R D G pw (told ++ (linesW ds ++ endW)) t w' :=
 h.tells hb fun _ a1 a2 a3 a4 => sayDeeds_lk a1 a2 a4 (deeds_far ho a3) hn hz
set_option maxHeartbeats 3200000 in
theorem step_lk (h : LkIn base w0 S R D G pw told t wk) (x : Tst) (hz : told.length ≤ 600000000) :
 Calls Tryz.prog 25 #[.pointer (some ⟨R, 0, none⟩), tsV x] wk fun e w' => e = .returned (.tuple #[]) ∧ ∃ pw', LkIn base w0 S R D G pw' (told ++ (stepK t x).1) (stepK t x).2 w' := by
 have HC : Hid (inI (tDo t x).1) := no_in (tDo_code t x)
 have HI : Hid (LkIn base w0 S R D G pw told t (wk.alloc (tsObj x))) := h.after (below1 _ _)
 have HX : Hid (TsAt (wk.alloc (tsObj x)) wk.heap.size 0 x) := tsat_start wk x
 have HK : Hid ((stepK t x).1 = (if (tDo t x).1 = 0 then okW else noW (tDo t x).1) ∧ (stepK t x).2 = (tDo t x).2) := ⟨rfl, rfl⟩
 generalize wk.heap.size = B at *
 clear h
 obtain ⟨kind, w_, at_, many, text⟩ := x
 unfold tsObj at HI HX
 try dsimp only at HI HX
 go_enter Tryz.func25, Tryz.ntmps25
 go_wp2_with fail
 refine wp_region_lateD (fun wk => (wk.cell? ⟨R, 2, none⟩ = some (.pointer (some ⟨D, 0, none⟩)) ∧ R < wk.heap.size)) (fun wk => LkIn base w0 S R D G pw told t wk ∧ TsAt wk B 0 ⟨kind, w_, at_, many, text⟩) (fun i => i == 4 || i == 5) (fun _ => false) (by kernel_rfl) (by kernel_rfl) (by kernel_rfl) (fun _ h => h.1.cell) ⟨HI.out.after (Below.refl _ _).drew, HX.out.below (Below.refl _ _).drew⟩ ?_
 refine wlb (some 5) w0 rfl (.pointer (some ⟨R, 0, none⟩)) rfl (by kernel_rfl) (fun wk hwk => ?_) ?_
 ·generalize hA : Act.eval _ = ρ
  have s0 : ρ (.tmp 0) = .pointer (some ⟨R, 0, none⟩) := by rw [← hA]; kernel_rfl
  clear hA
  go_simp
 go_big_quiet_op
 refine wlb (some 6) w0 rfl (.pointer (some ⟨R, 0, none⟩)) rfl (by kernel_rfl) (fun wk hwk => ?_) ?_
 ·generalize hA : Act.eval _ = ρ
  have s5 : ρ (.tmp 5) = .pointer (some ⟨R, 0, none⟩) := by rw [← hA]; kernel_rfl
  clear hA
  go_simp
 go_big_quiet_op
 refine wlb (some 7) w0 rfl (.pointer (some ⟨R, 2, none⟩)) rfl (by kernel_rfl) (fun wk hwk => ?_) ?_
 ·generalize hA : Act.eval _ = ρ
  have s6 : ρ (.tmp 6) = .pointer (some ⟨R, 0, none⟩) := by rw [← hA]; kernel_rfl
  clear hA
  go_simp
 go_big_quiet_op
 refine wlb (some 8) w0 rfl (.pointer (some ⟨D, 0, none⟩)) rfl (by kernel_rfl) (fun wk hwk => ?_) ?_
 ·generalize hA : Act.eval _ = ρ
  have s7 : ρ (.tmp 7) = .pointer (some ⟨R, 2, none⟩) := by rw [← hA]; kernel_rfl
  clear hA
  obtain ⟨g1, hlt⟩ := hwk
  go_simp
 go_big_quiet_op
 refine wls (some 9) w0 rfl rfl (by kernel_rfl) (fun uu => uu = tsV ⟨kind, w_, at_, many, text⟩) (fun _ wk => (wk.cell? ⟨R, 2, none⟩ = some (.pointer (some ⟨D, 0, none⟩)) ∧ R < wk.heap.size)) (fun _ wk => LkIn base w0 S R D G pw told t wk) (⟨_, rfl⟩) (fun _ _ h => h) (fun _ _ h => h.cell) (fun wk hwk => ?_) (fun u9 hu9 => ?_)
 ·generalize hA : Act.eval _ = ρ
  have s3 : ρ (.tmp 3) = .pointer (some ⟨B, 0, none⟩) := by rw [← hA]; kernel_rfl
  clear hA
  go_simp
  obtain ⟨hwk, _, c0, c1, c2, c3, c4⟩ := hwk
  simp only [Nat.zero_add] at c0 c1 c2 c3 c4
  go_simp
  exact ⟨rfl, hwk⟩
 subst hu9
 go_big_quiet_op
 refine wls (some 10) w0 rfl rfl (by kernel_rfl) (fun uu => uu = .int .i64 (tDo t ⟨kind, w_, at_, many, text⟩).1) (fun _ wk => (wk.cell? ⟨R, 2, none⟩ = some (.pointer (some ⟨D, 0, none⟩)) ∧ R < wk.heap.size)) (fun _ wk => ∃ pw2, LkIn base w0 S R D G pw2 told (tDo t ⟨kind, w_, at_, many, text⟩).2 wk) (⟨_, rfl⟩) (fun _ _ h => h) (fun _ _ h => by obtain ⟨p2, h⟩ := h; exact h.cell) (fun wk hwk => ?_) (fun u9 hu9 => ?_)
 ·generalize hA : Act.eval _ = ρ
  have s8 : ρ (.tmp 8) = .pointer (some ⟨D, 0, none⟩) := by rw [← hA]; kernel_rfl
  have s9 : ρ (.tmp 9) = tsV ⟨kind, w_, at_, many, text⟩ := by rw [← hA]; kernel_rfl
  have sf : ρ (.func 47) = .func (.func 47) #[] #[] := by rw [← hA]; kernel_rfl
  clear hA
  go_simp
  refine (hwk.does ⟨kind, w_, at_, many, text⟩).mono ?_
  rintro e w7 ⟨rfl, h7⟩
  exact ⟨_, rfl, rfl, h7⟩
 subst hu9
 go_big_quiet_op
 refine wlb (some 4) w0 rfl (.int .i64 (tDo t ⟨kind, w_, at_, many, text⟩).1) rfl (by kernel_rfl) (fun wk hwk => ?_) ?_
 ·generalize hA : Act.eval _ = ρ
  have s10 : ρ (.tmp 10) = .int .i64 (tDo t ⟨kind, w_, at_, many, text⟩).1 := by rw [← hA]; kernel_rfl
  clear hA
  go_simp
 go_big_quiet_op
 refine wpLate_nil (fun w9 hw9 => ?_)
 have H9 : Hid (∃ pw2, LkIn base w0 S R D G pw2 told (tDo t ⟨kind, w_, at_, many, text⟩).2 w9) := hw9
 clear hw9 HI HX
 obtain ⟨c, hc⟩ : ∃ c, (tDo t ⟨kind, w_, at_, many, text⟩).1 = c := ⟨_, rfl⟩
 have HCC : Hid ((tDo t ⟨kind, w_, at_, many, text⟩).1 = c) := hc
 rw [hc]
 clear hc
 by_cases h0 : c = 0
 ·subst h0
  go_wp2_with fail
  obtain ⟨pw9, h9⟩ := H9.out
  refine (h9.says ⟨#[111, 107]⟩ (by show _ + 2 ≤ _; omega)).mono ?_
  rintro e w5 ⟨rfl, h5⟩
  have H5 : Hid (∃ pw', LkIn base w0 S R D G pw' (told ++ (stepK t ⟨kind, w_, at_, many, text⟩).1) (stepK t ⟨kind, w_, at_, many, text⟩).2 w5) := by
   refine ⟨pw9, ?_⟩
   rw [HK.out.1, HK.out.2, if_pos HCC.out]
   exact h5
  clear h5 h9 H9
  go_wp2_with fail
  go_end0
  exact ⟨rfl, H5.out⟩
 ·have h0b : (c == 0) = false := by simpa using h0
  have HCI : Hid (inI c) := by have := HC.out; rw [HCC.out] at this; exact this
  go_wp2_with fail
  obtain ⟨pw9, h9⟩ := H9.out
  refine (h9.nos c HCI.out (by omega)).mono ?_
  rintro e w5 ⟨rfl, h5⟩
  have H5 : Hid (∃ pw', LkIn base w0 S R D G pw' (told ++ (stepK t ⟨kind, w_, at_, many, text⟩).1) (stepK t ⟨kind, w_, at_, many, text⟩).2 w5) := by
   refine ⟨pw9, ?_⟩
   rw [HK.out.1, HK.out.2, if_neg (by rw [HCC.out]; exact h0), HCC.out]
   exact h5
  clear h5 h9 H9
  go_wp2_with fail
  (try simp only [Exit.inBlock, Exit.then]); refine bodyPost_ret (results_none rfl _ _ _) rfl ?_
  exact ⟨rfl, H5.out⟩
theorem LkIn.deed (h : LkIn base w0 S R D G pw told t wk) (n : Int) : Calls Tryz.prog 137 #[.pointer (some ⟨G, 0, none⟩), .int .i64 n] wk fun e w' => e = .returned (.tuple #[ddV (nthD t.b n), .bool (isD t.b n)]) ∧ Below wk.heap.size wk w' := by
 obtain ⟨tk, h1, h2⟩ := h.any
 obtain ⟨T, dv, lv, hl, _⟩ := h1.log
 exact deed_lg hl h2.ti.good.small n
theorem nth_deed {b : Bk} {k : Nat} (hk : k < b.ds.length) : nthD b ((k : Int) + 1) = b.ds[k] := by
 have hlen : b.len = (b.ds.length : Int) := rfl
 rw [nthD, if_pos (by omega), show ((k : Int) + 1 - 1).toNat = k by omega, List.getD_eq_getElem?_getD, List.getElem?_eq_getElem hk]
 rfl
set_option maxHeartbeats 3200000 in
theorem logged_lk (h : LkIn base w0 S R D G pw told t wk) :
 Calls Tryz.prog 82 #[.pointer (some ⟨R, 0, none⟩)] wk fun e w' => ∃ v, e = .returned v ∧ OwnD w' wk.heap.size v t.b.ds ∧ Below wk.heap.size wk w' := by
 have HA : Hid (LkIn base w0 S R D G pw told t wk) := h
 have hes : t.b.ds.length ≤ 1000 := by have := h.ti.good.small; omega
 obtain ⟨c2, hR⟩ := h.cell
 obtain ⟨c3, hD⟩ := h.log
 obtain ⟨n, hn⟩ : ∃ n, t.b.ds.length = n := ⟨_, rfl⟩
 have HN : Hid (t.b.ds.length = n) := hn
 rw [hn] at hes
 have hmk := run_makeDeeds n (by omega)
 have HO : Hid (OI wk (.slice (some ⟨wk.heap.size, 0, none⟩) n n) (t.b.ds.take 0 ++ List.replicate (t.b.ds.length - 0) zeroDeed) (wk.alloc (.cells (madeCells zeroDdV.cells (n * 7)) 124))) := by
  refine ⟨below1 _ _, ?_⟩
  have hz : (madeCells zeroDdV.cells (n * 7)).size = n * 7 := by rw [size_madeCells]
  have := World.ownsRow_lit (base := wk.heap.size) (size := 7) (e := 124) wk (madeCells zeroDdV.cells (n * 7)) n (Nat.le_refl _) (by unfold maxLen; omega) hz
  unfold OwnD
  rw [List.take_zero, List.nil_append, Nat.sub_zero, List.length_replicate, cellsD_zero, hn]
  exact this
 clear hn h
 go_enter Tryz.func82, Tryz.ntmps82
 go_wp2_with (go_at_call 85; refine HA.out.any.len.mono ?_; rintro e w1 ⟨rfl, hw1⟩; rw [hw1, HN.out]; clear hw1 w1)
 go_loopw [16] (fun i wr => ∃ k : Nat, k ≤ n ∧ i = .int .i64 k ∧ Hid (OI wk (.slice (some ⟨wk.heap.size, 0, none⟩) n n) (t.b.ds.take k ++ List.replicate (t.b.ds.length - k) zeroDeed) wr)) (fun i _ => n - (intOf i).toNat)
 case atStart => exact ⟨0, Nat.zero_le _, rfl, HO⟩
 case round =>
  obtain ⟨k, hk, rfl, HJ⟩ := hrel
  clear HO hmk c2 hR c3 hD
  by_cases hlt2 : k < n
  ·have hkl : k < t.b.ds.length := by rw [HN.out]; exact hlt2
   have HB : Hid (LkIn base w0 S R D G pw told t wr) := HA.out.after HJ.out.below
   obtain ⟨c2, hR⟩ := HB.out.cell
   obtain ⟨c3, hD⟩ := HB.out.log
   have HND : Hid (nthD t.b ((k : Int) + 1) = t.b.ds[k]) := nth_deed hkl
   have hki : (k : Int) < (n : Int) := by omega
   go_wp2_with fail
   refine (HB.out.deed _).mono ?_
   rintro e w5 ⟨rfl, hb⟩
   rw [HND.out]
   have H5 : Hid (OI wk (.slice (some ⟨wk.heap.size, 0, none⟩) n n) (t.b.ds.take k ++ List.replicate (t.b.ds.length - k) zeroDeed) w5) := HJ.out.after hb
   clear hb HJ HB c2 hR c3 hD
   have hml : (t.b.ds.take k ++ List.replicate (t.b.ds.length - k) zeroDeed).length = n := by rw [take_rep_len t.b.ds k (by omega), HN.out]
   obtain ⟨⟨u0, e0⟩, f0⟩ := ownD_spot H5.out.own hml (j := k * 7) (by omega)
   obtain ⟨⟨u1, e1⟩, f1⟩ := ownD_spot H5.out.own hml (j := k * 7 + 1) (by omega)
   obtain ⟨⟨u2, e2⟩, f2⟩ := ownD_spot H5.out.own hml (j := k * 7 + 2) (by omega)
   obtain ⟨⟨u3, e3⟩, f3⟩ := ownD_spot H5.out.own hml (j := k * 7 + 3) (by omega)
   obtain ⟨⟨u4, e4⟩, f4⟩ := ownD_spot H5.out.own hml (j := k * 7 + 4) (by omega)
   obtain ⟨⟨u5, e5⟩, f5⟩ := ownD_spot H5.out.own hml (j := k * 7 + 5) (by omega)
   obtain ⟨⟨u6, e6⟩, f6⟩ := ownD_spot H5.out.own hml (j := k * 7 + 6) (by omega)
   have hW : wk.heap.size < w5.heap.size := (World.ownsRow.lt H5.out.own wk.heap.size rfl).2
   have hNX := OI.put H5.out hml (i := k) (by rw [hml]; exact hlt2) t.b.ds[k]
   rw [take_rep_set t.b.ds hkl] at hNX
   have HNX : Hid _ := hNX
   clear hNX hml H5 HND
   generalize isD _ _ = ib at *
   generalize t.b.ds[k] = d at *
   obtain ⟨kind, by_, no, seen', at_, many, text⟩ := d
   simp only at HNX
   go_wp2
   go_roundw
   case rel => exact ⟨k + 1, by omega, by go_num, HNX⟩
   case measure => simp [intOf]; omega
  ·obtain rfl : k = n := by omega
   have HE : Hid (t.b.ds.take k ++ List.replicate (t.b.ds.length - k) zeroDeed = t.b.ds) := by show _ = _; rw [← HN.out, List.take_length, Nat.sub_self]; simp
   go_wp2
   go_ret
   exact ⟨_, rfl, by have := HJ.out.own; rw [HE.out] at this; exact this, HJ.out.below⟩
theorem by_in {b : Bk} (hg : Good b) (n : Int) : ∀ z ∈ (thS b n).map (·.by_), inI z := by
 intro z hz
 obtain ⟨x, hx, rfl⟩ := List.mem_map.1 hz
 have hm : x ∈ b.chars := by
  unfold thS at hx
  split at hx
  ·exact (List.mem_filter.1 hx).1
  ·cases hx
 have := (good_made hg).wr x hm
 unfold wrB at this
 rw [decide_eq_true_eq] at this
 unfold inI
 omega
set_option maxHeartbeats 3200000 in
theorem then_lk (h : LkIn base w0 S R D G pw told t wk) (n : Int) (hz : told.length ≤ 600000000) :
 Calls Tryz.prog 91 #[.pointer (some ⟨R, 0, none⟩), .int .i64 n] wk fun e w' => e = .returned (.tuple #[]) ∧ LkIn base w0 S R D G pw (told ++ thenW t n) t w' := by
 have HA : Hid (LkIn base w0 S R D G pw told t wk) := h
 have HBY : Hid (∀ z ∈ (thS t.b n).map (·.by_), inI z) := by_in h.ti.good n
 have HTL : Hid ((thS t.b n).length ≤ 200) := by show _ ≤ _; have := thS_le t.b n; have := small_chars (b := t.b); omega
 obtain ⟨c2, hR⟩ := h.cell
 obtain ⟨c3, hD⟩ := h.log
 clear h
 go_enter Tryz.func91, Tryz.ntmps91
 go_wp2_with fail
 clear c2 hR c3 hD
 refine (of_dk HA.out.any).mono ?_
 rintro e w1 ⟨P, rfl, hst, hb⟩
 have H1 : Hid (LkIn base w0 S R D G pw told t w1) := HA.out.after hb
 have HST : Hid (StTo w1 wk.heap.size P t.b) := hst
 clear hb hst HA
 go_wp2_with fail
 refine (text_st HST.out n).mono ?_
 rintro e w2 ⟨rfl, hb⟩
 have H2 : Hid (LkIn base w0 S R D G pw told t w2) := H1.out.after hb
 have HS2 : Hid (StTo w2 wk.heap.size P t.b) := HST.out.below hb
 clear hb HST H1
 cases hin : inS t.b n
 ·have HE : Hid (thenW t n = noW 5) := by show _ = _; unfold thenW; rw [hin]; rfl
  generalize strOfNums _ = sx at *
  go_wp2_with fail
  refine (H2.out.nos 5 (no_in sm_five) (by omega)).mono ?_
  rintro e w5 ⟨rfl, h5⟩
  have H5 : Hid (LkIn base w0 S R D G pw (told ++ thenW t n) t w5) := by show LkIn _ _ _ _ _ _ _ _ _ _; rw [HE.out]; exact h5
  clear h5 H2
  go_wp2_with fail
  (try simp only [Exit.inBlock, Exit.then]); refine bodyPost_ret (results_none rfl _ _ _) rfl ?_
  exact ⟨rfl, H5.out⟩
 ·have HE : Hid (thenW t n = textW ((thS t.b n).map (·.c)) ++ byW ((thS t.b n).map (·.by_))) := by show _ = _; unfold thenW; rw [hin]; rfl
  have HIN : Hid (inS t.b n = true) := hin
  clear hin
  have HSX : Hid (bytesW ((thS t.b n).map (·.c)) = (strOfNums ((thS t.b n).map (·.c))).data.toList) := rfl
  have HSZ : Hid ((strOfNums ((thS t.b n).map (·.c))).size ≤ 200) := by show _ ≤ _; rw [strOfNums_size, List.length_map]; exact HTL.out
  obtain ⟨sx, hsx⟩ : ∃ sx, strOfNums ((thS t.b n).map (·.c)) = sx := ⟨_, rfl⟩
  rw [hsx] at HSX HSZ ⊢
  clear hsx
  go_wp2_with fail
  obtain ⟨T, a1, a2, a3⟩ := H2.out.turn
  refine (by_own HS2.out n).mono ?_
  rintro e w3 ⟨bv, rfl, ⟨m, hm, hbv⟩, hb⟩
  rw [HIN.out]
  have HA1 : Hid (LkAt w3 base T R D told) := a1.below a2 hb
  have HA2 : Hid (base ≤ w3.heap.size ∧ ∀ k, T k → base ≤ k ∧ k < w3.heap.size) := held_below a2 hb
  have HA3 : Hid (∀ told' w', LkTo w3 base T R D told' w' → LkIn base w0 S R D G pw told' t w') := fun told' w' ht => a3 _ _ (LkTo.since hb ht a2)
  have HFR : Hid (∀ w', Kept T w3 w' → ILst w' bv ((thS t.b n).map (·.by_))) := fun w' hk => by
   have : OwnI w' m bv ((thS t.b n).map (·.by_)) := owns_block hbv (fun k e => by
    obtain ⟨h1, h2⟩ := World.ownsRow.lt hbv k e
    exact hk.block k h2 (fun e' => by have := (a2.2 k e').2; omega))
   exact this.ilst
  have HRD : Hid (Rdy base w3) := H2.out.rdy.after hb
  obtain ⟨ba, bc, rfl⟩ := hbv.ilst.len
  have HJN : Hid (told ++ (jnB [[116, 101, 120, 116], sx.data.toList] ++ [10]) ++ (([98, 121] ++ numsW ((thS t.b n).map (·.by_))) ++ [10]) = told ++ thenW t n) := by
   show _ = _
   rw [HE.out, text_join, HSX.out, by_join, List.append_assoc, List.append_assoc]
  have HLN : Hid (((thS t.b n).map (·.by_)).length ≤ 1000) := by show _ ≤ _; rw [List.length_map]; have := HTL.out; omega
  clear hb hbv hm a1 a2 a3 HS2 H2 HTL HSX HE
  generalize (thS t.b n).map (·.by_) = zs at *
  go_wp2_with fail
  refine (say_two HA1.out HA2.out ⟨#[116, 101, 120, 116]⟩ sx (by have := HSZ.out; show _ + (4 + _) ≤ _; omega) rfl).mono ?_
  rintro e w4 ⟨rfl, h4⟩
  have H4 : Hid (LkTo w3 base T R D (told ++ (jnB [[116, 101, 120, 116], sx.data.toList] ++ [10])) w4) := h4
  clear h4 HA1
  go_wp2_with fail
  refine (sayNumbers_lk H4.out.1 (H4.out.held HA2.out) (HRD.out.lk HA2.out H4.out) ⟨#[98, 121]⟩ (HFR.out w4 H4.out.2) HBY.out HLN.out (by decide) (by
   rw [join_two]
   have := HSZ.out
   simp only [List.length_append, List.length_cons, List.length_nil, size_list]
   omega)).mono ?_
  rintro e w5 ⟨rfl, h5⟩
  have H5 : Hid (LkIn base w0 S R D G pw (told ++ thenW t n) t w5) := by
   show LkIn _ _ _ _ _ _ _ _ _ _
   rw [← HJN.out]
   exact HA3.out _ _ (H4.out.trans h5 HA2.out)
  clear h5 H4
  go_wp2_with fail
  go_end0
  exact ⟨rfl, H5.out⟩
end
end Go.Proofs.YtcbnnfeelhlapadGreatDoor

/-
  A region that draws its order, whose last operation waits for all others, by chains as long as they are. No walk.
-/
namespace Go.Proofs.YtcbnnfeelhlapadGreatDoor
open Go
section
variable {P : Program} {ops : Array Oper} {md : Region.Mode} {fin : Nat → Bool}
def reachB (md : Region.Mode) (ops : Array Oper) : Nat → Nat → Nat → Bool
 | 0, _, _ => false
 | f + 1, i, j => match ops[i]? with
  | some o => o.after.any fun e => Region.binds md e && (decide (e.on = j) || reachB md ops f e.on j)
  | none => false
def finBx (md : Region.Mode) (ops : Array Oper) (fin : Nat → Bool) : Bool :=
 (List.range ops.size).all fun i => !fin i || (List.range ops.size).all fun j => decide (j = i) || reachB md ops ops.size i j
theorem reach_listed {listed : Array Bool} (hcl : Closed md ops listed) {j : Nat} : ∀ (f i : Nat), listed.getD i false = true → reachB md ops f i j = true → listed.getD j false = true
 | 0, _, _, h => by cases h
 | f + 1, i, hi, h => by
  unfold reachB at h
  cases ho : ops[i]? with
  | none => rw [ho] at h; cases h
  | some o =>
   rw [ho] at h
   obtain ⟨e, he, hb⟩ := Array.any_eq_true'.1 h
   simp only [Bool.and_eq_true, Bool.or_eq_true, decide_eq_true_eq] at hb
   have h3 := hcl i o ho hi e he hb.1
   rcases hb.2 with hb2 | hb2
   ·rw [hb2] at h3; exact h3
   ·exact reach_listed hcl f e.on h3 hb2
theorem finBx_ok (h : finBx md ops fin = true) : FinOk md ops fin := by
 intro i listed hcl hf hi
 obtain ⟨hun, oi, hoi, hall⟩ := mem_ready.1 hi
 have his : i < ops.size := (Array.getElem?_eq_some_iff.1 hoi).1
 unfold finBx at h
 rw [List.all_eq_true] at h
 have h1 := h i (List.mem_range.2 his)
 simp only [hf, Bool.not_true, Bool.false_or, List.all_eq_true, List.mem_range, Bool.or_eq_true, decide_eq_true_eq] at h1
 rw [List.eq_nil_iff_forall_not_mem]
 intro j hj
 obtain ⟨hjun, oj, hoj, _⟩ := mem_ready.1 hj
 have hjs : j < ops.size := (Array.getElem?_eq_some_iff.1 hoj).1
 by_cases hji : j = i
 ·subst hji
  rcases Nat.lt_or_ge j listed.size with h' | h'
  ·simp [h'] at hjun
  ·simp [Array.getElem?_eq_none h'] at hun
 ·rcases h1 j hjs with h2 | h2
  ·exact hji h2
  ·have h3 : listed.getD j false = true := by
    obtain ⟨f, hf'⟩ : ∃ f, ops.size = f + 1 := ⟨ops.size - 1, by omega⟩
    rw [hf'] at h2
    unfold reachB at h2
    rw [hoi] at h2
    obtain ⟨e, he, hb⟩ := Array.any_eq_true'.1 h2
    simp only [Bool.and_eq_true, Bool.or_eq_true, decide_eq_true_eq] at hb
    have h3' := hall e he hb.1
    rcases hb.2 with hb2 | hb2
    ·rw [hb2] at h3'; exact h3'
    ·exact reach_listed hcl f e.on h3' hb2
   rw [getD_set_ne true (Ne.symm hji)] at hjun
   rcases Nat.lt_or_ge j listed.size with h' | h'
   ·simp [h'] at h3 hjun; rw [h3] at hjun; cases hjun
   ·simp [Array.getElem?_eq_none h'] at h3
theorem wp_region_finX {id : Nat} {Q : Exit → Act → World → Prop} {a : Act} {w : World} (U : World → Prop) (sp fin : Nat → Bool) (D : World → Prop) (hok : finBx .any ops fin = true) (hm : P.follows .mixedOrders = true) (hB : Region.lexB .any ops = true) (hc : chainB .any ops sp = true)
 (hU : ∀ w, D w → U w) (hD : D w.drew) (h : wpFin P ops U sp fin (fun a' w' => Q .normal a' w') ops.toList 0 a D) : (Code.region id ops true).wp P Q a w := by
 simp only [Region.lexB, Bool.and_eq_true] at hB
 have hD' : D { w with drawn := w.drawn + 1 } := hD
 refine wp_region_any hm (wpAny_of_fin (U := U) (sp := sp) (fin := fin) (finBx_ok hok) (Q := fun a' w' => Q .normal a' w') (fun _ _ h => h) _ _ _ D _ (fun j oj hoj hl => by rcases Nat.lt_or_ge j ops.size with h' | h' <;> simp [h'] at hl) hU hD' ?_)
 have := wpAnyF_lex (md := .any) (hU _ hD') hB.1 hc ops.toList 0 a D (by simp) (by simp) (by rw [upto_zero]; simpa using hB.2) h
 rw [upto_zero] at this
 simpa using this
end
section
variable {P : Program} {ops : Array Oper} {U : World → Prop} {sp fin : Nat → Bool}
theorem wpFin_bigEnd {Q : Act → World → Prop} {a : Act} {o : Oper} {rest : List Oper} {k : Nat} {D : World → Prop} (d : Option Tmp) (w0 : World) (hs : sp k = true) (hf : fin k = true) (hg : o.guard = none) (hd : o.dst = d) (p : Value → Prop) (D' : Value → World → Prop) (hp : ∃ v, p v)
 (hrun : ∀ w, D w → spineUpon P (fun v w' => p v ∧ D' v w') ((execOp a.eval o).run P w)) (h : ∀ v, p v → Oper.quiet P ⟨d, .move (.const v), 0, "", #[], none⟩ a (fun _ => True) (fun a' => wpFin P ops U sp fin Q rest (k + 1) a' (D' v))) : wpFin P ops U sp fin Q (o :: rest) k a D :=
 wpFin_last hs hf hg p D' hp hrun fun v hv => by
  rw [hd]
  exact put_of_quiet w0 (h v hv)
end
end Go.Proofs.YtcbnnfeelhlapadGreatDoor
