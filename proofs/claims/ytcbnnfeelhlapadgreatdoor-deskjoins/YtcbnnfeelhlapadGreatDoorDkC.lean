/-
  Desks: spoken, step, Do.
-/
import Derived.Test.YtcbnnfeelhlapadGreatDoorDkB
import Derived.Lib.MinMax
namespace Go.Proofs.YtcbnnfeelhlapadGreatDoor
set_option maxRecDepth 20000
open Go Go.RowKit
set_option maxHeartbeats 3200000 in
theorem spoken_dk {w : World} {base D G : Nat} {pw : Nat → Nat} {t : Twn} {tk : Int → List (List Ch)} {S : Nat → Prop} (h : DkAt base D G pw t tk w S) (hr : TR t tk) {k : Nat} (hk : k < 4) {r : Wr} (he : t.ws k = some r) :
 Calls Tryz.prog 122 #[.pointer (some ⟨D, 0, none⟩), .pointer (some ⟨pw k, 0, none⟩)] w fun e w' => e = .returned (.int .i64 (leastFor t.b r.seen)) ∧ Below w.heap.size w w' := by
 have HR : Hid (TR t tk) := hr
 have HE : Hid (t.ws k = some r) := he
 have hseen := (tr_wok hr he).seen
 have hsml := hr.ti.good.small
 have HSL : Hid (r.seen + 0 ≤ t.b.ds.length) := by
  obtain ⟨_, c, hi⟩ := hr.ti.wi _ r he
  exact hi.seen
 have HI : Hid (DkIn base w S D G pw t tk (fun _ => Th.no base) w ∧ Below w.heap.size w w) := ⟨h.start, Below.refl _ _⟩
 have g0 := HI.out.1.cells.book
 have hlt := HI.out.1.cells.lt
 clear h hr he
 go_enter Tryz.func122, Tryz.ntmps122
 go_wp2_with fail
 obtain ⟨T, dv, lv, hl, _⟩ := HI.out.1.log
 refine (least_lg hl HR.out.ti.good).mono ?_
 rintro e w7 ⟨rfl, hb7⟩
 have HI7 : Hid (DkIn base w S D G pw t tk (fun _ => Th.no base) w7 ∧ Below w.heap.size w w7) := ⟨HI.out.1.after hb7, hb7⟩
 clear hb7 hl HI g0 hlt
 go_wp2_with fail
 obtain ⟨T, lv2, ov, tvs, hp, _⟩ := HI7.out.1.wr hk HE.out
 refine (seen_pw hp).mono ?_
 rintro e w8 ⟨rfl, rfl⟩
 clear hp
 go_wp2_with fail
 go_loopw [5, 6] (fun n i wr => ∃ j : Nat, r.seen + j ≤ t.b.ds.length ∧ i = .int .i64 ((r.seen : Int) + 1 + j) ∧ n = .int .i64 (spokeTo t.b r.seen j) ∧ Hid (DkIn base w S D G pw t tk (fun _ => Th.no base) wr ∧ Below w.heap.size w wr)) (fun _ i _ => t.b.ds.length + 1 - (intOf i).toNat)
 case atStart => exact ⟨0, HSL.out, by go_num, rfl, HI7.out⟩
 case round =>
  obtain ⟨j, hj, rfl, rfl, HW⟩ := hrel
  have g0 := HW.out.1.cells.book
  have hlt2 := HW.out.1.cells.lt
  go_wp2_with fail
  obtain ⟨T, dv, lv, hl, _⟩ := HW.out.1.log
  refine (len_lg hl).mono ?_
  rintro e w9 ⟨rfl, rfl⟩
  clear hl
  by_cases hlt : r.seen + j < t.b.ds.length
  ·have HLP : Hid (spokeTo t.b r.seen (j + 1) = min (spokeTo t.b r.seen j) t.b.ds[r.seen + j].seen) := spoke_succ hlt
   have HND : Hid (nthD t.b ((r.seen : Int) + 1 + j) = t.b.ds[r.seen + j] ∧ isD t.b ((r.seen : Int) + 1 + j) = true) := by
    have h1 := is_yes hlt
    rw [show (((r.seen + j : Nat) : Int) + 1) = (r.seen : Int) + 1 + j by omega] at h1
    exact ⟨h1.2, h1.1⟩
   generalize t.b.ds[r.seen + j] = d at *
   generalize spokeTo t.b r.seen j = n at *
   go_wp2_with fail
   obtain ⟨T, dv, lv, hl, _⟩ := HW.out.1.log
   refine (deed_lg hl HR.out.ti.good.small _).mono ?_
   rintro e w10 ⟨rfl, hb⟩
   rw [HND.out.1, HND.out.2]
   have HI11 : Hid (DkIn base w S D G pw t tk (fun _ => Th.no base) (w10.alloc (dObj d)) ∧ Below w.heap.size w (w10.alloc (dObj d))) := ⟨(HW.out.1.after hb).after (below1 _ _), bla (bla HW.out.2 hb) (below1 _ _)⟩
   clear hb hl g0
   go_wp2_with fail
   go_roundw
   case rel => exact ⟨j + 1, by omega, by go_num, by rw [HLP.out], HI11.out⟩
   case measure => simp [intOf]; omega
  ·have hjj : r.seen + j = t.b.ds.length := by omega
   rw [spoke_all (by omega)]
   obtain ⟨least, hcq⟩ : ∃ c, leastFor t.b r.seen = c := ⟨_, rfl⟩
   have HCQ : Hid (leastFor t.b r.seen = least) := hcq
   rw [hcq]
   clear hcq
   go_wp2_with fail
   go_ret
   exact ⟨by rw [HCQ.out]; rfl, HW.out.2⟩
set_option maxHeartbeats 3200000 in
theorem put_yes_dk {w : World} {base D G : Nat} {pw : Nat → Nat} {t : Twn} {tk : Int → List (List Ch)} {S : Nat → Prop} (h : DkAt base D G pw t tk w S) (hr : TR t tk) {k : Nat} (hk : k < 4) {r : Wr} (he : t.ws k = some r) (x : Tst) (hxw : x.w = k) (hkd : x.kind = 2) (hz : doC r.list ⟨1, r.me, r.next, r.seen, x.at_, 0, x.text⟩ openN = 0) :
 Calls Tryz.prog 67 #[.pointer (some ⟨D, 0, none⟩), tsV x] w fun e w' => e = .returned (.int .i64 0) ∧ DkTo base w S D G pw ⟨t.b, setF t.ws k (some (doesW r ⟨1, r.me, r.next, r.seen, x.at_, 0, x.text⟩))⟩ (setF tk k (tk k ++ [tookL r.list ⟨1, r.me, r.next, r.seen, x.at_, 0, x.text⟩])) w' := by
 have HI : Hid (DkIn base w S D G pw t tk (updT (fun _ => Th.no base) 0 (Th.st base w.heap.size x)) (w.alloc (tsObj x))) := h.start.step x 0
 have HL : Hid (base ≤ w.heap.size ∧ ∀ k, S k → base ≤ k ∧ k < w.heap.size) := h.held
 have HR : Hid (TR t tk) := hr
 have HE : Hid (t.ws k = some r) := he
 have HO : Hid (WOk r (tk k)) := tr_wok hr he
 have HZ : Hid (doC r.list ⟨1, r.me, r.next, r.seen, x.at_, 0, x.text⟩ openN = 0) := hz
 clear hz
 obtain ⟨kind, w_, at_, many, text⟩ := x
 obtain rfl : w_ = (k : Int) := hxw
 obtain rfl : kind = 2 := hkd
 have hk4 : (k : Int) < 4 := by omega
 have hhs : hasW t k = true := by unfold hasW; rw [he]; rfl
 clear h hr he
 go_enter Tryz.func67, Tryz.ntmps67
 go_wp2_with fail
 generalize World.alloc _ _ = w5 at *
 obtain ⟨_, c0, c1, c2, c3, c4⟩ := HI.out.stepAt
 simp only [Nat.zero_add] at c0 c1 c2 c3 c4
 have g1 := HI.out.cells.ws k hk
 have hlt := HI.out.cells.lt
 simp only [hhs, ptrOf, if_true] at g1
 go_quiet (fail)
 go_wp2_with fail
 have H6 : Hid (DkIn base w S D G pw t tk (updT (fun _ => Th.no base) 0 (Th.st base w.heap.size ⟨2, k, at_, many, text⟩)) (w5.drewN nq)) := HI.out.after (below_drewN (Below.refl _ _) nq)
 generalize w5.drewN nq = w6 at *
 clear HI c0 c1 c2 c3 c4 g1 hlt hhs
 obtain ⟨T, lv, ov, tvs, hp, hs⟩ := H6.out.wr hk HE.out
 refine (put_yes hp (by have := HO.out.len; omega) HO.out.fits (by have := HO.out.few; omega) (by have := HO.out.n2; omega) at_ text HZ.out).mono ?_
 rintro e w7 ⟨rfl, hto⟩
 have H7 : Hid (DkIn base w S D G pw ⟨t.b, setF t.ws k (some (doesW r ⟨1, r.me, r.next, r.seen, at_, 0, text⟩))⟩ (setF tk k (tk k ++ [tookL r.list ⟨1, r.me, r.next, r.seen, at_, 0, text⟩])) (updT (fun _ => Th.no base) 0 (Th.st base w.heap.size ⟨2, k, at_, many, text⟩)) w7) := hs (doesW r ⟨1, r.me, r.next, r.seen, at_, 0, text⟩) (tk k ++ [tookL r.list ⟨1, r.me, r.next, r.seen, at_, 0, text⟩]) w7 (by rw [does_list]; exact hto)
 clear hto hs hp H6
 go_wp2_with fail
 go_ret
 exact ⟨rfl, H7.out.done HL.out⟩
set_option maxHeartbeats 3200000 in
theorem put_no_dk {w : World} {base D G : Nat} {pw : Nat → Nat} {t : Twn} {tk : Int → List (List Ch)} {S : Nat → Prop} (h : DkAt base D G pw t tk w S) (hr : TR t tk) {k : Nat} (hk : k < 4) {r : Wr} (he : t.ws k = some r) (x : Tst) (hxw : x.w = k) (hkd : x.kind = 2) (hz : doC r.list ⟨1, r.me, r.next, r.seen, x.at_, 0, x.text⟩ openN ≠ 0) :
 Calls Tryz.prog 67 #[.pointer (some ⟨D, 0, none⟩), tsV x] w fun e w' => e = .returned (.int .i64 (doC r.list ⟨1, r.me, r.next, r.seen, x.at_, 0, x.text⟩ openN)) ∧ DkTo base w S D G pw t tk w' := by
 have HI : Hid (DkIn base w S D G pw t tk (updT (fun _ => Th.no base) 0 (Th.st base w.heap.size x)) (w.alloc (tsObj x))) := h.start.step x 0
 have HL : Hid (base ≤ w.heap.size ∧ ∀ k, S k → base ≤ k ∧ k < w.heap.size) := h.held
 have HR : Hid (TR t tk) := hr
 have HE : Hid (t.ws k = some r) := he
 have HO : Hid (WOk r (tk k)) := tr_wok hr he
 have HZ : Hid (doC r.list ⟨1, r.me, r.next, r.seen, x.at_, 0, x.text⟩ openN ≠ 0) := hz
 clear hz
 obtain ⟨kind, w_, at_, many, text⟩ := x
 obtain rfl : w_ = (k : Int) := hxw
 obtain rfl : kind = 2 := hkd
 have hk4 : (k : Int) < 4 := by omega
 have hhs : hasW t k = true := by unfold hasW; rw [he]; rfl
 clear h hr he
 go_enter Tryz.func67, Tryz.ntmps67
 go_wp2_with fail
 generalize World.alloc _ _ = w5 at *
 obtain ⟨_, c0, c1, c2, c3, c4⟩ := HI.out.stepAt
 simp only [Nat.zero_add] at c0 c1 c2 c3 c4
 have g1 := HI.out.cells.ws k hk
 have hlt := HI.out.cells.lt
 simp only [hhs, ptrOf, if_true] at g1
 go_quiet (fail)
 go_wp2_with fail
 have H6 : Hid (DkIn base w S D G pw t tk (updT (fun _ => Th.no base) 0 (Th.st base w.heap.size ⟨2, k, at_, many, text⟩)) (w5.drewN nq)) := HI.out.after (below_drewN (Below.refl _ _) nq)
 generalize w5.drewN nq = w6 at *
 clear HI c0 c1 c2 c3 c4 g1 hlt hhs
 obtain ⟨T, lv, ov, tvs, hp, hs⟩ := H6.out.wr hk HE.out
 refine (put_no hp (by have := HO.out.len; omega) HO.out.fits at_ text HZ.out).mono ?_
 rintro e w7 ⟨rfl, hb⟩
 have H7 : Hid (DkIn base w S D G pw t tk (updT (fun _ => Th.no base) 0 (Th.st base w.heap.size ⟨2, k, at_, many, text⟩)) w7) := H6.out.after hb
 clear hb hs hp H6
 obtain ⟨cq, hcq⟩ : ∃ c, doC r.list ⟨1, r.me, r.next, r.seen, at_, 0, text⟩ openN = c := ⟨_, rfl⟩
 have HCQ : Hid (doC r.list ⟨1, r.me, r.next, r.seen, at_, 0, text⟩ openN = cq) := hcq
 rw [hcq]
 clear hcq
 go_wp2_with fail
 go_ret
 exact ⟨by rw [HCQ.out]; rfl, H7.out.done HL.out⟩
set_option maxHeartbeats 3200000 in
theorem take_yes_dk {w : World} {base D G : Nat} {pw : Nat → Nat} {t : Twn} {tk : Int → List (List Ch)} {S : Nat → Prop} (h : DkAt base D G pw t tk w S) (hr : TR t tk) {k : Nat} (hk : k < 4) {r : Wr} (he : t.ws k = some r) (x : Tst) (hxw : x.w = k) (hkd : x.kind = 3) (hz : doC r.list ⟨2, r.me, r.next, r.seen, x.at_, x.many, ⟨#[]⟩⟩ openN = 0) :
 Calls Tryz.prog 67 #[.pointer (some ⟨D, 0, none⟩), tsV x] w fun e w' => e = .returned (.int .i64 0) ∧ DkTo base w S D G pw ⟨t.b, setF t.ws k (some (doesW r ⟨2, r.me, r.next, r.seen, x.at_, x.many, ⟨#[]⟩⟩))⟩ (setF tk k (tk k ++ [tookL r.list ⟨2, r.me, r.next, r.seen, x.at_, x.many, ⟨#[]⟩⟩])) w' := by
 have HI : Hid (DkIn base w S D G pw t tk (updT (fun _ => Th.no base) 0 (Th.st base w.heap.size x)) (w.alloc (tsObj x))) := h.start.step x 0
 have HL : Hid (base ≤ w.heap.size ∧ ∀ k, S k → base ≤ k ∧ k < w.heap.size) := h.held
 have HR : Hid (TR t tk) := hr
 have HE : Hid (t.ws k = some r) := he
 have HO : Hid (WOk r (tk k)) := tr_wok hr he
 have HZ : Hid (doC r.list ⟨2, r.me, r.next, r.seen, x.at_, x.many, ⟨#[]⟩⟩ openN = 0) := hz
 clear hz
 obtain ⟨kind, w_, at_, many, text⟩ := x
 obtain rfl : w_ = (k : Int) := hxw
 obtain rfl : kind = 3 := hkd
 have hk4 : (k : Int) < 4 := by omega
 have hhs : hasW t k = true := by unfold hasW; rw [he]; rfl
 clear h hr he
 go_enter Tryz.func67, Tryz.ntmps67
 go_wp2_with fail
 generalize World.alloc _ _ = w5 at *
 obtain ⟨_, c0, c1, c2, c3, c4⟩ := HI.out.stepAt
 simp only [Nat.zero_add] at c0 c1 c2 c3 c4
 have g1 := HI.out.cells.ws k hk
 have hlt := HI.out.cells.lt
 simp only [hhs, ptrOf, if_true] at g1
 go_quiet (fail)
 go_wp2_with fail
 have H6 : Hid (DkIn base w S D G pw t tk (updT (fun _ => Th.no base) 0 (Th.st base w.heap.size ⟨3, k, at_, many, text⟩)) (w5.drewN nq)) := HI.out.after (below_drewN (Below.refl _ _) nq)
 generalize w5.drewN nq = w6 at *
 clear HI c0 c1 c2 c3 c4 g1 hlt hhs
 obtain ⟨T, lv, ov, tvs, hp, hs⟩ := H6.out.wr hk HE.out
 refine (take_yes hp (by have := HO.out.len; omega) HO.out.fits (by have := HO.out.few; omega) (by have := HO.out.n2; omega) at_ many HZ.out).mono ?_
 rintro e w7 ⟨rfl, hto⟩
 have H7 : Hid (DkIn base w S D G pw ⟨t.b, setF t.ws k (some (doesW r ⟨2, r.me, r.next, r.seen, at_, many, ⟨#[]⟩⟩))⟩ (setF tk k (tk k ++ [tookL r.list ⟨2, r.me, r.next, r.seen, at_, many, ⟨#[]⟩⟩])) (updT (fun _ => Th.no base) 0 (Th.st base w.heap.size ⟨3, k, at_, many, text⟩)) w7) := hs (doesW r ⟨2, r.me, r.next, r.seen, at_, many, ⟨#[]⟩⟩) (tk k ++ [tookL r.list ⟨2, r.me, r.next, r.seen, at_, many, ⟨#[]⟩⟩]) w7 (by rw [does_list]; exact hto)
 clear hto hs hp H6
 go_wp2_with fail
 go_ret
 exact ⟨rfl, H7.out.done HL.out⟩
set_option maxHeartbeats 3200000 in
theorem take_no_dk {w : World} {base D G : Nat} {pw : Nat → Nat} {t : Twn} {tk : Int → List (List Ch)} {S : Nat → Prop} (h : DkAt base D G pw t tk w S) (hr : TR t tk) {k : Nat} (hk : k < 4) {r : Wr} (he : t.ws k = some r) (x : Tst) (hxw : x.w = k) (hkd : x.kind = 3) (hz : doC r.list ⟨2, r.me, r.next, r.seen, x.at_, x.many, ⟨#[]⟩⟩ openN ≠ 0) :
 Calls Tryz.prog 67 #[.pointer (some ⟨D, 0, none⟩), tsV x] w fun e w' => e = .returned (.int .i64 (doC r.list ⟨2, r.me, r.next, r.seen, x.at_, x.many, ⟨#[]⟩⟩ openN)) ∧ DkTo base w S D G pw t tk w' := by
 have HI : Hid (DkIn base w S D G pw t tk (updT (fun _ => Th.no base) 0 (Th.st base w.heap.size x)) (w.alloc (tsObj x))) := h.start.step x 0
 have HL : Hid (base ≤ w.heap.size ∧ ∀ k, S k → base ≤ k ∧ k < w.heap.size) := h.held
 have HR : Hid (TR t tk) := hr
 have HE : Hid (t.ws k = some r) := he
 have HO : Hid (WOk r (tk k)) := tr_wok hr he
 have HZ : Hid (doC r.list ⟨2, r.me, r.next, r.seen, x.at_, x.many, ⟨#[]⟩⟩ openN ≠ 0) := hz
 clear hz
 obtain ⟨kind, w_, at_, many, text⟩ := x
 obtain rfl : w_ = (k : Int) := hxw
 obtain rfl : kind = 3 := hkd
 have hk4 : (k : Int) < 4 := by omega
 have hhs : hasW t k = true := by unfold hasW; rw [he]; rfl
 clear h hr he
 go_enter Tryz.func67, Tryz.ntmps67
 go_wp2_with fail
 generalize World.alloc _ _ = w5 at *
 obtain ⟨_, c0, c1, c2, c3, c4⟩ := HI.out.stepAt
 simp only [Nat.zero_add] at c0 c1 c2 c3 c4
 have g1 := HI.out.cells.ws k hk
 have hlt := HI.out.cells.lt
 simp only [hhs, ptrOf, if_true] at g1
 go_quiet (fail)
 go_wp2_with fail
 have H6 : Hid (DkIn base w S D G pw t tk (updT (fun _ => Th.no base) 0 (Th.st base w.heap.size ⟨3, k, at_, many, text⟩)) (w5.drewN nq)) := HI.out.after (below_drewN (Below.refl _ _) nq)
 generalize w5.drewN nq = w6 at *
 clear HI c0 c1 c2 c3 c4 g1 hlt hhs
 obtain ⟨T, lv, ov, tvs, hp, hs⟩ := H6.out.wr hk HE.out
 refine (take_no hp (by have := HO.out.len; omega) HO.out.fits at_ many HZ.out).mono ?_
 rintro e w7 ⟨rfl, hb⟩
 have H7 : Hid (DkIn base w S D G pw t tk (updT (fun _ => Th.no base) 0 (Th.st base w.heap.size ⟨3, k, at_, many, text⟩)) w7) := H6.out.after hb
 clear hb hs hp H6
 obtain ⟨cq, hcq⟩ : ∃ c, doC r.list ⟨2, r.me, r.next, r.seen, at_, many, ⟨#[]⟩⟩ openN = c := ⟨_, rfl⟩
 have HCQ : Hid (doC r.list ⟨2, r.me, r.next, r.seen, at_, many, ⟨#[]⟩⟩ openN = cq) := hcq
 rw [hcq]
 clear hcq
 go_wp2_with fail
 go_ret
 exact ⟨by rw [HCQ.out]; rfl, H7.out.done HL.out⟩
set_option maxHeartbeats 3200000 in
theorem ssend_no_dk {w : World} {base D G : Nat} {pw : Nat → Nat} {t : Twn} {tk : Int → List (List Ch)} {S : Nat → Prop} (h : DkAt base D G pw t tk w S) (hr : TR t tk) {k : Nat} (hk : k < 4) {r : Wr} (he : t.ws k = some r) (x : Tst) (hxw : x.w = k) (hkd : x.kind = 4) (hn : r.opens[r.sent]? = none) :
 Calls Tryz.prog 67 #[.pointer (some ⟨D, 0, none⟩), tsV x] w fun e w' => e = .returned (.int .i64 5) ∧ DkTo base w S D G pw t tk w' := by
 have HI : Hid (DkIn base w S D G pw t tk (updT (fun _ => Th.no base) 0 (Th.st base w.heap.size x)) (w.alloc (tsObj x))) := h.start.step x 0
 have HL : Hid (base ≤ w.heap.size ∧ ∀ k, S k → base ≤ k ∧ k < w.heap.size) := h.held
 have HR : Hid (TR t tk) := hr
 have HE : Hid (t.ws k = some r) := he
 have HO : Hid (WOk r (tk k)) := tr_wok hr he
 have HN : Hid (r.opens[r.sent]? = none) := hn
 clear hn
 obtain ⟨kind, w_, at_, many, text⟩ := x
 obtain rfl : w_ = (k : Int) := hxw
 obtain rfl : kind = 4 := hkd
 have hk4 : (k : Int) < 4 := by omega
 have hhs : hasW t k = true := by unfold hasW; rw [he]; rfl
 clear h hr he
 go_enter Tryz.func67, Tryz.ntmps67
 go_wp2_with fail
 generalize World.alloc _ _ = w5 at *
 obtain ⟨_, c0, c1, c2, c3, c4⟩ := HI.out.stepAt
 simp only [Nat.zero_add] at c0 c1 c2 c3 c4
 have g1 := HI.out.cells.ws k hk
 have hlt := HI.out.cells.lt
 simp only [hhs, ptrOf, if_true] at g1
 go_quiet (fail)
 go_wp2_with fail
 have H6 : Hid (DkIn base w S D G pw t tk (updT (fun _ => Th.no base) 0 (Th.st base w.heap.size ⟨4, k, at_, many, text⟩)) (w5.drewN nq)) := HI.out.after (below_drewN (Below.refl _ _) nq)
 generalize w5.drewN nq = w6 at *
 clear HI c0 c1 c2 c3 c4 g1 hlt hhs
 obtain ⟨T, ha, hs⟩ := H6.out.call
 refine (send_no_dk ha HR.out hk HE.out HN.out).mono ?_
 rintro e w7 ⟨rfl, hto⟩
 have H7 : Hid (DkIn base w S D G pw t tk (updT (fun _ => Th.no base) 0 (Th.st base w.heap.size ⟨4, k, at_, many, text⟩)) w7) := hs _ _ _ _ hto
 clear hto hs ha H6
 go_wp2_with fail
 go_ret
 exact ⟨rfl, H7.out.done HL.out⟩
set_option maxHeartbeats 3200000 in
theorem ssend_yes_dk {w : World} {base D G : Nat} {pw : Nat → Nat} {t : Twn} {tk : Int → List (List Ch)} {S : Nat → Prop} (h : DkAt base D G pw t tk w S) (hr : TR t tk) {k : Nat} (hk : k < 4) {r : Wr} (he : t.ws k = some r) (x : Tst) (hxw : x.w = k) (hkd : x.kind = 4) {d : Dd} (hn : r.opens[r.sent]? = some d) (hcc : comesC t.b d = 0) :
 Calls Tryz.prog 67 #[.pointer (some ⟨D, 0, none⟩), tsV x] w fun e w' => e = .returned (.int .i64 0) ∧ DkTo base w S D G pw ⟨comesB t.b d, setF t.ws k (some (sentW r))⟩ tk w' := by
 have HI : Hid (DkIn base w S D G pw t tk (updT (fun _ => Th.no base) 0 (Th.st base w.heap.size x)) (w.alloc (tsObj x))) := h.start.step x 0
 have HL : Hid (base ≤ w.heap.size ∧ ∀ k, S k → base ≤ k ∧ k < w.heap.size) := h.held
 have HR : Hid (TR t tk) := hr
 have HE : Hid (t.ws k = some r) := he
 have HO : Hid (WOk r (tk k)) := tr_wok hr he
 have HN : Hid (r.opens[r.sent]? = some d) := hn
 have HCC : Hid (comesC t.b d = 0) := hcc
 clear hn hcc
 obtain ⟨kind, w_, at_, many, text⟩ := x
 obtain rfl : w_ = (k : Int) := hxw
 obtain rfl : kind = 4 := hkd
 have hk4 : (k : Int) < 4 := by omega
 have hhs : hasW t k = true := by unfold hasW; rw [he]; rfl
 clear h hr he
 go_enter Tryz.func67, Tryz.ntmps67
 go_wp2_with fail
 generalize World.alloc _ _ = w5 at *
 obtain ⟨_, c0, c1, c2, c3, c4⟩ := HI.out.stepAt
 simp only [Nat.zero_add] at c0 c1 c2 c3 c4
 have g1 := HI.out.cells.ws k hk
 have hlt := HI.out.cells.lt
 simp only [hhs, ptrOf, if_true] at g1
 go_quiet (fail)
 go_wp2_with fail
 have H6 : Hid (DkIn base w S D G pw t tk (updT (fun _ => Th.no base) 0 (Th.st base w.heap.size ⟨4, k, at_, many, text⟩)) (w5.drewN nq)) := HI.out.after (below_drewN (Below.refl _ _) nq)
 generalize w5.drewN nq = w6 at *
 clear HI c0 c1 c2 c3 c4 g1 hlt hhs
 obtain ⟨T, ha, hs⟩ := H6.out.call
 refine (send_yes_dk ha HR.out hk HE.out HN.out HCC.out).mono ?_
 rintro e w7 ⟨rfl, hto⟩
 have H7 : Hid (DkIn base w S D G pw ⟨comesB t.b d, setF t.ws k (some (sentW r))⟩ tk (updT (fun _ => Th.no base) 0 (Th.st base w.heap.size ⟨4, k, at_, many, text⟩)) w7) := hs _ _ _ _ hto
 clear hto hs ha H6
 go_wp2_with fail
 go_ret
 exact ⟨rfl, H7.out.done HL.out⟩
set_option maxHeartbeats 3200000 in
theorem ssend_off_dk {w : World} {base D G : Nat} {pw : Nat → Nat} {t : Twn} {tk : Int → List (List Ch)} {S : Nat → Prop} (h : DkAt base D G pw t tk w S) (hr : TR t tk) {k : Nat} (hk : k < 4) {r : Wr} (he : t.ws k = some r) (x : Tst) (hxw : x.w = k) (hkd : x.kind = 4) {d : Dd} (hn : r.opens[r.sent]? = some d) (hcc : comesC t.b d ≠ 0) :
 Calls Tryz.prog 67 #[.pointer (some ⟨D, 0, none⟩), tsV x] w fun e w' => e = .returned (.int .i64 (comesC t.b d)) ∧ DkTo base w S D G pw (dropT t k) tk w' := by
 have HI : Hid (DkIn base w S D G pw t tk (updT (fun _ => Th.no base) 0 (Th.st base w.heap.size x)) (w.alloc (tsObj x))) := h.start.step x 0
 have HL : Hid (base ≤ w.heap.size ∧ ∀ k, S k → base ≤ k ∧ k < w.heap.size) := h.held
 have HR : Hid (TR t tk) := hr
 have HE : Hid (t.ws k = some r) := he
 have HO : Hid (WOk r (tk k)) := tr_wok hr he
 have HN : Hid (r.opens[r.sent]? = some d) := hn
 have HCC : Hid (comesC t.b d ≠ 0) := hcc
 clear hn hcc
 obtain ⟨kind, w_, at_, many, text⟩ := x
 obtain rfl : w_ = (k : Int) := hxw
 obtain rfl : kind = 4 := hkd
 have hk4 : (k : Int) < 4 := by omega
 have hhs : hasW t k = true := by unfold hasW; rw [he]; rfl
 clear h hr he
 go_enter Tryz.func67, Tryz.ntmps67
 go_wp2_with fail
 generalize World.alloc _ _ = w5 at *
 obtain ⟨_, c0, c1, c2, c3, c4⟩ := HI.out.stepAt
 simp only [Nat.zero_add] at c0 c1 c2 c3 c4
 have g1 := HI.out.cells.ws k hk
 have hlt := HI.out.cells.lt
 simp only [hhs, ptrOf, if_true] at g1
 go_quiet (fail)
 go_wp2_with fail
 have H6 : Hid (DkIn base w S D G pw t tk (updT (fun _ => Th.no base) 0 (Th.st base w.heap.size ⟨4, k, at_, many, text⟩)) (w5.drewN nq)) := HI.out.after (below_drewN (Below.refl _ _) nq)
 generalize w5.drewN nq = w6 at *
 clear HI c0 c1 c2 c3 c4 g1 hlt hhs
 obtain ⟨T, ha, hs⟩ := H6.out.call
 refine (send_off_dk ha HR.out hk HE.out HN.out HCC.out).mono ?_
 rintro e w7 ⟨rfl, hto⟩
 have H7 : Hid (DkIn base w S D G pw (dropT t k) tk (updT (fun _ => Th.no base) 0 (Th.st base w.heap.size ⟨4, k, at_, many, text⟩)) w7) := hs _ _ _ _ hto
 clear hto hs ha H6
 obtain ⟨cq, hcq⟩ : ∃ c, comesC t.b d = c := ⟨_, rfl⟩
 have HCQ : Hid (comesC t.b d = cq) := hcq
 rw [hcq]
 clear hcq
 go_wp2_with fail
 go_ret
 exact ⟨by rw [HCQ.out]; rfl, H7.out.done HL.out⟩
set_option maxHeartbeats 3200000 in
theorem shear_no_dk {w : World} {base D G : Nat} {pw : Nat → Nat} {t : Twn} {tk : Int → List (List Ch)} {S : Nat → Prop} (h : DkAt base D G pw t tk w S) (hr : TR t tk) {k : Nat} (hk : k < 4) {r : Wr} (he : t.ws k = some r) (x : Tst) (hxw : x.w = k) (hkd : x.kind = 5) (hn : t.b.ds[r.seen]? = none) :
 Calls Tryz.prog 67 #[.pointer (some ⟨D, 0, none⟩), tsV x] w fun e w' => e = .returned (.int .i64 5) ∧ DkTo base w S D G pw t tk w' := by
 have HI : Hid (DkIn base w S D G pw t tk (updT (fun _ => Th.no base) 0 (Th.st base w.heap.size x)) (w.alloc (tsObj x))) := h.start.step x 0
 have HL : Hid (base ≤ w.heap.size ∧ ∀ k, S k → base ≤ k ∧ k < w.heap.size) := h.held
 have HR : Hid (TR t tk) := hr
 have HE : Hid (t.ws k = some r) := he
 have HO : Hid (WOk r (tk k)) := tr_wok hr he
 have HN : Hid (t.b.ds[r.seen]? = none) := hn
 clear hn
 obtain ⟨kind, w_, at_, many, text⟩ := x
 obtain rfl : w_ = (k : Int) := hxw
 obtain rfl : kind = 5 := hkd
 have hk4 : (k : Int) < 4 := by omega
 have hhs : hasW t k = true := by unfold hasW; rw [he]; rfl
 clear h hr he
 go_enter Tryz.func67, Tryz.ntmps67
 go_wp2_with fail
 generalize World.alloc _ _ = w5 at *
 obtain ⟨_, c0, c1, c2, c3, c4⟩ := HI.out.stepAt
 simp only [Nat.zero_add] at c0 c1 c2 c3 c4
 have g1 := HI.out.cells.ws k hk
 have hlt := HI.out.cells.lt
 simp only [hhs, ptrOf, if_true] at g1
 go_quiet (fail)
 go_wp2_with fail
 have H6 : Hid (DkIn base w S D G pw t tk (updT (fun _ => Th.no base) 0 (Th.st base w.heap.size ⟨5, k, at_, many, text⟩)) (w5.drewN nq)) := HI.out.after (below_drewN (Below.refl _ _) nq)
 generalize w5.drewN nq = w6 at *
 clear HI c0 c1 c2 c3 c4 g1 hlt hhs
 obtain ⟨T, ha, hs⟩ := H6.out.call
 refine (hear_no_dk ha HR.out hk HE.out HN.out).mono ?_
 rintro e w7 ⟨rfl, hto⟩
 have H7 : Hid (DkIn base w S D G pw t tk (updT (fun _ => Th.no base) 0 (Th.st base w.heap.size ⟨5, k, at_, many, text⟩)) w7) := hs _ _ _ _ hto
 clear hto hs ha H6
 go_wp2_with fail
 go_ret
 exact ⟨rfl, H7.out.done HL.out⟩
set_option maxHeartbeats 3200000 in
theorem shear_off_dk {w : World} {base D G : Nat} {pw : Nat → Nat} {t : Twn} {tk : Int → List (List Ch)} {S : Nat → Prop} (h : DkAt base D G pw t tk w S) (hr : TR t tk) {k : Nat} (hk : k < 4) {r : Wr} (he : t.ws k = some r) (x : Tst) (hxw : x.w = k) (hkd : x.kind = 5) {d : Dd} (hn : t.b.ds[r.seen]? = some d) (hcc : hearC r d ≠ 0) :
 Calls Tryz.prog 67 #[.pointer (some ⟨D, 0, none⟩), tsV x] w fun e w' => e = .returned (.int .i64 (hearC r d)) ∧ DkTo base w S D G pw (dropT t k) tk w' := by
 have HI : Hid (DkIn base w S D G pw t tk (updT (fun _ => Th.no base) 0 (Th.st base w.heap.size x)) (w.alloc (tsObj x))) := h.start.step x 0
 have HL : Hid (base ≤ w.heap.size ∧ ∀ k, S k → base ≤ k ∧ k < w.heap.size) := h.held
 have HR : Hid (TR t tk) := hr
 have HE : Hid (t.ws k = some r) := he
 have HO : Hid (WOk r (tk k)) := tr_wok hr he
 have HN : Hid (t.b.ds[r.seen]? = some d) := hn
 have HCC : Hid (hearC r d ≠ 0) := hcc
 clear hn hcc
 obtain ⟨kind, w_, at_, many, text⟩ := x
 obtain rfl : w_ = (k : Int) := hxw
 obtain rfl : kind = 5 := hkd
 have hk4 : (k : Int) < 4 := by omega
 have hhs : hasW t k = true := by unfold hasW; rw [he]; rfl
 clear h hr he
 go_enter Tryz.func67, Tryz.ntmps67
 go_wp2_with fail
 generalize World.alloc _ _ = w5 at *
 obtain ⟨_, c0, c1, c2, c3, c4⟩ := HI.out.stepAt
 simp only [Nat.zero_add] at c0 c1 c2 c3 c4
 have g1 := HI.out.cells.ws k hk
 have hlt := HI.out.cells.lt
 simp only [hhs, ptrOf, if_true] at g1
 go_quiet (fail)
 go_wp2_with fail
 have H6 : Hid (DkIn base w S D G pw t tk (updT (fun _ => Th.no base) 0 (Th.st base w.heap.size ⟨5, k, at_, many, text⟩)) (w5.drewN nq)) := HI.out.after (below_drewN (Below.refl _ _) nq)
 generalize w5.drewN nq = w6 at *
 clear HI c0 c1 c2 c3 c4 g1 hlt hhs
 obtain ⟨T, ha, hs⟩ := H6.out.call
 refine (hear_off_dk ha HR.out hk HE.out HN.out HCC.out).mono ?_
 rintro e w7 ⟨rfl, hto⟩
 have H7 : Hid (DkIn base w S D G pw (dropT t k) tk (updT (fun _ => Th.no base) 0 (Th.st base w.heap.size ⟨5, k, at_, many, text⟩)) w7) := hs _ _ _ _ hto
 clear hto hs ha H6
 obtain ⟨cq, hcq⟩ : ∃ c, hearC r d = c := ⟨_, rfl⟩
 have HCQ : Hid (hearC r d = cq) := hcq
 rw [hcq]
 clear hcq
 go_wp2_with fail
 go_ret
 exact ⟨by rw [HCQ.out]; rfl, H7.out.done HL.out⟩
set_option maxHeartbeats 3200000 in
theorem shear_yes_dk {w : World} {base D G : Nat} {pw : Nat → Nat} {t : Twn} {tk : Int → List (List Ch)} {S : Nat → Prop} (h : DkAt base D G pw t tk w S) (hr : TR t tk) {k : Nat} (hk : k < 4) {r : Wr} (he : t.ws k = some r) (x : Tst) (hxw : x.w = k) (hkd : x.kind = 5) {d : Dd} (hn : t.b.ds[r.seen]? = some d) (hcc : hearC r d = 0) :
 Calls Tryz.prog 67 #[.pointer (some ⟨D, 0, none⟩), tsV x] w fun e w' => e = .returned (.int .i64 (saysC t.b k (hearW r d).least)) ∧ DkTo base w S D G pw ⟨saysB t.b k (hearW r d).least, setF t.ws k (some (hearW r d))⟩ (setF tk k (heardK r d (tk k))) w' := by
 have HI : Hid (DkIn base w S D G pw t tk (updT (fun _ => Th.no base) 0 (Th.st base w.heap.size x)) (w.alloc (tsObj x))) := h.start.step x 0
 have HL : Hid (base ≤ w.heap.size ∧ ∀ k, S k → base ≤ k ∧ k < w.heap.size) := h.held
 have HR : Hid (TR t tk) := hr
 have HE : Hid (t.ws k = some r) := he
 have HO : Hid (WOk r (tk k)) := tr_wok hr he
 have HN : Hid (t.b.ds[r.seen]? = some d) := hn
 have HCC : Hid (hearC r d = 0) := hcc
 clear hn hcc
 obtain ⟨kind, w_, at_, many, text⟩ := x
 obtain rfl : w_ = (k : Int) := hxw
 obtain rfl : kind = 5 := hkd
 have hk4 : (k : Int) < 4 := by omega
 have hhs : hasW t k = true := by unfold hasW; rw [he]; rfl
 clear h hr he
 go_enter Tryz.func67, Tryz.ntmps67
 go_wp2_with fail
 generalize World.alloc _ _ = w5 at *
 obtain ⟨_, c0, c1, c2, c3, c4⟩ := HI.out.stepAt
 simp only [Nat.zero_add] at c0 c1 c2 c3 c4
 have g1 := HI.out.cells.ws k hk
 have hlt := HI.out.cells.lt
 simp only [hhs, ptrOf, if_true] at g1
 go_quiet (fail)
 go_wp2_with fail
 have H6 : Hid (DkIn base w S D G pw t tk (updT (fun _ => Th.no base) 0 (Th.st base w.heap.size ⟨5, k, at_, many, text⟩)) (w5.drewN nq)) := HI.out.after (below_drewN (Below.refl _ _) nq)
 generalize w5.drewN nq = w6 at *
 clear HI c0 c1 c2 c3 c4 g1 hlt hhs
 obtain ⟨T, ha, hs⟩ := H6.out.call
 refine (hear_yes_dk ha HR.out hk HE.out HN.out HCC.out).mono ?_
 rintro e w7 ⟨rfl, hto⟩
 have H7 : Hid (DkIn base w S D G pw ⟨saysB t.b k (hearW r d).least, setF t.ws k (some (hearW r d))⟩ (setF tk k (heardK r d (tk k))) (updT (fun _ => Th.no base) 0 (Th.st base w.heap.size ⟨5, k, at_, many, text⟩)) w7) := hs _ _ _ _ hto
 clear hto hs ha H6
 obtain ⟨cq, hcq⟩ : ∃ c, saysC t.b k (hearW r d).least = c := ⟨_, rfl⟩
 have HCQ : Hid (saysC t.b k (hearW r d).least = cq) := hcq
 rw [hcq]
 clear hcq
 go_wp2_with fail
 go_ret
 exact ⟨by rw [HCQ.out]; rfl, H7.out.done HL.out⟩
set_option maxHeartbeats 3200000 in
theorem sleave_dk {w : World} {base D G : Nat} {pw : Nat → Nat} {t : Twn} {tk : Int → List (List Ch)} {S : Nat → Prop} (h : DkAt base D G pw t tk w S) (hr : TR t tk) {k : Nat} (hk : k < 4) {r : Wr} (he : t.ws k = some r) (x : Tst) (hxw : x.w = k) (hkd : x.kind = 7) :
 Calls Tryz.prog 67 #[.pointer (some ⟨D, 0, none⟩), tsV x] w fun e w' => e = .returned (.int .i64 0) ∧ DkTo base w S D G pw (dropT t k) tk w' := by
 have HI : Hid (DkIn base w S D G pw t tk (updT (fun _ => Th.no base) 0 (Th.st base w.heap.size x)) (w.alloc (tsObj x))) := h.start.step x 0
 have HL : Hid (base ≤ w.heap.size ∧ ∀ k, S k → base ≤ k ∧ k < w.heap.size) := h.held
 have HR : Hid (TR t tk) := hr
 have HE : Hid (t.ws k = some r) := he
 have HO : Hid (WOk r (tk k)) := tr_wok hr he
 obtain ⟨kind, w_, at_, many, text⟩ := x
 obtain rfl : w_ = (k : Int) := hxw
 obtain rfl : kind = 7 := hkd
 have hk4 : (k : Int) < 4 := by omega
 have hhs : hasW t k = true := by unfold hasW; rw [he]; rfl
 clear h hr he
 go_enter Tryz.func67, Tryz.ntmps67
 go_wp2_with fail
 generalize World.alloc _ _ = w5 at *
 obtain ⟨_, c0, c1, c2, c3, c4⟩ := HI.out.stepAt
 simp only [Nat.zero_add] at c0 c1 c2 c3 c4
 have g1 := HI.out.cells.ws k hk
 have hlt := HI.out.cells.lt
 simp only [hhs, ptrOf, if_true] at g1
 go_quiet (fail)
 go_wp2_with fail
 have H6 : Hid (DkIn base w S D G pw t tk (updT (fun _ => Th.no base) 0 (Th.st base w.heap.size ⟨7, k, at_, many, text⟩)) (w5.drewN nq)) := HI.out.after (below_drewN (Below.refl _ _) nq)
 generalize w5.drewN nq = w6 at *
 clear HI c0 c1 c2 c3 c4 g1 hlt hhs
 obtain ⟨T, ha, hs⟩ := H6.out.call
 refine (goes_dk ha hk).mono ?_
 rintro e w7 ⟨rfl, hto⟩
 have H7 : Hid (DkIn base w S D G pw (dropT t k) tk (updT (fun _ => Th.no base) 0 (Th.st base w.heap.size ⟨7, k, at_, many, text⟩)) w7) := hs _ _ _ _ hto
 clear hto hs ha H6
 go_wp2_with fail
 go_ret
 exact ⟨rfl, H7.out.done HL.out⟩
set_option maxHeartbeats 3200000 in
theorem sclear_dk {w : World} {base D G : Nat} {pw : Nat → Nat} {t : Twn} {tk : Int → List (List Ch)} {S : Nat → Prop} (h : DkAt base D G pw t tk w S) (hr : TR t tk) {k : Nat} (hk : k < 4) {r : Wr} (he : t.ws k = some r) (x : Tst) (hxw : x.w = k) (hkd : x.kind = 6) :
 Calls Tryz.prog 67 #[.pointer (some ⟨D, 0, none⟩), tsV x] w fun e w' => e = .returned (.int .i64 0) ∧ DkTo base w S D G pw ⟨t.b, setF t.ws k (some (clearW r (leastFor t.b r.seen)))⟩ tk w' := by
 have HI : Hid (DkIn base w S D G pw t tk (updT (fun _ => Th.no base) 0 (Th.st base w.heap.size x)) (w.alloc (tsObj x))) := h.start.step x 0
 have HL : Hid (base ≤ w.heap.size ∧ ∀ k, S k → base ≤ k ∧ k < w.heap.size) := h.held
 have HR : Hid (TR t tk) := hr
 have HE : Hid (t.ws k = some r) := he
 have HO : Hid (WOk r (tk k)) := tr_wok hr he
 have HTK : Hid (setF tk k (tk k) = tk) := setF_self tk k
 have HCL : Hid ((clearW r (leastFor t.b r.seen)).list = ofL (leastFor t.b r.seen) r.list) := clear_list hr he
 obtain ⟨kind, w_, at_, many, text⟩ := x
 obtain rfl : w_ = (k : Int) := hxw
 obtain rfl : kind = 6 := hkd
 have hk4 : (k : Int) < 4 := by omega
 have hhs : hasW t k = true := by unfold hasW; rw [he]; rfl
 clear h hr he
 go_enter Tryz.func67, Tryz.ntmps67
 go_wp2_with fail
 generalize World.alloc _ _ = w5 at *
 obtain ⟨_, c0, c1, c2, c3, c4⟩ := HI.out.stepAt
 simp only [Nat.zero_add] at c0 c1 c2 c3 c4
 have g1 := HI.out.cells.ws k hk
 have hlt := HI.out.cells.lt
 simp only [hhs, ptrOf, if_true] at g1
 go_quiet (fail)
 go_wp2_with fail
 have H6 : Hid (DkIn base w S D G pw t tk (updT (fun _ => Th.no base) 0 (Th.st base w.heap.size ⟨6, k, at_, many, text⟩)) (w5.drewN nq)) := HI.out.after (below_drewN (Below.refl _ _) nq)
 generalize w5.drewN nq = w6 at *
 clear HI c0 c1 c2 c3 c4 g1 hlt hhs
 obtain ⟨T, ha, _⟩ := H6.out.call
 refine (spoken_dk ha HR.out hk HE.out).mono ?_
 rintro e w7 ⟨rfl, hb⟩
 have H7 : Hid (DkIn base w S D G pw t tk (updT (fun _ => Th.no base) 0 (Th.st base w.heap.size ⟨6, k, at_, many, text⟩)) w7) := H6.out.after hb
 clear hb ha H6
 obtain ⟨least, hle⟩ : ∃ least, leastFor t.b r.seen = least := ⟨_, rfl⟩
 have HLE : Hid (leastFor t.b r.seen = least) := hle
 rw [hle]
 clear hle
 go_wp2_with fail
 obtain ⟨T, lv, ov, tvs, hp, hs⟩ := H7.out.wr hk HE.out
 refine (clear_pw hp (by have := HO.out.len; omega) least).mono ?_
 rintro e w8 ⟨rfl, hto⟩
 have H8 : Hid (DkIn base w S D G pw ⟨t.b, setF t.ws k (some (clearW r (leastFor t.b r.seen)))⟩ tk (updT (fun _ => Th.no base) 0 (Th.st base w.heap.size ⟨6, k, at_, many, text⟩)) w8) := by
  have := hs (clearW r (leastFor t.b r.seen)) (tk k) w8 (by rw [HCL.out, HLE.out]; exact hto)
  rw [HTK.out] at this
  exact this
 clear hto hs hp H7
 generalize (r.list.length : Int) - (ofL least r.list).length = q at *
 go_wp2_with fail
 go_ret
 exact ⟨rfl, H8.out.done HL.out⟩
end Go.Proofs.YtcbnnfeelhlapadGreatDoor
