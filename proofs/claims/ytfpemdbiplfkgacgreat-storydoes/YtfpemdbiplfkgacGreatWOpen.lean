/-
  Desks: a step, whatever it is; Do, each, Settle.
-/
import Derived.Test.YtfpemdbiplfkgacGreatDkC
import Derived.Deep.LoopGhost
import Derived.Test.YtfpemdbiplfkgacGreatDkWr
import Derived.Test.YtfpemdbiplfkgacGreatWSteps
import Derived.Test.YtfpemdbiplfkgacGreatFDeeds
namespace Go.Proofs.YtfpemdbiplfkgacGreat
open Go Go.RowKit

theorem emptyBytes : ByteArray.empty = ⟨#[]⟩ := rfl

theorem step_dk {w : World} {base D G : Nat} {pw : Nat → Nat} {t : Twn} {tk : Int → List (List Ch)} {S : Nat → Prop} (h : DkAt base D G pw t tk w S) (hr : TR t tk) {k : Nat} (hk : k < 4) {r : Wr} (he : t.ws k = some r) (x : Tst) (hxw : x.w = k) (h2 : 2 ≤ x.kind) (h7 : x.kind ≤ 7) :
    Calls Tryz.prog 78 #[.pointer (some ⟨D, 0, none⟩), tsV x] w fun e w' => e = .returned (.int .i64 (tDo t x).1) ∧ ∃ tk', DkTo base w S D G pw (tDo t x).2 tk' w' ∧ TR (tDo t x).2 tk' := by
  have htd : tDo t x = (if x.kind = 2 ∨ x.kind = 3 then ownT t k r x else if x.kind = 4 then sendT t k r else if x.kind = 5 then hearT t k r
      else if x.kind = 6 then (0, ⟨t.b, setF t.ws k (some (clearW r (leastFor t.b r.seen)))⟩) else (0, dropT t k)) := by
    unfold tDo
    rw [if_neg (by omega), if_neg (by omega), hxw, he]
  rw [htd]
  by_cases k2 : x.kind = 2
  · have ho : ownD r x = ⟨1, r.me, r.next, r.seen, x.at_, 0, x.text⟩ := by rw [ownD, if_pos k2]
    rw [if_pos (.inl k2), ownT, ho]
    by_cases hz : doC r.list ⟨1, r.me, r.next, r.seen, x.at_, 0, x.text⟩ openN = 0
    · have ht := tr_own hr he x (by rw [ho]; exact hz)
      rw [ho] at ht
      refine (put_yes_dk h hr hk he x hxw k2 hz).mono fun e w' ⟨e1, e2⟩ => ⟨by rw [e1, hz], ?_⟩
      show ∃ tk', DkTo base w S D G pw (if _ = 0 then _ else _) tk' w' ∧ TR (if _ = 0 then _ else _) tk'
      rw [if_pos hz]
      exact ⟨_, e2, ht⟩
    · refine (put_no_dk h hr hk he x hxw k2 hz).mono fun e w' ⟨e1, e2⟩ => ⟨e1, tk, ?_⟩
      show DkTo base w S D G pw (if _ = 0 then _ else _) _ w' ∧ TR (if _ = 0 then _ else _) _
      rw [if_neg hz]
      exact ⟨e2, hr⟩
  by_cases k3 : x.kind = 3
  · have ho : ownD r x = ⟨2, r.me, r.next, r.seen, x.at_, x.many, ⟨#[]⟩⟩ := by rw [ownD, if_neg k2]; rfl
    rw [if_pos (.inr k3), ownT, ho]
    by_cases hz : doC r.list ⟨2, r.me, r.next, r.seen, x.at_, x.many, ⟨#[]⟩⟩ openN = 0
    · have ht := tr_own hr he x (by rw [ho]; exact hz)
      rw [ho] at ht
      refine (take_yes_dk h hr hk he x hxw k3 hz).mono fun e w' ⟨e1, e2⟩ => ⟨by rw [e1, hz], ?_⟩
      show ∃ tk', DkTo base w S D G pw (if _ = 0 then _ else _) tk' w' ∧ TR (if _ = 0 then _ else _) tk'
      rw [if_pos hz]
      exact ⟨_, e2, ht⟩
    · refine (take_no_dk h hr hk he x hxw k3 hz).mono fun e w' ⟨e1, e2⟩ => ⟨e1, tk, ?_⟩
      show DkTo base w S D G pw (if _ = 0 then _ else _) _ w' ∧ TR (if _ = 0 then _ else _) _
      rw [if_neg hz]
      exact ⟨e2, hr⟩
  rw [if_neg (by omega)]
  by_cases k4 : x.kind = 4
  · rw [if_pos k4, sendT]
    cases hn : r.opens[r.sent]? with
    | none => exact (ssend_no_dk h hr hk he x hxw k4 hn).mono fun e w' ⟨e1, e2⟩ => ⟨e1, tk, e2, hr⟩
    | some d =>
      by_cases hc : comesC t.b d = 0
      · refine (ssend_yes_dk h hr hk he x hxw k4 hn hc).mono fun e w' ⟨e1, e2⟩ => ⟨by rw [e1, ← hc], tk, ?_⟩
        show DkTo base w S D G pw (if _ = 0 then _ else _) _ w' ∧ TR (if _ = 0 then _ else _) _
        rw [if_pos hc]
        exact ⟨e2, tr_send hr he hn hc⟩
      · refine (ssend_off_dk h hr hk he x hxw k4 hn hc).mono fun e w' ⟨e1, e2⟩ => ⟨e1, tk, ?_⟩
        show DkTo base w S D G pw (if _ = 0 then _ else _) _ w' ∧ TR (if _ = 0 then _ else _) _
        rw [if_neg hc]
        exact ⟨e2, tr_drop hr he⟩
  rw [if_neg k4]
  by_cases k5 : x.kind = 5
  · rw [if_pos k5, hearT]
    cases hn : t.b.ds[r.seen]? with
    | none => exact (shear_no_dk h hr hk he x hxw k5 hn).mono fun e w' ⟨e1, e2⟩ => ⟨e1, tk, e2, hr⟩
    | some d =>
      by_cases hc : hearC r d = 0
      · refine (shear_yes_dk h hr hk he x hxw k5 hn hc).mono fun e w' ⟨e1, e2⟩ => ?_
        show e = .returned (.int .i64 (if _ = 0 then (_, _) else (_, _)).1) ∧ ∃ tk', DkTo base w S D G pw (if _ = 0 then (_, _) else (_, _)).2 tk' w' ∧ TR (if _ = 0 then (_, _) else (_, _)).2 tk'
        rw [if_pos hc]
        exact ⟨e1, _, e2, tr_hear hr he hn hc⟩
      · refine (shear_off_dk h hr hk he x hxw k5 hn hc).mono fun e w' ⟨e1, e2⟩ => ?_
        show e = .returned (.int .i64 (if _ = 0 then (_, _) else (_, _)).1) ∧ ∃ tk', DkTo base w S D G pw (if _ = 0 then (_, _) else (_, _)).2 tk' w' ∧ TR (if _ = 0 then (_, _) else (_, _)).2 tk'
        rw [if_neg hc]
        exact ⟨e1, _, e2, tr_drop hr he⟩
  rw [if_neg k5]
  by_cases k6 : x.kind = 6
  · rw [if_pos k6]
    exact (sclear_dk h hr hk he x hxw k6).mono fun e w' ⟨e1, e2⟩ => ⟨e1, tk, e2, tr_clear hr he⟩
  rw [if_neg k6]
  exact (sleave_dk h hr hk he x hxw (by omega)).mono fun e w' ⟨e1, e2⟩ => ⟨e1, tk, e2, tr_drop hr he⟩

set_option maxRecDepth 20000 in
set_option maxHeartbeats 1600000 in
theorem do_bad {w : World} {base D G : Nat} {pw : Nat → Nat} {t : Twn} {tk : Int → List (List Ch)} {S : Nat → Prop} (h : DkAt base D G pw t tk w S) (hr : TR t tk) (x : Tst) (hkd : x.kind < 1 ∨ 7 < x.kind) :
    Calls Tryz.prog 26 #[.pointer (some ⟨D, 0, none⟩), tsV x] w fun e w' => e = .returned (.int .i64 2) ∧ DkTo base w S D G pw t tk w' := by
  have HI : Hid (DkIn base w S D G pw t tk (updT (fun _ => Th.no base) 0 (Th.st base w.heap.size x)) (w.alloc (tsObj x))) := h.start.step x 0
  have HL : Hid (base ≤ w.heap.size ∧ ∀ k, S k → base ≤ k ∧ k < w.heap.size) := h.held
  have HR : Hid (TR t tk) := hr
  obtain ⟨kind, w_, at_, many, text⟩ := x
  clear h hr
  rcases (show kind < 1 ∨ 7 < kind from hkd) with hq | hq
  · clear hkd
    go_enter Tryz.func26, Tryz.ntmps26
    go_wp2
    go_ret
    exact ⟨rfl, HI.out.done HL.out⟩
  · have hq2 : ¬ kind < 1 := by omega
    clear hkd
    go_enter Tryz.func26, Tryz.ntmps26
    go_wp2
    go_ret
    exact ⟨rfl, HI.out.done HL.out⟩

set_option maxRecDepth 20000 in
set_option maxHeartbeats 1600000 in
theorem do_join_no {w : World} {base D G : Nat} {pw : Nat → Nat} {t : Twn} {tk : Int → List (List Ch)} {S : Nat → Prop} (h : DkAt base D G pw t tk w S) (hr : TR t tk) (x : Tst) (hkd : x.kind = 1) (hc : joinC t.b x.w ≠ 0) :
    Calls Tryz.prog 26 #[.pointer (some ⟨D, 0, none⟩), tsV x] w fun e w' => e = .returned (.int .i64 (joinC t.b x.w)) ∧ DkTo base w S D G pw t tk w' := by
  have HI : Hid (DkIn base w S D G pw t tk (updT (fun _ => Th.no base) 0 (Th.st base w.heap.size x)) (w.alloc (tsObj x))) := h.start.step x 0
  have HL : Hid (base ≤ w.heap.size ∧ ∀ k, S k → base ≤ k ∧ k < w.heap.size) := h.held
  have HR : Hid (TR t tk) := hr
  have HC : Hid (joinC t.b x.w ≠ 0) := hc
  clear hc
  obtain ⟨kind, w_, at_, many, text⟩ := x
  clear h hr
  obtain rfl : kind = 1 := hkd
  go_enter Tryz.func26, Tryz.ntmps26
  go_wp2_with fail
  obtain ⟨T, ha, hs⟩ := HI.out.call
  refine (join_no_dk ha HR.out w_ HC.out).mono ?_
  rintro e w7 ⟨rfl, hto⟩
  have H7 : Hid (DkIn base w S D G pw t tk (updT (fun _ => Th.no base) 0 (Th.st base w.heap.size ⟨1, w_, at_, many, text⟩)) w7) := hs _ _ _ _ hto
  clear hto hs ha HI
  obtain ⟨cq, hcq⟩ : ∃ c, joinC t.b w_ = c := ⟨_, rfl⟩
  have HCQ : Hid (joinC t.b w_ = cq) := hcq
  rw [hcq]
  clear hcq
  go_wp2_with fail
  go_ret
  exact ⟨by rw [HCQ.out]; rfl, H7.out.done HL.out⟩

set_option maxRecDepth 20000 in
set_option maxHeartbeats 1600000 in
theorem do_join_yes {w : World} {base D G : Nat} {pw : Nat → Nat} {t : Twn} {tk : Int → List (List Ch)} {S : Nat → Prop} (h : DkAt base D G pw t tk w S) (hr : TR t tk) (x : Tst) (hkd : x.kind = 1) {k : Nat} (hk : k < 4) (hxw : x.w = k) (hc : joinC t.b k = 0) :
    Calls Tryz.prog 26 #[.pointer (some ⟨D, 0, none⟩), tsV x] w fun e w' => e = .returned (.int .i64 0) ∧ ∃ P, DkTo base w S D G (setN pw k P) ⟨joinB t.b k, setF t.ws k (some (newW t.b k))⟩ (setF tk k []) w' := by
  have HI : Hid (DkIn base w S D G pw t tk (updT (fun _ => Th.no base) 0 (Th.st base w.heap.size x)) (w.alloc (tsObj x))) := h.start.step x 0
  have HL : Hid (base ≤ w.heap.size ∧ ∀ k, S k → base ≤ k ∧ k < w.heap.size) := h.held
  have HR : Hid (TR t tk) := hr
  have HC : Hid (joinC t.b k = 0) := hc
  clear hc
  obtain ⟨kind, w_, at_, many, text⟩ := x
  clear h hr
  obtain rfl : kind = 1 := hkd
  obtain rfl : w_ = (k : Int) := hxw
  go_enter Tryz.func26, Tryz.ntmps26
  go_wp2_with fail
  obtain ⟨T, ha, hs⟩ := HI.out.call
  refine (join_yes_dk ha HR.out hk HC.out).mono ?_
  rintro e w7 ⟨rfl, P, hto⟩
  have H7 : Hid (DkIn base w S D G (setN pw k P) ⟨joinB t.b k, setF t.ws k (some (newW t.b k))⟩ (setF tk k []) (updT (fun _ => Th.no base) 0 (Th.st base w.heap.size ⟨1, k, at_, many, text⟩)) w7) := hs _ _ _ _ hto
  clear hto hs ha HI
  go_wp2_with fail
  go_ret
  exact ⟨rfl, P, H7.out.done HL.out⟩

set_option maxRecDepth 20000 in
set_option maxHeartbeats 1600000 in
theorem do_none {w : World} {base D G : Nat} {pw : Nat → Nat} {t : Twn} {tk : Int → List (List Ch)} {S : Nat → Prop} (h : DkAt base D G pw t tk w S) (hr : TR t tk) (x : Tst) (h2 : 2 ≤ x.kind) (h7 : x.kind ≤ 7) (he : t.ws x.w = none) :
    Calls Tryz.prog 26 #[.pointer (some ⟨D, 0, none⟩), tsV x] w fun e w' => e = .returned (.int .i64 5) ∧ DkTo base w S D G pw t tk w' := by
  have HI : Hid (DkIn base w S D G pw t tk (updT (fun _ => Th.no base) 0 (Th.st base w.heap.size x)) (w.alloc (tsObj x))) := h.start.step x 0
  have HL : Hid (base ≤ w.heap.size ∧ ∀ k, S k → base ≤ k ∧ k < w.heap.size) := h.held
  have HR : Hid (TR t tk) := hr
  have HE : Hid (t.ws x.w = none) := he
  clear he
  obtain ⟨kind, w_, at_, many, text⟩ := x
  clear h hr
  have q1 : ¬ kind < 1 := by have : 2 ≤ kind := h2; omega
  have q2 : ¬ 7 < kind := by have : kind ≤ 7 := h7; omega
  have q3 : ¬ kind = 1 := by have : 2 ≤ kind := h2; omega
  clear h2 h7
  go_enter Tryz.func26, Tryz.ntmps26
  go_wp2_with fail
  refine (writer_dk HI.out.cells _).mono ?_
  rintro e w6 ⟨rfl, rfl⟩
  rw [desk_none HE.out]
  go_wp2_with fail
  go_ret
  exact ⟨rfl, HI.out.done HL.out⟩

set_option maxRecDepth 20000 in
set_option maxHeartbeats 1600000 in
theorem do_some {w : World} {base D G : Nat} {pw : Nat → Nat} {t : Twn} {tk : Int → List (List Ch)} {S : Nat → Prop} (h : DkAt base D G pw t tk w S) (hr : TR t tk) (x : Tst) (h2 : 2 ≤ x.kind) (h7 : x.kind ≤ 7) {k : Nat} (hk : k < 4) (hxw : x.w = k) {r : Wr} (he : t.ws k = some r) :
    Calls Tryz.prog 26 #[.pointer (some ⟨D, 0, none⟩), tsV x] w fun e w' => e = .returned (.int .i64 (tDo t x).1) ∧ ∃ tk', DkTo base w S D G pw (tDo t x).2 tk' w' ∧ TR (tDo t x).2 tk' := by
  have HI : Hid (DkIn base w S D G pw t tk (updT (fun _ => Th.no base) 0 (Th.st base w.heap.size x)) (w.alloc (tsObj x))) := h.start.step x 0
  have HL : Hid (base ≤ w.heap.size ∧ ∀ k, S k → base ≤ k ∧ k < w.heap.size) := h.held
  have HR : Hid (TR t tk) := hr
  have HE : Hid (t.ws k = some r) := he
  clear he
  have H27 : Hid (2 ≤ x.kind ∧ x.kind ≤ 7) := ⟨h2, h7⟩
  obtain ⟨kind, w_, at_, many, text⟩ := x
  clear h hr
  have q1 : ¬ kind < 1 := by have : 2 ≤ kind := h2; omega
  have q2 : ¬ 7 < kind := by have : kind ≤ 7 := h7; omega
  have q3 : ¬ kind = 1 := by have : 2 ≤ kind := h2; omega
  obtain rfl : w_ = (k : Int) := hxw
  clear h2 h7
  go_enter Tryz.func26, Tryz.ntmps26
  go_wp2_with fail
  refine (writer_dk HI.out.cells _).mono ?_
  rintro e w6 ⟨rfl, rfl⟩
  rw [desk_some hk HE.out]
  go_wp2_with fail
  obtain ⟨T, ha, hs⟩ := HI.out.call
  refine (step_dk ha HR.out hk HE.out ⟨kind, k, at_, many, text⟩ rfl H27.out.1 H27.out.2).mono ?_
  rintro e w7 ⟨rfl, tk', hto, htr⟩
  have HTR : Hid (TR (tDo t ⟨kind, k, at_, many, text⟩).2 tk') := htr
  have H7 : Hid (DkIn base w S D G pw (tDo t ⟨kind, k, at_, many, text⟩).2 tk' (updT (fun _ => Th.no base) 0 (Th.st base w.heap.size ⟨kind, k, at_, many, text⟩)) w7) := hs _ _ _ _ hto
  clear hto hs ha HI htr
  obtain ⟨cq, hcq⟩ : ∃ c, (tDo t ⟨kind, k, at_, many, text⟩).1 = c := ⟨_, rfl⟩
  have HCQ : Hid ((tDo t ⟨kind, k, at_, many, text⟩).1 = cq) := hcq
  rw [hcq]
  clear hcq
  go_wp2_with fail
  go_ret
  exact ⟨by rw [HCQ.out]; rfl, tk', H7.out.done HL.out, HTR.out⟩

/-- A STEP. -/
theorem do_dk {w : World} {base D G : Nat} {pw : Nat → Nat} {t : Twn} {tk : Int → List (List Ch)} {S : Nat → Prop} (h : DkAt base D G pw t tk w S) (hr : TR t tk) (x : Tst) :
    Calls Tryz.prog 26 #[.pointer (some ⟨D, 0, none⟩), tsV x] w fun e w' => e = .returned (.int .i64 (tDo t x).1) ∧ ∃ pw' tk', DkTo base w S D G pw' (tDo t x).2 tk' w' ∧ TR (tDo t x).2 tk' ∧ (x.kind ≠ 1 → pw' = pw) := by
  by_cases k0 : x.kind < 1 ∨ 7 < x.kind
  · have htd : tDo t x = (2, t) := by unfold tDo; rw [if_pos k0]
    rw [htd]
    exact (do_bad h hr x k0).mono fun e w' ⟨e1, e2⟩ => ⟨e1, pw, tk, e2, hr, fun _ => rfl⟩
  by_cases k1 : x.kind = 1
  · have htd : tDo t x = joinT t x.w := by unfold tDo; rw [if_neg k0, if_pos k1]
    rw [htd, joinT]
    by_cases hc : joinC t.b x.w = 0
    · have hw : wrB x.w = true := by
        cases hh : wrB x.w
        · rw [joinC, if_pos hh] at hc; cases hc
        · rfl
      obtain ⟨k, hxw, hk⟩ := wr_nat hw
      rw [hxw] at hc ⊢
      refine (do_join_yes h hr x k1 hk hxw hc).mono fun e w' ⟨e1, P, e2⟩ => ⟨by rw [e1, hc], ?_⟩
      show ∃ pw' tk', DkTo base w S D G pw' (if _ = 0 then _ else _) tk' w' ∧ TR (if _ = 0 then _ else _) tk' ∧ _
      rw [if_pos hc]
      exact ⟨_, _, e2, tr_join hr hc, fun e => absurd k1 e⟩
    · refine (do_join_no h hr x k1 hc).mono fun e w' ⟨e1, e2⟩ => ⟨e1, pw, tk, ?_⟩
      show DkTo base w S D G _ (if _ = 0 then _ else _) _ w' ∧ TR (if _ = 0 then _ else _) _ ∧ _
      rw [if_neg hc]
      exact ⟨e2, hr, fun _ => rfl⟩
  cases he : t.ws x.w with
  | none =>
    have htd : tDo t x = (5, t) := by unfold tDo; rw [if_neg k0, if_neg k1, he]
    rw [htd]
    exact (do_none h hr x (by omega) (by omega) he).mono fun e w' ⟨e1, e2⟩ => ⟨e1, pw, tk, e2, hr, fun _ => rfl⟩
  | some r =>
    obtain ⟨k, hxw, hk⟩ := wr_nat (hr.ti.is_here he).2
    rw [hxw] at he
    exact (do_some h hr x (by omega) (by omega) hk hxw he).mono fun e w' ⟨e1, tk', e2, e3⟩ => ⟨e1, pw, tk', e2, e3, fun _ => rfl⟩

def eachTo (all : Twn → Int → Twn) : Nat → Twn → Twn
  | 0, t => t
  | n + 1, t => all (eachTo all n t) n
theorem each_send (t : Twn) : ∀ n, eachTo sendAll n t = sendTo n t
  | 0 => rfl
  | n + 1 => by rw [eachTo, sendTo, each_send t n]
theorem each_hear (t : Twn) : ∀ n, eachTo hearAll n t = hearTo n t
  | 0 => rfl
  | n + 1 => by rw [eachTo, hearTo, each_hear t n]

/-- Desks, whatever is kept. -/
def DkAny (base : Nat) (w : World) (S : Nat → Prop) (D G : Nat) (pw : Nat → Nat) (t : Twn) (wk : World) : Prop := ∃ tk, DkIn base w S D G pw t tk (fun _ => Th.no base) wk ∧ TR t tk

set_option maxRecDepth 20000 in
set_option maxHeartbeats 1600000 in
theorem each_dk {w : World} {base D G : Nat} {pw : Nat → Nat} {t : Twn} {tk : Int → List (List Ch)} {S : Nat → Prop} (h : DkAt base D G pw t tk w S) (hr : TR t tk) (kind : Int) (hkd : kind ≠ 1) (all : Twn → Int → Twn) (un : Twn → Int → Nat) (hno : ∀ t v, (tDo t ⟨kind, v, 0, 0, ⟨#[]⟩⟩).1 ≠ 0 → all t v = (tDo t ⟨kind, v, 0, 0, ⟨#[]⟩⟩).2) (hyes : ∀ t v, (tDo t ⟨kind, v, 0, 0, ⟨#[]⟩⟩).1 = 0 → all t v = all (tDo t ⟨kind, v, 0, 0, ⟨#[]⟩⟩).2 v ∧ un (tDo t ⟨kind, v, 0, 0, ⟨#[]⟩⟩).2 v < un t v) :
    Calls Tryz.prog 91 #[.pointer (some ⟨D, 0, none⟩), .int .i64 kind] w fun e w' => e = .returned (.tuple #[]) ∧ ∃ tk', DkTo base w S D G pw (eachTo all 4 t) tk' w' ∧ TR (eachTo all 4 t) tk' := by
  have HL : Hid (base ≤ w.heap.size ∧ ∀ k, S k → base ≤ k ∧ k < w.heap.size) := h.held
  have HI : Hid (DkAny base w S D G pw t w) := ⟨tk, h.start, hr⟩
  have HNO : Hid (∀ t v, (tDo t ⟨kind, v, 0, 0, ⟨#[]⟩⟩).1 ≠ 0 → all t v = (tDo t ⟨kind, v, 0, 0, ⟨#[]⟩⟩).2) := hno
  have HYES : Hid (∀ t v, (tDo t ⟨kind, v, 0, 0, ⟨#[]⟩⟩).1 = 0 → all t v = all (tDo t ⟨kind, v, 0, 0, ⟨#[]⟩⟩).2 v ∧ un (tDo t ⟨kind, v, 0, 0, ⟨#[]⟩⟩).2 v < un t v) := hyes
  have HKD : Hid (kind ≠ 1) := hkd
  clear h hr hno hyes hkd
  go_enter Tryz.func91, Tryz.ntmps91
  go_wp2_with fail
  go_loopw [5] (fun i wr => ∃ n : Nat, n ≤ 4 ∧ i = .int .i64 n ∧ Hid (DkAny base w S D G pw (eachTo all n t) wr)) (fun i _ => 4 - (intOf i).toNat)
  case atStart => exact ⟨0, by omega, rfl, HI.out⟩
  case round =>
    obtain ⟨n, hn, rfl, HW⟩ := hrel
    by_cases hlt : n < 4
    · have hlt' : (n : Int) < 4 := by omega
      go_wp2_with fail
      go_loopg [] (un (eachTo all n t) n) (fun m wr2 => ∃ t2, un t2 n = m ∧ all t2 n = all (eachTo all n t) n ∧ Hid (DkAny base w S D G pw t2 wr2))
      case atStart => exact ⟨_, rfl, rfl, HW.out⟩
      case round =>
        obtain ⟨t2, hm, hall, HW2⟩ := hrel
        have HM : Hid (un t2 n = gk ∧ all t2 n = all (eachTo all n t) n) := ⟨hm, hall⟩
        clear hm hall
        go_wp2_with fail
        obtain ⟨tk2, hd2, hr2⟩ := HW2.out
        obtain ⟨T, ha, hs⟩ := hd2.call
        refine (do_dk ha hr2 ⟨kind, n, 0, 0, ⟨#[]⟩⟩).mono ?_
        rintro e w7 ⟨rfl, pw7, tk7, hto, htr, hpw⟩
        obtain rfl := hpw HKD.out
        have H7 : Hid (DkAny base w S D G pw7 (tDo t2 ⟨kind, n, 0, 0, ⟨#[]⟩⟩).2 w7) := ⟨tk7, hs _ _ _ _ hto, htr⟩
        clear hto hs ha hd2 hr2 htr hpw HW2
        by_cases hz : (tDo t2 ⟨kind, n, 0, 0, ⟨#[]⟩⟩).1 = 0
        · have HY : Hid (all t2 n = all (tDo t2 ⟨kind, n, 0, 0, ⟨#[]⟩⟩).2 n ∧ un (tDo t2 ⟨kind, n, 0, 0, ⟨#[]⟩⟩).2 n < un t2 n) := HYES.out t2 n hz
          rw [hz]
          clear hz
          go_wp2_with fail
          go_roundg (un (tDo t2 ⟨kind, n, 0, 0, ⟨#[]⟩⟩).2 n)
          case measure => have := HY.out.2; have := HM.out.1; omega
          case rel => exact ⟨_, rfl, by rw [← HY.out.1, HM.out.2], H7.out⟩
        · have HN : Hid (eachTo all (n + 1) t = (tDo t2 ⟨kind, n, 0, 0, ⟨#[]⟩⟩).2) := by
            show all (eachTo all n t) n = _
            rw [← HM.out.2, HNO.out t2 n hz]
          obtain ⟨cq, hcq⟩ : ∃ c, (tDo t2 ⟨kind, n, 0, 0, ⟨#[]⟩⟩).1 = c := ⟨_, rfl⟩
          have hz2 : ¬ cq = 0 := by rw [← hcq]; exact hz
          rw [hcq]
          clear hz hcq
          go_wp2_with fail
          go_roundw
          case rel => exact ⟨n + 1, by omega, by go_num, by rw [HN.out]; exact H7.out⟩
          case measure => simp [intOf]; omega
    · obtain rfl : n = 4 := by omega
      go_wp2_with fail
      go_end0
      obtain ⟨tk9, h9, hr9⟩ := HW.out
      exact ⟨rfl, tk9, h9.done HL.out, hr9⟩

theorem tDo_send (t : Twn) (v : Int) : tDo t ⟨4, v, 0, 0, ⟨#[]⟩⟩ = match t.ws v with | none => (5, t) | some r => sendT t v r := by
  unfold tDo
  rw [if_neg (by show ¬ ((4 : Int) < 1 ∨ (7 : Int) < 4); decide), if_neg (by show ¬ (4 : Int) = 1; decide)]
  dsimp only
  cases t.ws v with
  | none => rfl
  | some r => rfl
theorem tDo_hear (t : Twn) (v : Int) : tDo t ⟨5, v, 0, 0, ⟨#[]⟩⟩ = match t.ws v with | none => (5, t) | some r => hearT t v r := by
  unfold tDo
  rw [if_neg (by show ¬ ((5 : Int) < 1 ∨ (7 : Int) < 5); decide), if_neg (by show ¬ (5 : Int) = 1; decide)]
  dsimp only
  cases t.ws v with
  | none => rfl
  | some r => rfl

set_option maxRecDepth 20000 in
set_option maxHeartbeats 1600000 in
theorem settle_dk {w : World} {base D G : Nat} {pw : Nat → Nat} {t : Twn} {tk : Int → List (List Ch)} {S : Nat → Prop} (h : DkAt base D G pw t tk w S) (hr : TR t tk) :
    Calls Tryz.prog 29 #[.pointer (some ⟨D, 0, none⟩)] w fun e w' => e = .returned (.tuple #[]) ∧ ∃ tk', DkTo base w S D G pw (settleT t) tk' w' ∧ TR (settleT t) tk' := by
  have HL : Hid (base ≤ w.heap.size ∧ ∀ k, S k → base ≤ k ∧ k < w.heap.size) := h.held
  have HI : Hid (DkAny base w S D G pw t w) := ⟨tk, h.start, hr⟩
  clear h hr
  go_enter Tryz.func29, Tryz.ntmps29
  go_wp2_with fail
  obtain ⟨tk2, hd2, hr2⟩ := HI.out
  obtain ⟨T, ha, hs⟩ := hd2.call
  refine (each_dk ha hr2 4 (by decide) sendAll unsent (fun t v hc => ?_) (fun t v hc => ?_)).mono ?_
  · rw [tDo_send] at hc ⊢
    cases hw : t.ws v with
    | none => exact sendAll_none hw
    | some r =>
      rw [hw] at hc
      rw [sendAll_some hw, if_neg hc]
  · rw [tDo_send] at hc ⊢
    cases hw : t.ws v with
    | none => rw [hw] at hc; cases hc
    | some r =>
      rw [hw] at hc
      exact ⟨by rw [sendAll_some hw, if_pos hc], unsent_less hw hc⟩
  rintro e w7 ⟨rfl, tk7, hto, htr⟩
  rw [each_send] at hto htr
  have H7 : Hid (DkAny base w S D G pw (sendTo 4 t) w7) := ⟨tk7, hs _ _ _ _ hto, htr⟩
  clear hto htr hs ha hd2 hr2 HI
  go_wp2_with fail
  obtain ⟨tk2, hd2, hr2⟩ := H7.out
  obtain ⟨T, ha, hs⟩ := hd2.call
  refine (each_dk ha hr2 5 (by decide) hearAll unheard (fun t v hc => ?_) (fun t v hc => ?_)).mono ?_
  · rw [tDo_hear] at hc ⊢
    cases hw : t.ws v with
    | none => exact hearAll_none hw
    | some r =>
      rw [hw] at hc
      rw [hearAll_some hw, if_neg hc]
  · rw [tDo_hear] at hc ⊢
    cases hw : t.ws v with
    | none => rw [hw] at hc; cases hc
    | some r =>
      rw [hw] at hc
      exact ⟨by rw [hearAll_some hw, if_pos hc], unheard_less hw hc⟩
  rintro e w8 ⟨rfl, tk8, hto, htr⟩
  rw [each_hear] at hto htr
  have H8 : Hid (DkAny base w S D G pw (settleT t) w8) := ⟨tk8, hs _ _ _ _ hto, htr⟩
  clear hto htr hs ha hd2 hr2 H7
  go_wp2_with fail
  go_end0
  obtain ⟨tk9, h9, hr9⟩ := H8.out
  exact ⟨rfl, tk9, h9.done HL.out, hr9⟩

end Go.Proofs.YtfpemdbiplfkgacGreat

/-
  The law's own example of desks: what its steps make of a town. No walk.
-/
namespace Go.Proofs.YtfpemdbiplfkgacGreat
open Go Go.RowKit

def bgS1 (w : Int) : Tst := ⟨1, w, 0, 0, ⟨#[]⟩⟩
def bgS3 : Tst := ⟨2, 0, 0, 0, ⟨#[97, 98]⟩⟩
def bgS4 : Tst := ⟨2, 1, 0, 0, ⟨#[99]⟩⟩
def bgT1 : Twn := (tDo twn0 (bgS1 0)).2
def bgT2 : Twn := (tDo bgT1 (bgS1 1)).2
def bgT3 : Twn := (tDo bgT2 bgS3).2
def bgT4 : Twn := (tDo bgT3 bgS4).2
def bgDA : Dd := ⟨1, 0, 1, 0, 0, 0, ⟨#[97, 98]⟩⟩
def bgDB : Dd := ⟨1, 1, 1, 0, 0, 0, ⟨#[99]⟩⟩
def bgW0 : Wr := ⟨0, 0, 2, [], [bgDA], 0⟩
def bgW1 : Wr := ⟨1, 0, 2, [], [bgDB], 0⟩

theorem bgC1 : (tDo twn0 (bgS1 0)).1 = 0 := by decide +kernel
theorem bgC2 : (tDo bgT1 (bgS1 1)).1 = 0 := by decide +kernel
theorem bgC3 : (tDo bgT2 bgS3).1 = 0 := by decide +kernel
theorem bgC4 : (tDo bgT3 bgS4).1 = 0 := by decide +kernel
theorem bgI1 : TwI bgT1 := ti_do twn_start _
theorem bgI2 : TwI bgT2 := ti_do bgI1 _
theorem bgI3 : TwI bgT3 := ti_do bgI2 _
theorem bgI4 : TwI bgT4 := ti_do bgI3 _
theorem bgX0 : bgT4.ws 0 = some bgW0 := by kernel_rfl
theorem bgX1 : bgT4.ws 1 = some bgW1 := by kernel_rfl
theorem bgX2 : bgT4.ws 2 = none := by kernel_rfl
theorem bgX3 : bgT4.ws 3 = none := by kernel_rfl

def bgU1 : Twn := ⟨comesB bgT4.b bgDA, setF bgT4.ws 0 (some (sentW bgW0))⟩
def bgU2 : Twn := ⟨comesB bgU1.b bgDB, setF bgU1.ws 1 (some (sentW bgW1))⟩
theorem bgY1 : comesC bgT4.b bgDA = 0 := by decide +kernel
theorem bgY2 : comesC bgU1.b bgDB = 0 := by decide +kernel
theorem bgZ1 : sendAll bgT4 0 = bgU1 := by
  rcases sendAll_one bgX0 (d := bgDA) rfl rfl with ⟨_, e⟩ | ⟨e, _⟩
  · exact e
  · exact absurd bgY1 e
theorem bgV1 : bgU1.ws 1 = some bgW1 := by kernel_rfl
theorem bgZ2 : sendAll bgU1 1 = bgU2 := by
  rcases sendAll_one bgV1 (d := bgDB) rfl rfl with ⟨_, e⟩ | ⟨e, _⟩
  · exact e
  · exact absurd bgY2 e
theorem bgV2 : bgU2.ws 2 = none := by kernel_rfl
theorem bgV3 : bgU2.ws 3 = none := by kernel_rfl
theorem bgSent : sendTo 4 bgT4 = bgU2 := by
  show sendAll (sendAll (sendAll (sendAll bgT4 0) 1) 2) 3 = bgU2
  rw [bgZ1, bgZ2, sendAll_none bgV2, sendAll_none bgV3]
theorem bgLen : bgU2.b.ds.length = 2 := by decide +kernel
theorem bgDs0 : bgU2.b.ds[0]? = some bgDA := by kernel_rfl
theorem bgDs1 : bgU2.b.ds[1]? = some bgDB := by kernel_rfl
theorem bgTxt : (textL bgU2.b.chars).length = 3 := by decide +kernel
theorem bgV4 : bgU2.ws 1 = some (sentW bgW1) := by kernel_rfl
theorem bgH1 : hearC (sentW bgW1) bgDA = 0 := by decide +kernel
theorem bgH2 : hearC (hearW (sentW bgW1) bgDA) bgDB = 0 := by decide +kernel

theorem hear_step {u : Twn} (hu : TwI u) {v : Int} {r : Wr} (hw : u.ws v = some r) {d : Dd} (hd : u.b.ds[r.seen]? = some d) (hc : hearC r d = 0) :
    hearAll u v = hearAll (hearT u v r).2 v ∧ (hearT u v r).2.ws v = some (hearW r d) ∧ (hearT u v r).2.b.ds = u.b.ds ∧ TwI (hearT u v r).2 := by
  have h1 := ti_hear hu hw
  refine ⟨by rw [hearAll_some hw, if_pos (h1.2 d hd hc)], ?_, hear_ds u v r, h1.1⟩
  unfold hearT
  rw [hd]
  show (if hearC r d = 0 then (saysC u.b v (hearW r d).least, (⟨saysB u.b v (hearW r d).least, setF u.ws v (some (hearW r d))⟩ : Twn)) else (hearC r d, dropT u v)).2.ws v = _
  rw [if_pos hc]
  exact setF_same _ _ _

theorem hear_ws {u : Twn} {v k : Int} {r : Wr} (h : k ≠ v) : (hearT u v r).2.ws k = u.ws k := by
  unfold hearT
  cases u.b.ds[r.seen]? with
  | none => rfl
  | some d =>
    show (if hearC r d = 0 then (saysC u.b v (hearW r d).least, (⟨saysB u.b v (hearW r d).least, setF u.ws v (some (hearW r d))⟩ : Twn)) else (hearC r d, dropT u v)).2.ws k = _
    split
    · exact setF_other _ _ h
    · exact setF_other _ _ h

theorem hearAll_other {u : Twn} (hu : TwI u) {v : Int} : TwI (hearAll u v) ∧ (hearAll u v).b.ds = u.b.ds ∧ ∀ k, k ≠ v → (hearAll u v).ws k = u.ws k :=
  hearAll_ind (fun x => TwI x ∧ x.b.ds = u.b.ds ∧ ∀ k, k ≠ v → x.ws k = u.ws k) (fun x r hx hw => ⟨(ti_hear hx.1 hw).1, by rw [hear_ds]; exact hx.2.1, fun k hk => by rw [hear_ws hk]; exact hx.2.2 k hk⟩) _ _ rfl ⟨hu, rfl, fun _ _ => rfl⟩

/-- What is there behind it. -/
theorem beg_settled : ∃ r, (settleT bgT4).ws 1 = some r ∧ (settleT bgT4).b.ds.length = 2 ∧ (textL (settleT bgT4).b.chars).length = 3 := by
  have hset : settleT bgT4 = hearTo 4 bgU2 := by rw [settleT, bgSent]
  have hI : TwI bgU2 := by rw [← bgSent]; exact ti_sendTo bgI4 4
  have hds : (hearTo 4 bgU2).b.ds = bgU2.b.ds := hearTo_ds 4
  rw [hset, chars_ds hds, hds]
  refine (fun ⟨r, hr⟩ => ⟨r, hr, bgLen, bgTxt⟩ : (∃ r, (hearTo 4 bgU2).ws 1 = some r) → _) ?_
  obtain ⟨a1, a2, a3⟩ := hearAll_other hI (v := 0)
  have hh1 : (hearAll bgU2 0).ws 1 = some (sentW bgW1) := by rw [a3 1 (by decide)]; exact bgV4
  obtain ⟨s1, s2, s3, s4⟩ := hear_step a1 hh1 (d := bgDA) (by rw [a2]; exact bgDs0) bgH1
  obtain ⟨p1, p2, p3, p4⟩ := hear_step s4 s2 (d := bgDB) (by rw [s3, a2]; exact bgDs1) bgH2
  have hend : ∀ u : Twn, u.ws 1 = some (hearW (hearW (sentW bgW1) bgDA) bgDB) → u.b.ds = bgU2.b.ds → hearAll u 1 = u := fun u h1 h2 => by
    refine hearAll_same (fun w hw => ?_)
    rw [h1, Option.some.injEq] at hw
    subst hw
    rw [h2, bgLen]
    rfl
  have e1 := hend _ p2 (by rw [p3, s3, a2])
  have e2 : hearAll (hearAll bgU2 0) 1 = (hearT (hearT (hearAll bgU2 0) 1 (sentW bgW1)).2 1 (hearW (sentW bgW1) bgDA)).2 := by rw [s1, p1, e1]
  have n2 : (hearAll (hearAll bgU2 0) 1).ws 2 = none := by rw [e2, hear_ws (by decide), hear_ws (by decide), a3 2 (by decide)]; exact bgV2
  have n3 : (hearAll (hearAll bgU2 0) 1).ws 3 = none := by rw [e2, hear_ws (by decide), hear_ws (by decide), a3 3 (by decide)]; exact bgV3
  refine ⟨hearW (hearW (sentW bgW1) bgDA) bgDB, ?_⟩
  show (hearAll (hearAll (hearAll (hearAll bgU2 0) 1) 2) 3).ws 1 = _
  rw [hearAll_none n2, hearAll_none n3, e2]
  exact p2

end Go.Proofs.YtfpemdbiplfkgacGreat

/-
  The contracts of the writer's Open and of seenBytes.
-/
namespace Go.Proofs.YtfpemdbiplfkgacGreat
open Go.RowKit

abbrev zeroDeed : Dd := ⟨0, 0, 0, 0, 0, 0, ⟨#[]⟩⟩

theorem set_deed : ∀ (l : List Dd) (i : Nat) (y : Dd), i < l.length →
    (((((((cellsD l).set (i * 7) (.int .i64 y.kind)).set (i * 7 + 1) (.int .i64 y.by_)).set (i * 7 + 2) (.int .i64 y.no)).set (i * 7 + 3) (.int .i64 y.seen)).set (i * 7 + 4) (.int .i64 y.at_)).set (i * 7 + 5) (.int .i64 y.many)).set (i * 7 + 6) (.string y.text) = cellsD (l.set i y)
  | [], i, _, hi => absurd hi (Nat.not_lt_zero _)
  | x :: l, 0, y, _ => by simp [cellsD, ddCells]
  | x :: l, i + 1, y, hi => by
    have ih := set_deed l i y (by simpa using hi)
    have e : ∀ (r : Nat) (a : List Value) (u : Value), (ddCells x ++ a).set ((i + 1) * 7 + r) u = ddCells x ++ a.set (i * 7 + r) u := fun r a u => by
      have h7 : (ddCells x).length = 7 := rfl
      rw [List.set_append_right (h := by rw [h7]; omega), h7, show (i + 1) * 7 + r - 7 = i * 7 + r by omega]
    have e0 := fun a u => e 0 a u
    simp only [Nat.add_zero] at e0
    rw [cellsD, List.set_cons_succ, cellsD, ← ih, e0, e, e, e, e, e, e]

/-- In the middle of Open: the first k deeds are laid. -/
structure OI (w : World) (v : Value) (L : List Dd) (wk : World) : Prop where
  below : Below w.heap.size w wk
  own : OwnD wk w.heap.size v L

theorem OI.after {w wk w' : World} {v : Value} {L : List Dd} (h : OI w v L wk) (hb : Below wk.heap.size wk w') : OI w v L w' := ⟨below_after h.below hb, h.own.below hb⟩

theorem OI.put {w wk : World} {g n cap : Nat} {L : List Dd} (h : OI w (.slice (some ⟨g, 0, none⟩) n cap) L wk) (hn : L.length = n) {i : Nat} (hi : i < L.length) (y : Dd) :
    OI w (.slice (some ⟨g, 0, none⟩) n cap) (L.set i y) (((((((wk.setCell ⟨g, i * 7, none⟩ (.int .i64 y.kind)).setCell ⟨g, i * 7 + 1, none⟩ (.int .i64 y.by_)).setCell ⟨g, i * 7 + 2, none⟩ (.int .i64 y.no)).setCell ⟨g, i * 7 + 3, none⟩ (.int .i64 y.seen)).setCell ⟨g, i * 7 + 4, none⟩ (.int .i64 y.at_)).setCell ⟨g, i * 7 + 5, none⟩ (.int .i64 y.many)).setCell ⟨g, i * 7 + 6, none⟩ (.string y.text)) := by
  obtain ⟨hb, ho⟩ := h
  have hg := (World.ownsRow.lt ho g rfl).1
  refine ⟨((((((hb.setCell (p := ⟨g, _, none⟩) hg _).setCell (p := ⟨g, _, none⟩) hg _).setCell (p := ⟨g, _, none⟩) hg _).setCell (p := ⟨g, _, none⟩) hg _).setCell (p := ⟨g, _, none⟩) hg _).setCell (p := ⟨g, _, none⟩) hg _).setCell (p := ⟨g, _, none⟩) hg _, ?_⟩
  unfold OwnD at ho ⊢
  rw [List.length_set, ← set_deed L i y hi, hn]
  rw [hn] at ho
  exact ((((((ho.stored _ _).1.stored _ _).1.stored _ _).1.stored _ _).1.stored _ _).1.stored _ _).1.stored _ _ |>.1

theorem ownD_spot {w : World} {base g n cap : Nat} {L : List Dd} (h : OwnD w base (.slice (some ⟨g, 0, none⟩) n cap) L) (hn : L.length = n) {j : Nat} (hj : j < n * 7) : (∃ u, w.cell? ⟨g, j, none⟩ = some u) ∧ w.frozen? ⟨g, j, none⟩ = false := by
  unfold OwnD at h
  rw [hn] at h
  refine ⟨?_, World.ownsRow.frozenAt h j⟩
  have h1 := World.ownsRow.cellAt h j hj
  have h2 := h.1
  rw [h1, List.getElem?_eq_getElem (by omega)]
  exact ⟨_, rfl⟩

theorem cellsD_zero : ∀ n : Nat, cellsD (List.replicate n zeroDeed) = (madeCells zeroDdV.cells (n * 7)).toList := by
  intro n
  apply List.ext_getElem?
  intro j
  have hz : (madeCells zeroDdV.cells (n * 7)).toList.length = n * 7 := by rw [Array.length_toList, size_madeCells]
  by_cases hj : j < n * 7
  · have hd : j = j / 7 * 7 + j % 7 := by omega
    have hr : j % 7 < 7 := Nat.mod_lt _ (by omega)
    have hi : j / 7 < (List.replicate n zeroDeed).length := by rw [List.length_replicate]; omega
    have e : (madeCells zeroDdV.cells (n * 7)).toList[j]? = some (zeroDdV.cells.getD (j % 7) default) := by
      rw [List.getElem?_eq_getElem (by rw [hz]; exact hj)]
      simp [madeCells, Value.cells]
    rw [e]
    conv => lhs; rw [hd]
    rw [cellsD_get _ _ _ hi hr, List.getElem_replicate]
    generalize j % 7 = r at hr
    rcases (show r = 0 ∨ r = 1 ∨ r = 2 ∨ r = 3 ∨ r = 4 ∨ r = 5 ∨ r = 6 by omega) with rfl | rfl | rfl | rfl | rfl | rfl | rfl <;> rfl
  · rw [List.getElem?_eq_none (by rw [cellsD_len, List.length_replicate]; omega), List.getElem?_eq_none (by omega)]

theorem run_makeDeeds (n : Nat) (hn : n ≤ 100000) (w : World) : (Instr.makeSlice 38 (.int .i64 n) (.int .i64 n)).run Tryz.prog w = .ok (.slice (some ⟨w.heap.size, 0, none⟩) n n) (w.alloc (.cells (madeCells zeroDdV.cells (n * 7)) 41)) := by
  obtain ⟨i0, hi, hz0, hz1, hz2⟩ := info_parts Tryz.infoDeed
  have := run_make (P := Tryz.prog) w 38 41 i0 zeroDdV Tryz.underlying38 hi hz0 .i64 .i64 n n (by omega) (Int.le_refl _) (by rw [hz2]; omega) (by omega)
  simp only [Int.toNat_natCast, hz1] at this
  exact this

theorem take_rep_len (es : List Dd) (k : Nat) (h : k ≤ es.length) : (es.take k ++ List.replicate (es.length - k) zeroDeed).length = es.length := by
  rw [List.length_append, List.length_take, List.length_replicate]; omega
theorem take_rep_set (es : List Dd) {k : Nat} (h : k < es.length) : (es.take k ++ List.replicate (es.length - k) zeroDeed).set k es[k] = es.take (k + 1) ++ List.replicate (es.length - (k + 1)) zeroDeed := by
  have e : (es.take k).length = k := by rw [List.length_take]; omega
  rw [List.set_append_right (h := by omega), e, Nat.sub_self, show es.length - k = (es.length - (k + 1)) + 1 by omega, List.replicate_succ, List.set_cons_zero, List.take_succ_eq_append_getElem h, List.append_assoc]
  rfl

set_option maxRecDepth 20000 in
set_option maxHeartbeats 1600000 in
theorem open_pw {w : World} {base P : Nat} {S : Nat → Prop} {lv ov : Value} {tvs : List Value} {l : List Ch} {es : List Dd} {ts : List (List Ch)} {me next seen sent : Int} (h : PwAt w base S P lv ov tvs l es ts me next seen sent) (hes : es.length ≤ 1000) :
    Calls Tryz.prog 18 #[.pointer (some ⟨P, 0, none⟩)] w fun e w' => ∃ v', e = .returned v' ∧ OwnD w' w.heap.size v' es ∧ Below w.heap.size w w' := by
  have HA : Hid (PwAt w base S P lv ov tvs l es ts me next seen sent) := h
  have c4 := h.cells.opens
  have hlt := h.cells.lt
  obtain ⟨ao, capo, rfl⟩ := h.topen.form
  clear h
  have HE : Hid (∃ n, es.length = n) := ⟨_, rfl⟩
  obtain ⟨n, hn⟩ := HE.out
  have HN : Hid (es.length = n) := hn
  have hmk := run_makeDeeds n (by omega)
  have HO : Hid (OI w (.slice (some ⟨w.heap.size, 0, none⟩) n n) (es.take 0 ++ List.replicate (es.length - 0) zeroDeed) (w.alloc (.cells (madeCells zeroDdV.cells (n * 7)) 41))) := by
    refine ⟨below1 _ _, ?_⟩
    have hz : (madeCells zeroDdV.cells (n * 7)).size = n * 7 := by rw [size_madeCells]
    have := World.ownsRow_lit (base := w.heap.size) (size := 7) (e := 41) w (madeCells zeroDdV.cells (n * 7)) n (Nat.le_refl _) (by unfold maxLen; omega) hz
    unfold OwnD
    rw [List.take_zero, List.nil_append, Nat.sub_zero, List.length_replicate, cellsD_zero, hn]
    exact this
  rw [hn] at c4 hes
  clear hn HE
  go_enter Tryz.func18, Tryz.ntmps18
  go_wp2
  go_loopw [17] (fun i wr => ∃ k : Nat, k ≤ n ∧ i = .int .i64 k ∧ Hid (OI w (.slice (some ⟨w.heap.size, 0, none⟩) n n) (es.take k ++ List.replicate (es.length - k) zeroDeed) wr)) (fun i _ => n - (intOf i).toNat)
  case atStart => exact ⟨0, Nat.zero_le _, rfl, HO⟩
  case round =>
    obtain ⟨k, hk, rfl, HJ⟩ := hrel
    clear HO hmk
    by_cases hlt2 : k < n
    · have hkl : k < es.length := by rw [HN.out]; exact hlt2
      have hT := HA.out.topen.below HJ.out.below
      have hkv : k < tvs.length := by rw [hT.len]; exact hkl
      obtain ⟨g, cap, hov⟩ := hT.place (by omega)
      simp only [Value.slice.injEq] at hov
      obtain ⟨rfl, -, rfl⟩ := hov
      obtain ⟨⟨hg, h0, h1, h2, h3, h4, h5, h6⟩, h7⟩ := hT.nth rfl hkl hkv
      have hml : (es.take k ++ List.replicate (es.length - k) zeroDeed).length = n := by rw [take_rep_len es k (by omega), HN.out]
      obtain ⟨⟨u0, e0⟩, f0⟩ := ownD_spot HJ.out.own hml (j := k * 7) (by omega)
      obtain ⟨⟨u1, e1⟩, f1⟩ := ownD_spot HJ.out.own hml (j := k * 7 + 1) (by omega)
      obtain ⟨⟨u2, e2⟩, f2⟩ := ownD_spot HJ.out.own hml (j := k * 7 + 2) (by omega)
      obtain ⟨⟨u3, e3⟩, f3⟩ := ownD_spot HJ.out.own hml (j := k * 7 + 3) (by omega)
      obtain ⟨⟨u4, e4⟩, f4⟩ := ownD_spot HJ.out.own hml (j := k * 7 + 4) (by omega)
      obtain ⟨⟨u5, e5⟩, f5⟩ := ownD_spot HJ.out.own hml (j := k * 7 + 5) (by omega)
      obtain ⟨⟨u6, e6⟩, f6⟩ := ownD_spot HJ.out.own hml (j := k * 7 + 6) (by omega)
      have hW : w.heap.size < wr.heap.size := (World.ownsRow.lt HJ.out.own w.heap.size rfl).2
      have hNX := OI.put HJ.out hml (i := k) (by rw [hml]; exact hlt2) es[k]
      rw [take_rep_set es hkl] at hNX
      have HNX : Hid _ := hNX.after (below1 _ (ooObj es[k] tvs[k]))
      clear hNX
      generalize hd : es[k] = d at *
      have hkt : k < ts.length := by rw [← hT.tooks.len]; exact hkv
      obtain ⟨ta, tcap, htf, _⟩ := (hT.tooks.nth k hkv hkt).lst.len
      generalize ts[k].length = tn at htf
      generalize htv : tvs[k] = tv at *
      subst htf
      obtain ⟨kind, by_, no, seen', at_, many, text⟩ := d
      simp only at h0 h1 h2 h3 h4 h5 h6 HNX
      clear hT hml HJ hd htv
      go_wp2
      go_roundw
      case rel => exact ⟨k + 1, by omega, by go_num, HNX⟩
      case measure => simp [intOf]; omega
    · obtain rfl : k = n := by omega
      have HE : Hid (es.take k ++ List.replicate (es.length - k) zeroDeed = es) := by show _ = _; rw [← HN.out, List.take_length, Nat.sub_self]; simp
      go_wp2
      go_ret
      exact ⟨_, rfl, by have := HJ.out.own; rw [HE.out] at this; exact this, HJ.out.below⟩

end Go.Proofs.YtfpemdbiplfkgacGreat
