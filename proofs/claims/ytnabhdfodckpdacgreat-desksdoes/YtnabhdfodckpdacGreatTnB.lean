/-
  A town by the document: NewTown, drop, LeastFor.
-/
import Derived.Test.YtnabhdfodckpdacGreatDkWr
import Derived.Test.YtnabhdfodckpdacGreatDkA
import Derived.Test.YtnabhdfodckpdacGreatWScC
import Derived.Test.YtnabhdfodckpdacGreatBkD
import Derived.Test.YtnabhdfodckpdacGreatFClone
namespace Go.Proofs.YtnabhdfodckpdacGreat
set_option maxRecDepth 20000
open Go Go.RowKit
abbrev bookZ : Array Value := #[.slice none 0 0, .bool false, .bool false, .bool false, .bool false, .int .i64 0, .int .i64 0, .int .i64 0, .int .i64 0, .int .i64 0, .int .i64 0, .int .i64 0, .int .i64 0]
theorem bookAt_start (w : World) {base : Nat} (hb : base ≤ w.heap.size) : BookAt (w.alloc (.cells bookZ 114)) base (fun k => k = w.heap.size) w.heap.size (.slice none 0 0) Bk.empty := by
 refine ⟨fun k e => ⟨by omega, by simp; omega⟩, rfl, ⟨by simp, by simp [go_sem], fun j hj => ?_, fun j hj => ?_, fun j hj => ?_, fun o ho => ?_⟩, World.ownsRow_nil _ _ _ _, fun k e => by simp [Value.ownBlock] at e⟩
 ·rcases (show j = 0 ∨ j = 1 ∨ j = 2 ∨ j = 3 by omega) with rfl | rfl | rfl | rfl <;> simp [go_sem, Bk.empty]
 ·rcases (show j = 0 ∨ j = 1 ∨ j = 2 ∨ j = 3 by omega) with rfl | rfl | rfl | rfl <;> simp [go_sem, Bk.empty]
 ·rcases (show j = 0 ∨ j = 1 ∨ j = 2 ∨ j = 3 by omega) with rfl | rfl | rfl | rfl <;> simp [go_sem, Bk.empty]
 ·rcases (show o = 0 ∨ o = 1 ∨ o = 2 ∨ o = 3 ∨ o = 4 ∨ o = 5 ∨ o = 6 ∨ o = 7 ∨ o = 8 ∨ o = 9 ∨ o = 10 ∨ o = 11 ∨ o = 12 by omega) with rfl | rfl | rfl | rfl | rfl | rfl | rfl | rfl | rfl | rfl | rfl | rfl | rfl <;> simp [go_sem]
theorem twT_start (w : World) (G : Nat) : TwC (w.alloc (.cells (deskZ G) 116)) w.heap.size G (fun _ => 0) (hasW twn0) := by
 refine ⟨by simp, by simp [go_sem], fun k hk => ?_, fun o ho => ?_⟩
 ·rcases (show k = 0 ∨ k = 1 ∨ k = 2 ∨ k = 3 by omega) with rfl | rfl | rfl | rfl <;> simp [go_sem, hasW, twn0, ptrOf]
 ·rcases (show o = 0 ∨ o = 1 ∨ o = 2 ∨ o = 3 ∨ o = 4 by omega) with rfl | rfl | rfl | rfl | rfl <;> simp [go_sem]
theorem tnAt_any {base : Nat} (w : World) (hb : base ≤ w.heap.size) : TnAt base (w.heap.size + 1) w.heap.size (fun _ => 0) twn0 ((w.alloc (.cells bookZ 114)).alloc (.cells (deskZ w.heap.size) 116)) (fun k => w.heap.size ≤ k ∧ k < w.heap.size + 2) := by
 have hsz : ((w.alloc (.cells bookZ 114)).alloc (.cells (deskZ w.heap.size) 116)).heap.size = w.heap.size + 2 := by simp
 have h0 : Hq base (fun _ => Th.no base) w (fun _ => False) w := ⟨fun _ => 0, ⟨fun _ e => absurd rfl e, hb, fun _ _ => trivial⟩, fun _ e => absurd rfl e, Kept.refl _ _⟩
 have h1 := Hq.lay h0 (below1 w (.cells bookZ 114)) (i := 1) (by omega) (Th.book base w.heap.size Bk.empty) ⟨_, (bookAt_start w hb).mono (fun k e => ⟨by omega, by simp; omega⟩) (fun k e => ⟨by omega, e.2⟩)⟩
 have h2 := Hq.lay h1 (below1 _ (.cells (deskZ w.heap.size) 116)) (i := 6) (by omega) (Th.tw base (w.heap.size + 1) w.heap.size (fun _ => 0) (hasW twn0)) ⟨⟨by simp, by simp⟩, by have := twT_start (w.alloc (.cells bookZ 114)) w.heap.size; simpa using this⟩
 have h3 : TnIn base w (fun _ => False) (w.heap.size + 1) w.heap.size (fun _ => 0) twn0 (fun _ => Th.no _) _ := tnIn_of h2 (fun T hp => hp) (fun T hp => hp) (fun k hk T hp => by show (Th.no _).P _ T; trivial) (fun j T hp => trivial)
 obtain ⟨ow, h4⟩ := h3
 refine ⟨fun k e => by omega, ow, h4.at_, fun k e => ?_⟩
 rcases h4.old k e with x | x
 ·exact x.elim
 ·omega
set_option maxHeartbeats 400000 in
theorem new_tn (w : World) : Calls Tryz.prog 24 #[] w fun e w' => e = .returned (.pointer (some ⟨w.heap.size + 1, 0, none⟩)) ∧ w' = (w.alloc (.cells bookZ 114)).alloc (.cells (deskZ w.heap.size) 116) := by
 go_enter Tryz.func24, Tryz.ntmps24
 go_wp2
 go_ret
 exact ⟨by simp, rfl⟩
set_option maxHeartbeats 1600000 in
theorem drop_tn {w : World} {base D G : Nat} {pw : Nat → Nat} {t : Twn} {S : Nat → Prop} (h : TnAt base D G pw t w S) {k : Nat} (hk : k < 4) :
 Calls Tryz.prog 70 #[.pointer (some ⟨D, 0, none⟩), .int .i64 (k : Int)] w fun e w' => e = .returned (.tuple #[]) ∧ TnTo base w S D G pw (dropT t k) w' := by
 have HI : Hid (TnIn base w S D G pw t (fun _ => Th.no base) w) := h.start
 have HL : Hid (base ≤ w.heap.size ∧ ∀ k, S k → base ≤ k ∧ k < w.heap.size) := h.held
 have g0 := HI.out.cells.book
 have hlt := HI.out.cells.lt
 have hk4 : (k : Int) < 4 := by omega
 clear h
 go_enter Tryz.func70, Tryz.ntmps70
 go_wp2_with fail
 obtain ⟨T, dv, hl, hs⟩ := HI.out.book
 refine (leave_bk hl (k : Int)).mono ?_
 rintro e w1 ⟨rfl, hto⟩
 have H1 : Hid (TnIn base w S D G pw ⟨leaveB t.b k, t.ws⟩ (fun _ => Th.no base) w1) := hs _ _ hto
 clear hto hs hl HI g0 hlt
 have H2 : Hid (TnIn base w S D G pw (dropT t k) (fun _ => Th.no base) (w1.setCell ⟨D, 1 + k, none⟩ (.pointer none))) := H1.out.clear hk
 obtain ⟨u1, c1⟩ : ∃ u, w1.cell? ⟨D, 1 + k, none⟩ = some u := ⟨_, H1.out.cells.ws k hk⟩
 have f1 := H1.out.cells.free (1 + k) (by omega)
 have hlt := H1.out.cells.lt
 clear H1
 go_wp2_with fail
 go_end0
 exact ⟨rfl, H2.out.done HL.out⟩
set_option maxHeartbeats 1600000 in
theorem leastFor_bk {w : World} {base B : Nat} {S : Nat → Prop} {dv : Value} {b : Bk} (h : BookAt w base S B dv b) (hg : Good b) (seen : Nat) (hsl : seen ≤ b.ds.length) :
 Calls Tryz.prog 73 #[.pointer (some ⟨B, 0, none⟩), .int .i64 seen] w fun e w' => e = .returned (.int .i64 (leastFor b seen)) ∧ w' = w := by
 have HA : Hid (BookAt w base S B dv b) := h
 have HG : Hid (Good b) := hg
 have hsm := hg.small
 have c0 := h.cells.deeds
 have hlt := h.cells.lt
 have hL := h.ownD.dlst
 obtain ⟨a, cap, rfl⟩ := h.ownD.len
 have HDL : Hid (DLst w (.slice a b.ds.length cap) b.ds) := hL
 clear h hg hL
 go_enter Tryz.func73, Tryz.ntmps73
 go_wp2_with fail
 refine (least_bk HA.out HG.out).mono ?_
 rintro e w1 ⟨rfl, hw1⟩
 rw [hw1]
 clear hw1 w1
 go_wp2_with fail
 go_loop [5, 6] (fun n i => ∃ j : Nat, seen + j ≤ b.ds.length ∧ i = .int .i64 ((seen : Int) + j) ∧ n = .int .i64 (spokeTo b seen j)) (fun _ i => b.ds.length - (intOf i).toNat)
 case atStart => exact ⟨0, hsl, by go_num, rfl⟩
 case round =>
  obtain ⟨j, hj, rfl, rfl⟩ := hrel
  by_cases hjl : seen + j < b.ds.length
  ·have HLP : Hid (spokeTo b seen (j + 1) = min (spokeTo b seen j) b.ds[seen + j].seen) := spoke_succ hjl
   obtain ⟨a', len', cap', he, e1, e2, e3⟩ := HDL.out
   simp only [Value.slice.injEq] at he
   obtain ⟨rfl, rfl, rfl⟩ := he
   rcases e3 with e3 | ⟨bb, off, rfl, hr⟩
   ·omega
   obtain ⟨hbb, g0, g1, g2, g3, g4, g5, g6⟩ := hr.at_ (seen + j) hjl
   generalize b.ds[seen + j] = d at *
   obtain ⟨kind, by_, no, dseen, at_, many, text⟩ := d
   simp only at g3
   have hji : ((seen : Int) + j) < (b.ds.length : Int) := by omega
   rw [show ((seen : Int) + (j : Int)) = ((seen + j : Nat) : Int) by omega] at *
   generalize spokeTo b seen j = n at *
   clear hr e1 e2 g0 g1 g2 g4 g5 g6
   by_cases hs : dseen < n
   ·have HN2 : Hid (spokeTo b seen (j + 1) = dseen) := by have h5 := HLP.out; show _ = _; rw [h5]; show min n dseen = dseen; omega
    clear HLP
    go_wp2
    go_round
    case rel => exact ⟨j + 1, by omega, by go_num, by rw [HN2.out]⟩
    case measure => simp [intOf]; omega
   ·have HN2 : Hid (spokeTo b seen (j + 1) = n) := by have h5 := HLP.out; show _ = _; rw [h5]; show min n dseen = n; omega
    clear HLP
    go_wp2
    go_round
    case rel => exact ⟨j + 1, by omega, by go_num, by rw [HN2.out]⟩
    case measure => simp [intOf]; omega
  ·rw [spoke_all (by omega)]
   obtain ⟨least, hcq⟩ : ∃ c, leastFor b seen = c := ⟨_, rfl⟩
   have HCQ : Hid (leastFor b seen = least) := hcq
   rw [hcq]
   clear hcq
   go_wp2
   go_ret
   exact ⟨by rw [HCQ.out]; rfl, rfl⟩
end Go.Proofs.YtnabhdfodckpdacGreat

/-
  A town by the document: Do of steps that no scribe does; of one that comes.
-/
namespace Go.Proofs.YtnabhdfodckpdacGreat
set_option maxRecDepth 20000
open Go Go.RowKit
set_option maxHeartbeats 6400000 in
theorem tdo_bad {w : World} {base D G : Nat} {pw : Nat → Nat} {t : Twn} {S : Nat → Prop} (h : TnAt base D G pw t w S) {tk : Int → List (List Ch)} (hr : TR t tk) (x : Tst) (hkd : x.kind < 1 ∨ 7 < x.kind) :
 Calls Tryz.prog 26 #[.pointer (some ⟨D, 0, none⟩), tsV x] w fun e w' => e = .returned (.int .i64 2) ∧ TnTo base w S D G pw t w' := by
 have HI : Hid (TnIn base w S D G pw t (updT (fun _ => Th.no base) 0 (Th.st base w.heap.size x)) (w.alloc (tsObj x))) := h.start.step x 0
 have HL : Hid (base ≤ w.heap.size ∧ ∀ k, S k → base ≤ k ∧ k < w.heap.size) := h.held
 have HR : Hid (TR t tk) := hr
 obtain ⟨kind, w_, at_, many, text⟩ := x
 clear h hr
 rcases (show kind < 1 ∨ 7 < kind from hkd) with hq | hq
 ·clear hkd
  go_enter Tryz.func26, Tryz.ntmps26
  go_wp2
  go_ret
  exact ⟨rfl, HI.out.done HL.out⟩
 ·have hq2 : ¬ kind < 1 := by omega
  clear hkd
  go_enter Tryz.func26, Tryz.ntmps26
  go_wp2
  go_ret
  exact ⟨rfl, HI.out.done HL.out⟩
def TBox (D G E : Nat) (x : Tst) (wk : World) : Prop := DLog D G wk ∧ TsAt wk E 0 x
section
variable {base D G E : Nat} {pw : Nat → Nat} {t : Twn} {ex : Nat → Th base} {w0 wk w' : World} {S : Nat → Prop} {x : Tst}
theorem TnIn.dlog (h : TnIn base w0 S D G pw t ex wk) : DLog D G wk := ⟨h.cells.lt, h.cells.book⟩
theorem TnIn.tbox (h : TnIn base w0 S D G pw t (updT ex 0 (Th.st base E x)) wk) : TBox D G E x wk := ⟨h.dlog, h.stepAt⟩
theorem TnIn.shut : Shut (fun wk => TnIn base w0 S D G pw t ex wk) := fun _ _ h hb => h.after hb
def TBk (D G E : Nat) (x : Tst) (dv : Value) (wk : World) : Prop := TBox D G E x wk ∧ G < wk.heap.size ∧ wk.cell? ⟨G, 0, none⟩ = some dv
structure JT (base : Nat) (w0 : World) (S : Nat → Prop) (D G : Nat) (pw : Nat → Nat) (t : Twn) (E : Nat) (x : Tst) (dv : Value) (wk : World) : Prop where
 di : TnIn base w0 S D G pw t (updT (fun _ => Th.no base) 0 (Th.st base E x)) wk
 bk : G < wk.heap.size ∧ wk.cell? ⟨G, 0, none⟩ = some dv
theorem JT.tbk {dv : Value} (h : JT base w0 S D G pw t E x dv wk) : TBk D G E x dv wk := ⟨h.di.tbox, h.bk⟩
theorem JT.after {dv : Value} (h : JT base w0 S D G pw t E x dv wk) (hb : Below wk.heap.size wk w') : JT base w0 S D G pw t E x dv w' :=
 ⟨h.di.after hb, Nat.lt_of_lt_of_le h.bk.1 hb.size, by rw [(bcell hb).1 _ _ h.bk.1]; exact h.bk.2⟩
structure JTL (base : Nat) (w0 : World) (S : Nat → Prop) (D G : Nat) (pw : Nat → Nat) (t : Twn) (E : Nat) (x : Tst) (dv : Value) (l : List Ch) (u : Value) (wk : World) : Prop where
 jt : JT base w0 S D G pw t E x dv wk
 own : Lst wk u l
structure NT (base : Nat) (w0 : World) (S : Nat → Prop) (D G : Nat) (pw : Nat → Nat) (t : Twn) (E : Nat) (x : Tst) (dv : Value) (r : Wr) (u : Value) (wk : World) : Prop where
 jt : JT base w0 S D G pw t E x dv wk
 new : ∃ P w1 v1, u = .pointer (some ⟨P, 0, none⟩) ∧ TnIn base w0 S D G pw t (updT (fun _ => Th.no base) 0 (Th.st base E x)) w1 ∧ Below w1.heap.size w1 wk ∧ ScAt wk w1.heap.size (fun k => w1.heap.size ≤ k ∧ k < wk.heap.size) P v1 (.slice none 0 0) r.base [] r.me r.seen r.next 0
theorem NT.seat {P k : Nat} {dv : Value} {r : Wr} (h : NT base w0 S D G pw t E x dv r (.pointer (some ⟨P, 0, none⟩)) wk) (hk : k < 4) (hr : r.opens = []) (hs : r.sent = 0) :
 JT base w0 S D G (setN pw k P) ⟨t.b, setF t.ws k (some r)⟩ E x dv (wk.setCell ⟨D, 1 + k, none⟩ (.pointer (some ⟨P, 0, none⟩))) := by
 obtain ⟨P', w1, v1, he, h1, h2, h3⟩ := h.new
 obtain rfl : P = P' := by simpa using he
 have hne := h.jt.di.ne
 refine ⟨h1.newS h2 hk hr hs h3, by simpa [World.setCell] using h.jt.bk.1, ?_⟩
 rw [World.cell?_of_block (a := ⟨G, 0, none⟩) (Below.heap_setCell _ _ _ _ (fun e => hne e.symm))]
 exact h.jt.bk.2
end
set_option maxHeartbeats 6400000 in
theorem tdo_join_no {w : World} {base D G : Nat} {pw : Nat → Nat} {t : Twn} {S : Nat → Prop} (h : TnAt base D G pw t w S) {tk : Int → List (List Ch)} (hr : TR t tk) (x : Tst) (hkd : x.kind = 1) (hc : joinC t.b x.w ≠ 0) :
 Calls Tryz.prog 26 #[.pointer (some ⟨D, 0, none⟩), tsV x] w fun e w' => e = .returned (.int .i64 (joinC t.b x.w)) ∧ TnTo base w S D G pw t w' := by
 have HI : Hid (TnIn base w S D G pw t (updT (fun _ => Th.no base) 0 (Th.st base w.heap.size x)) (w.alloc (tsObj x))) := h.start.step x 0
 have HL : Hid (base ≤ w.heap.size ∧ ∀ k, S k → base ≤ k ∧ k < w.heap.size) := h.held
 have HR : Hid (TR t tk) := hr
 have HC : Hid (joinC t.b x.w ≠ 0) := hc
 clear hc
 obtain ⟨kind, w_, at_, many, text⟩ := x
 clear h hr
 obtain rfl : kind = 1 := hkd
 obtain ⟨nx, hnx⟩ : ∃ c, joinN t.b w_ = c := ⟨_, rfl⟩
 have HNX : Hid (joinN t.b w_ = nx) := hnx
 obtain ⟨cd, hcd⟩ : ∃ c, joinC t.b w_ = c := ⟨_, rfl⟩
 have HCD : Hid (joinC t.b w_ = cd) := hcd
 have HB : Hid (joinB t.b w_ = t.b) := join_no HC.out
 have hcn : ¬ cd = 0 := by rw [← hcd]; exact HC.out
 clear hnx hcd
 go_enter Tryz.func26, Tryz.ntmps26
 go_wp2_with fail
 generalize World.alloc _ _ = w5 at *
 refine wrs (fun wk => TBox D G w.heap.size ⟨1, w_, at_, many, text⟩ wk) (fun i => i == 6) (fun wk => TnIn base w S D G pw t (updT (fun _ => Th.no base) 0 (Th.st base w.heap.size ⟨1, w_, at_, many, text⟩)) wk) (by kernel_rfl) (by kernel_rfl) (by kernel_rfl) (fun _ h => h.tbox) (HI.out.after (Below.refl _ _).drew) ?_
 refine wsb (some 29) w rfl (.pointer (some ⟨D, 0, none⟩)) rfl (by kernel_rfl) (fun wk hwk => ?_) ?_
 ·generalize hA : Act.eval _ = ρ
  have s0 : ρ (.tmp 0) = .pointer (some ⟨D, 0, none⟩) := by rw [← hA]; kernel_rfl
  clear hA
  go_simp
 go_big_quiet_op
 refine wsb (some 30) w rfl (.pointer (some ⟨D, 0, none⟩)) rfl (by kernel_rfl) (fun wk hwk => ?_) ?_
 ·generalize hA : Act.eval _ = ρ
  have s29 : ρ (.tmp 29) = .pointer (some ⟨D, 0, none⟩) := by rw [← hA]; kernel_rfl
  clear hA
  go_simp
 go_big_quiet_op
 refine wsb (some 31) w rfl (.pointer (some ⟨D, 0, none⟩)) rfl (by kernel_rfl) (fun wk hwk => ?_) ?_
 ·generalize hA : Act.eval _ = ρ
  have s30 : ρ (.tmp 30) = .pointer (some ⟨D, 0, none⟩) := by rw [← hA]; kernel_rfl
  clear hA
  go_simp
 go_big_quiet_op
 refine wsb (some 32) w rfl (.pointer (some ⟨G, 0, none⟩)) rfl (by kernel_rfl) (fun wk hwk => ?_) ?_
 ·generalize hA : Act.eval _ = ρ
  have s31 : ρ (.tmp 31) = .pointer (some ⟨D, 0, none⟩) := by rw [← hA]; kernel_rfl
  clear hA
  have g0 := hwk.1.2
  have hlt := hwk.1.1
  go_simp
 go_big_quiet_op
 refine wsb (some 33) w rfl (.pointer (some ⟨w.heap.size, 1, none⟩)) rfl (by kernel_rfl) (fun wk hwk => ?_) ?_
 ·generalize hA : Act.eval _ = ρ
  have s3 : ρ (.tmp 3) = .pointer (some ⟨w.heap.size, 0, none⟩) := by rw [← hA]; kernel_rfl
  clear hA
  go_simp
 go_big_quiet_op
 refine wsb (some 34) w rfl (.int .i64 (w_)) rfl (by kernel_rfl) (fun wk hwk => ?_) ?_
 ·generalize hA : Act.eval _ = ρ
  have s33 : ρ (.tmp 33) = .pointer (some ⟨w.heap.size, 1, none⟩) := by rw [← hA]; kernel_rfl
  clear hA
  obtain ⟨_, c0, c1, c2, c3, c4⟩ := hwk.2
  simp only [Nat.zero_add] at c1
  go_simp
 go_big_quiet_op
 refine wpStage_bigSpine (some 35) w rfl rfl rfl (fun u => u = .tuple #[.int .i64 (nx), .int .i64 (cd)]) (fun u wk => TnIn base w S D G pw ⟨joinB t.b w_, t.ws⟩ (updT (fun _ => Th.no base) 0 (Th.st base w.heap.size ⟨1, w_, at_, many, text⟩)) wk) (⟨_, rfl⟩) (fun _ _ h => h.tbox) (fun wk hwk => ?_) (fun u9 hu9 => ?_)
 ·generalize hA : Act.eval _ = ρ
  have s32 : ρ (.tmp 32) = .pointer (some ⟨G, 0, none⟩) := by rw [← hA]; kernel_rfl
  have s34 : ρ (.tmp 34) = .int .i64 (w_) := by rw [← hA]; kernel_rfl
  have sf : ρ (.func 67) = .func (.func 67) #[] #[] := by rw [← hA]; kernel_rfl
  clear hA
  go_simp
  obtain ⟨T, dv, hl, hs⟩ := hwk.book
  refine (join_bk hl HR.out.ti.good _).mono ?_
  rintro e w7 ⟨rfl, hto⟩
  exact ⟨_, rfl, by rw [HNX.out, HCD.out], hs _ _ hto⟩
 subst hu9
 go_big_quiet_op
 refine wsb (some 28) w rfl (.tuple #[.int .i64 (nx), .int .i64 (cd)]) rfl (by kernel_rfl) (fun wk hwk => ?_) ?_
 ·generalize hA : Act.eval _ = ρ
  have s35 : ρ (.tmp 35) = .tuple #[.int .i64 (nx), .int .i64 (cd)] := by rw [← hA]; kernel_rfl
  clear hA
  go_simp
 go_big_quiet_op
 refine wsb (some 36) w rfl (.int .i64 (nx)) rfl (by kernel_rfl) (fun wk hwk => ?_) ?_
 ·generalize hA : Act.eval _ = ρ
  have s28 : ρ (.tmp 28) = .tuple #[.int .i64 (nx), .int .i64 (cd)] := by rw [← hA]; kernel_rfl
  clear hA
  go_simp
 go_big_quiet_op
 refine wsb (some 37) w rfl (.int .i64 (cd)) rfl (by kernel_rfl) (fun wk hwk => ?_) ?_
 ·generalize hA : Act.eval _ = ρ
  have s28 : ρ (.tmp 28) = .tuple #[.int .i64 (nx), .int .i64 (cd)] := by rw [← hA]; kernel_rfl
  clear hA
  go_simp
 go_big_quiet_op
 refine wsb (some 5) w rfl (.int .i64 (nx)) rfl (by kernel_rfl) (fun wk hwk => ?_) ?_
 ·generalize hA : Act.eval _ = ρ
  have s36 : ρ (.tmp 36) = .int .i64 (nx) := by rw [← hA]; kernel_rfl
  clear hA
  go_simp
 go_big_quiet_op
 refine wsb (some 6) w rfl (.int .i64 (cd)) rfl (by kernel_rfl) (fun wk hwk => ?_) ?_
 ·generalize hA : Act.eval _ = ρ
  have s37 : ρ (.tmp 37) = .int .i64 (cd) := by rw [← hA]; kernel_rfl
  clear hA
  go_simp
 go_big_quiet_op
 refine wsn (fun w9 hw9 => ?_)
 have H9 : Hid (TnIn base w S D G pw ⟨joinB t.b w_, t.ws⟩ (updT (fun _ => Th.no base) 0 (Th.st base w.heap.size ⟨1, w_, at_, many, text⟩)) w9) := hw9
 clear hw9 HI
 go_wp2_with fail
 go_ret
 exact ⟨by rw [HCD.out]; rfl, by have := H9.out; rw [HB.out] at this; exact this.done HL.out⟩
set_option maxHeartbeats 6400000 in
theorem tdo_join_yes {w : World} {base D G : Nat} {pw : Nat → Nat} {t : Twn} {S : Nat → Prop} (h : TnAt base D G pw t w S) {tk : Int → List (List Ch)} (hr : TR t tk) (x : Tst) (hkd : x.kind = 1) {k : Nat} (hk : k < 4) (hxw : x.w = k) (hc : joinC t.b k = 0) :
 Calls Tryz.prog 26 #[.pointer (some ⟨D, 0, none⟩), tsV x] w fun e w' => e = .returned (.int .i64 0) ∧ ∃ P, TnTo base w S D G (setN pw k P) ⟨joinB t.b k, setF t.ws k (some (newW t.b k))⟩ w' := by
 have HI : Hid (TnIn base w S D G pw t (updT (fun _ => Th.no base) 0 (Th.st base w.heap.size x)) (w.alloc (tsObj x))) := h.start.step x 0
 have HL : Hid (base ≤ w.heap.size ∧ ∀ k, S k → base ≤ k ∧ k < w.heap.size) := h.held
 have HR : Hid (TR t tk) := hr
 have HJC : Hid (joinC t.b k = 0) := hc
 clear hc
 obtain ⟨kind, w_, at_, many, text⟩ := x
 clear h hr
 obtain rfl : kind = 1 := hkd
 obtain rfl : w_ = (k : Int) := hxw
 have HNX : Hid (joinN t.b k = t.b.last k + 1) := by show joinN t.b k = _; rw [joinN, if_pos HJC.out]
 have HCD : Hid (joinC t.b k = 0) := HJC.out
 have HLE : Hid (t.b.chars.length ≤ 1000) := by have := small_chars (b := t.b); show _ ≤ _; omega
 have HAL : Hid (Good (joinB t.b k)) := good_join _ HR.out.ti.good
 have hk4 : (k : Int) < 4 := by omega
 go_enter Tryz.func26, Tryz.ntmps26
 go_wp2_with fail
 generalize World.alloc _ _ = w5 at *
 refine wrs (fun wk => TBox D G w.heap.size ⟨1, (k : Int), at_, many, text⟩ wk) (fun i => i == 6) (fun wk => TnIn base w S D G pw t (updT (fun _ => Th.no base) 0 (Th.st base w.heap.size ⟨1, (k : Int), at_, many, text⟩)) wk) (by kernel_rfl) (by kernel_rfl) (by kernel_rfl) (fun _ h => h.tbox) (HI.out.after (Below.refl _ _).drew) ?_
 refine wsb (some 29) w rfl (.pointer (some ⟨D, 0, none⟩)) rfl (by kernel_rfl) (fun wk hwk => ?_) ?_
 ·generalize hA : Act.eval _ = ρ
  have s0 : ρ (.tmp 0) = .pointer (some ⟨D, 0, none⟩) := by rw [← hA]; kernel_rfl
  clear hA
  go_simp
 go_big_quiet_op
 refine wsb (some 30) w rfl (.pointer (some ⟨D, 0, none⟩)) rfl (by kernel_rfl) (fun wk hwk => ?_) ?_
 ·generalize hA : Act.eval _ = ρ
  have s29 : ρ (.tmp 29) = .pointer (some ⟨D, 0, none⟩) := by rw [← hA]; kernel_rfl
  clear hA
  go_simp
 go_big_quiet_op
 refine wsb (some 31) w rfl (.pointer (some ⟨D, 0, none⟩)) rfl (by kernel_rfl) (fun wk hwk => ?_) ?_
 ·generalize hA : Act.eval _ = ρ
  have s30 : ρ (.tmp 30) = .pointer (some ⟨D, 0, none⟩) := by rw [← hA]; kernel_rfl
  clear hA
  go_simp
 go_big_quiet_op
 refine wsb (some 32) w rfl (.pointer (some ⟨G, 0, none⟩)) rfl (by kernel_rfl) (fun wk hwk => ?_) ?_
 ·generalize hA : Act.eval _ = ρ
  have s31 : ρ (.tmp 31) = .pointer (some ⟨D, 0, none⟩) := by rw [← hA]; kernel_rfl
  clear hA
  have g0 := hwk.1.2
  have hlt := hwk.1.1
  go_simp
 go_big_quiet_op
 refine wsb (some 33) w rfl (.pointer (some ⟨w.heap.size, 1, none⟩)) rfl (by kernel_rfl) (fun wk hwk => ?_) ?_
 ·generalize hA : Act.eval _ = ρ
  have s3 : ρ (.tmp 3) = .pointer (some ⟨w.heap.size, 0, none⟩) := by rw [← hA]; kernel_rfl
  clear hA
  go_simp
 go_big_quiet_op
 refine wsb (some 34) w rfl (.int .i64 ((k : Int))) rfl (by kernel_rfl) (fun wk hwk => ?_) ?_
 ·generalize hA : Act.eval _ = ρ
  have s33 : ρ (.tmp 33) = .pointer (some ⟨w.heap.size, 1, none⟩) := by rw [← hA]; kernel_rfl
  clear hA
  obtain ⟨_, c0, c1, c2, c3, c4⟩ := hwk.2
  simp only [Nat.zero_add] at c1
  go_simp
 go_big_quiet_op
 refine wpStage_bigSpine (some 35) w rfl rfl rfl (fun u => u = .tuple #[.int .i64 (t.b.last k + 1), .int .i64 (0)]) (fun u wk => TnIn base w S D G pw ⟨joinB t.b (k : Int), t.ws⟩ (updT (fun _ => Th.no base) 0 (Th.st base w.heap.size ⟨1, (k : Int), at_, many, text⟩)) wk) (⟨_, rfl⟩) (fun _ _ h => h.tbox) (fun wk hwk => ?_) (fun u9 hu9 => ?_)
 ·generalize hA : Act.eval _ = ρ
  have s32 : ρ (.tmp 32) = .pointer (some ⟨G, 0, none⟩) := by rw [← hA]; kernel_rfl
  have s34 : ρ (.tmp 34) = .int .i64 ((k : Int)) := by rw [← hA]; kernel_rfl
  have sf : ρ (.func 67) = .func (.func 67) #[] #[] := by rw [← hA]; kernel_rfl
  clear hA
  go_simp
  obtain ⟨T, dv, hl, hs⟩ := hwk.book
  refine (join_bk hl HR.out.ti.good _).mono ?_
  rintro e w7 ⟨rfl, hto⟩
  exact ⟨_, rfl, by rw [HNX.out, HCD.out], hs _ _ hto⟩
 subst hu9
 go_big_quiet_op
 refine wsb (some 28) w rfl (.tuple #[.int .i64 (t.b.last k + 1), .int .i64 (0)]) rfl (by kernel_rfl) (fun wk hwk => ?_) ?_
 ·generalize hA : Act.eval _ = ρ
  have s35 : ρ (.tmp 35) = .tuple #[.int .i64 (t.b.last k + 1), .int .i64 (0)] := by rw [← hA]; kernel_rfl
  clear hA
  go_simp
 go_big_quiet_op
 refine wsb (some 36) w rfl (.int .i64 (t.b.last k + 1)) rfl (by kernel_rfl) (fun wk hwk => ?_) ?_
 ·generalize hA : Act.eval _ = ρ
  have s28 : ρ (.tmp 28) = .tuple #[.int .i64 (t.b.last k + 1), .int .i64 (0)] := by rw [← hA]; kernel_rfl
  clear hA
  go_simp
 go_big_quiet_op
 refine wsb (some 37) w rfl (.int .i64 (0)) rfl (by kernel_rfl) (fun wk hwk => ?_) ?_
 ·generalize hA : Act.eval _ = ρ
  have s28 : ρ (.tmp 28) = .tuple #[.int .i64 (t.b.last k + 1), .int .i64 (0)] := by rw [← hA]; kernel_rfl
  clear hA
  go_simp
 go_big_quiet_op
 refine wsb (some 5) w rfl (.int .i64 (t.b.last k + 1)) rfl (by kernel_rfl) (fun wk hwk => ?_) ?_
 ·generalize hA : Act.eval _ = ρ
  have s36 : ρ (.tmp 36) = .int .i64 (t.b.last k + 1) := by rw [← hA]; kernel_rfl
  clear hA
  go_simp
 go_big_quiet_op
 refine wsb (some 6) w rfl (.int .i64 (0)) rfl (by kernel_rfl) (fun wk hwk => ?_) ?_
 ·generalize hA : Act.eval _ = ρ
  have s37 : ρ (.tmp 37) = .int .i64 (0) := by rw [← hA]; kernel_rfl
  clear hA
  go_simp
 go_big_quiet_op
 refine wsn (fun w9 hw9 => ?_)
 have H9 : Hid (TnIn base w S D G pw ⟨joinB t.b (k : Int), t.ws⟩ (updT (fun _ => Th.no base) 0 (Th.st base w.heap.size ⟨1, (k : Int), at_, many, text⟩)) w9) := hw9
 clear hw9 HI
 go_wp2_with fail
 obtain ⟨T, dv, hbk, _⟩ := H9.out.book
 obtain ⟨a, cap, hdv⟩ := hbk.ownD.len
 rw [show (Twn.b (⟨joinB t.b k, t.ws⟩ : Twn)).ds = t.b.ds from joinB_ds _ _] at hdv
 subst hdv
 have HJ : Hid (JT base w S D G pw ⟨joinB t.b k, t.ws⟩ w.heap.size ⟨1, (k : Int), at_, many, text⟩ (.slice a t.b.ds.length cap) w9) := ⟨H9.out, hbk.cells.lt, hbk.cells.deeds⟩
 clear hbk H9
 refine wrs (fun wk => TBk D G w.heap.size ⟨1, (k : Int), at_, many, text⟩ (.slice a t.b.ds.length cap) wk) (fun i => i == 18 || i == 19 || i == 23) (fun wk => JT base w S D G pw ⟨joinB t.b k, t.ws⟩ w.heap.size ⟨1, (k : Int), at_, many, text⟩ (.slice a t.b.ds.length cap) wk) (by kernel_rfl) (by kernel_rfl) (by kernel_rfl) (fun _ h => h.tbk) (HJ.out.after (Below.refl _ _).drew) ?_
 refine wsb (some 40) w rfl (.pointer (some ⟨D, 0, none⟩)) rfl (by kernel_rfl) (fun wk hwk => ?_) ?_
 ·generalize hA : Act.eval _ = ρ
  have s0 : ρ (.tmp 0) = .pointer (some ⟨D, 0, none⟩) := by rw [← hA]; kernel_rfl
  clear hA
  go_simp
 go_big_quiet_op
 refine wsb (some 41) w rfl (.pointer (some ⟨w.heap.size, 1, none⟩)) rfl (by kernel_rfl) (fun wk hwk => ?_) ?_
 ·generalize hA : Act.eval _ = ρ
  have s3 : ρ (.tmp 3) = .pointer (some ⟨w.heap.size, 0, none⟩) := by rw [← hA]; kernel_rfl
  clear hA
  go_simp
 go_big_quiet_op
 refine wsb (some 42) w rfl (.int .i64 ((k : Int))) rfl (by kernel_rfl) (fun wk hwk => ?_) ?_
 ·generalize hA : Act.eval _ = ρ
  have s41 : ρ (.tmp 41) = .pointer (some ⟨w.heap.size, 1, none⟩) := by rw [← hA]; kernel_rfl
  clear hA
  obtain ⟨_, c0, c1, c2, c3, c4⟩ := hwk.1.2
  simp only [Nat.zero_add] at c1
  go_simp
 go_big_quiet_op
 refine wsb (some 43) w rfl (.pointer (some ⟨w.heap.size, 1, none⟩)) rfl (by kernel_rfl) (fun wk hwk => ?_) ?_
 ·generalize hA : Act.eval _ = ρ
  have s3 : ρ (.tmp 3) = .pointer (some ⟨w.heap.size, 0, none⟩) := by rw [← hA]; kernel_rfl
  clear hA
  go_simp
 go_big_quiet_op
 refine wsb (some 44) w rfl (.int .i64 ((k : Int))) rfl (by kernel_rfl) (fun wk hwk => ?_) ?_
 ·generalize hA : Act.eval _ = ρ
  have s43 : ρ (.tmp 43) = .pointer (some ⟨w.heap.size, 1, none⟩) := by rw [← hA]; kernel_rfl
  clear hA
  obtain ⟨_, c0, c1, c2, c3, c4⟩ := hwk.1.2
  simp only [Nat.zero_add] at c1
  go_simp
 go_big_quiet_op
 refine wsb (some 45) w rfl (.int .i64 (t.b.last k + 1)) rfl (by kernel_rfl) (fun wk hwk => ?_) ?_
 ·generalize hA : Act.eval _ = ρ
  have s5 : ρ (.tmp 5) = .int .i64 (t.b.last k + 1) := by rw [← hA]; kernel_rfl
  clear hA
  go_simp
 go_big_quiet_op
 refine wsb (some 46) w rfl (.pointer (some ⟨D, 0, none⟩)) rfl (by kernel_rfl) (fun wk hwk => ?_) ?_
 ·generalize hA : Act.eval _ = ρ
  have s0 : ρ (.tmp 0) = .pointer (some ⟨D, 0, none⟩) := by rw [← hA]; kernel_rfl
  clear hA
  go_simp
 go_big_quiet_op
 refine wsb (some 47) w rfl (.pointer (some ⟨D, 0, none⟩)) rfl (by kernel_rfl) (fun wk hwk => ?_) ?_
 ·generalize hA : Act.eval _ = ρ
  have s46 : ρ (.tmp 46) = .pointer (some ⟨D, 0, none⟩) := by rw [← hA]; kernel_rfl
  clear hA
  go_simp
 go_big_quiet_op
 refine wsb (some 48) w rfl (.pointer (some ⟨D, 0, none⟩)) rfl (by kernel_rfl) (fun wk hwk => ?_) ?_
 ·generalize hA : Act.eval _ = ρ
  have s47 : ρ (.tmp 47) = .pointer (some ⟨D, 0, none⟩) := by rw [← hA]; kernel_rfl
  clear hA
  go_simp
 go_big_quiet_op
 refine wsb (some 49) w rfl (.pointer (some ⟨G, 0, none⟩)) rfl (by kernel_rfl) (fun wk hwk => ?_) ?_
 ·generalize hA : Act.eval _ = ρ
  have s48 : ρ (.tmp 48) = .pointer (some ⟨D, 0, none⟩) := by rw [← hA]; kernel_rfl
  clear hA
  have g0 := hwk.1.1.2
  have hlt := hwk.1.1.1
  go_simp
 go_big_quiet_op
 refine wsb (some 50) w rfl (.pointer (some ⟨G, 0, none⟩)) rfl (by kernel_rfl) (fun wk hwk => ?_) ?_
 ·generalize hA : Act.eval _ = ρ
  have s49 : ρ (.tmp 49) = .pointer (some ⟨G, 0, none⟩) := by rw [← hA]; kernel_rfl
  clear hA
  go_simp
 go_big_quiet_op
 refine wsb (some 51) w rfl (.pointer (some ⟨G, 0, none⟩)) rfl (by kernel_rfl) (fun wk hwk => ?_) ?_
 ·generalize hA : Act.eval _ = ρ
  have s50 : ρ (.tmp 50) = .pointer (some ⟨G, 0, none⟩) := by rw [← hA]; kernel_rfl
  clear hA
  go_simp
 go_big_quiet_op
 refine wsb (some 52) w rfl (.slice a t.b.ds.length cap) rfl (by kernel_rfl) (fun wk hwk => ?_) ?_
 ·generalize hA : Act.eval _ = ρ
  have s51 : ρ (.tmp 51) = .pointer (some ⟨G, 0, none⟩) := by rw [← hA]; kernel_rfl
  clear hA
  have g1 := hwk.2.2
  have hlt := hwk.2.1
  go_simp
 go_big_quiet_op
 refine wsb (some 53) w rfl (.int .i64 ((t.b.ds.length : Int))) rfl (by kernel_rfl) (fun wk hwk => ?_) ?_
 ·generalize hA : Act.eval _ = ρ
  have s52 : ρ (.tmp 52) = .slice a t.b.ds.length cap := by rw [← hA]; kernel_rfl
  clear hA
  go_simp
 go_big_quiet_op
 refine wsb (some 54) w rfl (.pointer (some ⟨D, 0, none⟩)) rfl (by kernel_rfl) (fun wk hwk => ?_) ?_
 ·generalize hA : Act.eval _ = ρ
  have s0 : ρ (.tmp 0) = .pointer (some ⟨D, 0, none⟩) := by rw [← hA]; kernel_rfl
  clear hA
  go_simp
 go_big_quiet_op
 refine wsb (some 55) w rfl (.pointer (some ⟨D, 0, none⟩)) rfl (by kernel_rfl) (fun wk hwk => ?_) ?_
 ·generalize hA : Act.eval _ = ρ
  have s54 : ρ (.tmp 54) = .pointer (some ⟨D, 0, none⟩) := by rw [← hA]; kernel_rfl
  clear hA
  go_simp
 go_big_quiet_op
 refine wsb (some 56) w rfl (.pointer (some ⟨D, 0, none⟩)) rfl (by kernel_rfl) (fun wk hwk => ?_) ?_
 ·generalize hA : Act.eval _ = ρ
  have s55 : ρ (.tmp 55) = .pointer (some ⟨D, 0, none⟩) := by rw [← hA]; kernel_rfl
  clear hA
  go_simp
 go_big_quiet_op
 refine wsb (some 57) w rfl (.pointer (some ⟨G, 0, none⟩)) rfl (by kernel_rfl) (fun wk hwk => ?_) ?_
 ·generalize hA : Act.eval _ = ρ
  have s56 : ρ (.tmp 56) = .pointer (some ⟨D, 0, none⟩) := by rw [← hA]; kernel_rfl
  clear hA
  have g0 := hwk.1.1.2
  have hlt := hwk.1.1.1
  go_simp
 go_big_quiet_op
 refine wpStage_bigSpine (some 58) w rfl rfl rfl (fun u => True) (fun u wk => JTL base w S D G pw ⟨joinB t.b k, t.ws⟩ w.heap.size ⟨1, (k : Int), at_, many, text⟩ (.slice a t.b.ds.length cap) t.b.chars u wk) (⟨undef, trivial⟩) (fun _ _ h => h.jt.tbk) (fun wk hwk => ?_) (fun u18 hu18 => ?_)
 ·generalize hA : Act.eval _ = ρ
  have s57 : ρ (.tmp 57) = .pointer (some ⟨G, 0, none⟩) := by rw [← hA]; kernel_rfl
  have sf : ρ (.func 68) = .func (.func 68) #[] #[] := by rw [← hA]; kernel_rfl
  clear hA
  go_simp
  obtain ⟨T, dv, hl, _⟩ := hwk.di.book
  refine (bchars_any hl HAL.out).mono ?_
  rintro e w7 ⟨v7, rfl, hown, hb⟩
  rw [show (Twn.b (⟨joinB t.b k, t.ws⟩ : Twn)).chars = t.b.chars from joinB_chars _ _] at hown
  exact ⟨_, rfl, hwk.after hb, hown.lst⟩
 clear hu18
 go_big_quiet_op
 refine wpStage_bigSpine (some 59) w rfl rfl rfl (fun u => ∃ P, u = .pointer (some ⟨P, 0, none⟩)) (fun u wk => NT base w S D G pw ⟨joinB t.b k, t.ws⟩ w.heap.size ⟨1, (k : Int), at_, many, text⟩ (.slice a t.b.ds.length cap) (newW t.b k) u wk) (⟨.pointer (some ⟨0, 0, none⟩), 0, rfl⟩) (fun _ _ h => h.jt.tbk) (fun wk hwk => ?_) (fun u19 hu19 => ?_)
 ·generalize hA : Act.eval _ = ρ
  have s44 : ρ (.tmp 44) = .int .i64 ((k : Int)) := by rw [← hA]; kernel_rfl
  have s45 : ρ (.tmp 45) = .int .i64 (t.b.last k + 1) := by rw [← hA]; kernel_rfl
  have s53 : ρ (.tmp 53) = .int .i64 ((t.b.ds.length : Int)) := by rw [← hA]; kernel_rfl
  have s58 : ρ (.tmp 58) = u18 := by rw [← hA]; kernel_rfl
  have sf : ρ (.func 41) = .func (.func 41) #[] #[] := by rw [← hA]; kernel_rfl
  clear hA
  go_simp
  refine (new_sc hwk.own HLE.out k (t.b.last k + 1) t.b.ds.length).mono ?_
  rintro e w7 ⟨P, v1, rfl, hat, hb⟩
  exact ⟨_, rfl, ⟨P, rfl⟩, hwk.jt.after hb, P, wk, v1, rfl, hwk.jt.di, hb, hat⟩
 obtain ⟨P, rfl⟩ := hu19
 go_big_quiet_op
 refine wsb (some 60) w rfl (.pointer (some ⟨D, 0, none⟩)) rfl (by kernel_rfl) (fun wk hwk => ?_) ?_
 ·generalize hA : Act.eval _ = ρ
  have s40 : ρ (.tmp 40) = .pointer (some ⟨D, 0, none⟩) := by rw [← hA]; kernel_rfl
  clear hA
  go_simp
 go_big_quiet_op
 refine wsb (some 61) w rfl (.pointer (some ⟨D, 1, none⟩)) rfl (by kernel_rfl) (fun wk hwk => ?_) ?_
 ·generalize hA : Act.eval _ = ρ
  have s60 : ρ (.tmp 60) = .pointer (some ⟨D, 0, none⟩) := by rw [← hA]; kernel_rfl
  clear hA
  go_simp
 go_big_quiet_op
 refine wsb (some 62) w rfl (.pointer (some ⟨D, 1 + k, none⟩)) rfl (by kernel_rfl) (fun wk hwk => ?_) ?_
 ·generalize hA : Act.eval _ = ρ
  have s61 : ρ (.tmp 61) = .pointer (some ⟨D, 1, none⟩) := by rw [← hA]; kernel_rfl
  have s42 : ρ (.tmp 42) = .int .i64 ((k : Int)) := by rw [← hA]; kernel_rfl
  clear hA
  go_simp
 go_big_quiet_op
 refine wpStage_bigStore rfl rfl rfl (fun wk => JT base w S D G (setN pw k P) ⟨joinB t.b k, setF t.ws k (some (newW t.b k))⟩ w.heap.size ⟨1, (k : Int), at_, many, text⟩ (.slice a t.b.ds.length cap) wk) (fun _ h => h.tbk) (fun wk hwk => ?_) ?_
 ·generalize hA : Act.eval _ = ρ
  have s62 : ρ (.tmp 62) = .pointer (some ⟨D, 1 + k, none⟩) := by rw [← hA]; kernel_rfl
  have s59 : ρ (.tmp 59) = .pointer (some ⟨P, 0, none⟩) := by rw [← hA]; kernel_rfl
  clear hA
  have hq := hwk.seat hk rfl rfl
  obtain ⟨u1, cc⟩ : ∃ u, wk.cell? ⟨D, 1 + k, none⟩ = some u := ⟨_, hwk.jt.di.cells.ws k hk⟩
  have ff := hwk.jt.di.cells.free (1 + k) (by omega)
  have hlt := hwk.jt.di.cells.lt
  go_simp
  exact hq
 refine wsn (fun w12 hw12 => ?_)
 have H12 : Hid (JT base w S D G (setN pw k P) ⟨joinB t.b k, setF t.ws k (some (newW t.b k))⟩ w.heap.size ⟨1, (k : Int), at_, many, text⟩ (.slice a t.b.ds.length cap) w12) := hw12
 clear hw12 HJ
 go_wp2_with fail
 go_ret
 exact ⟨rfl, P, H12.out.di.done HL.out⟩
end Go.Proofs.YtnabhdfodckpdacGreat
