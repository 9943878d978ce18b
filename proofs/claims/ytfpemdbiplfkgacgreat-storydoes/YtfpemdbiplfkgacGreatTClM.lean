/-
  Steps in memory; greatSteps; the law's own example of desks (desksBegun); played.
-/
import Derived.Test.YtfpemdbiplfkgacGreatWOpen
import Derived.BigRegion
namespace Go.Proofs.YtfpemdbiplfkgacGreat
open Go Go.RowKit

structure TSteps (w : World) (b off : Nat) (xs : List Tst) : Prop where
  lt : b < w.heap.size
  at_ : ∀ i (h : i < xs.length), TsAt w b (off + i * 5) xs[i]

theorem TSteps.below {w w' : World} {b off : Nat} {xs : List Tst} (h : TSteps w b off xs) (hb : Below w.heap.size w w') : TSteps w' b off xs :=
  ⟨by have := hb.size; have := h.lt; omega, fun i hi => (h.at_ i hi).below hb⟩

/-- The value is a slice that holds just those steps. -/
def TLst (w : World) (v : Value) (xs : List Tst) : Prop :=
  ∃ (a : Option Addr) (len cap : Nat), v = .slice a len cap ∧ xs.length = len ∧ len ≤ cap ∧ (len = 0 ∨ ∃ b off, a = some ⟨b, off, none⟩ ∧ TSteps w b off xs)

theorem TLst.below {w w' : World} {v : Value} {xs : List Tst} (h : TLst w v xs) (hb : Below w.heap.size w w') : TLst w' v xs := by
  obtain ⟨a, len, cap, rfl, h1, h2, h3⟩ := h
  refine ⟨a, len, cap, rfl, h1, h2, ?_⟩
  rcases h3 with h3 | ⟨b, off, rfl, hr⟩
  · exact .inl h3
  · exact .inr ⟨b, off, rfl, hr.below hb⟩

theorem TLst.len {w : World} {v : Value} {xs : List Tst} (h : TLst w v xs) : ∃ a cap, v = .slice a xs.length cap := by
  obtain ⟨a, len, cap, rfl, rfl, h2, h3⟩ := h
  exact ⟨a, cap, rfl⟩

theorem TLst.row {w : World} {a : Option Addr} {cap : Nat} {xs : List Tst} (h : TLst w (.slice a xs.length cap) xs) (hp : 0 < xs.length) : ∃ b off, a = some ⟨b, off, none⟩ ∧ TSteps w b off xs := by
  obtain ⟨a', len, cap', he, h1, h2, h3⟩ := h
  simp only [Value.slice.injEq] at he
  obtain ⟨rfl, rfl, rfl⟩ := he
  rcases h3 with h3 | h3
  · omega
  · exact h3

/-- What greatSteps answers. -/
def GreatTIs (xs : List Tst) (w : World) (e : Ending) (w' : World) : Prop := ∃ g, e = .returned (.bool g) ∧ (g = false → xs.length ≤ 200) ∧ w' = w

theorem greatT_yes (xs : List Tst) (w : World) : GreatTIs xs w (.returned (.bool true)) w := ⟨true, rfl, fun e => (by cases e), rfl⟩

set_option maxRecDepth 20000 in
set_option maxHeartbeats 800000 in
theorem greatT_any (v : Value) (xs : List Tst) (w : World) (h : TLst w v xs) :
    Calls Tryz.prog 23 #[v] w fun e w' => GreatTIs xs w e w' := by
  obtain ⟨a, cap, rfl⟩ := h.len
  have HD : Hid (TLst w (.slice a xs.length cap) xs) := h
  clear h
  go_enter Tryz.func23, Tryz.ntmps23
  go_wp2
  go_loop [3] (fun i => ∃ k : Nat, k ≤ xs.length ∧ k ≤ 300 ∧ i = .int .i64 k) (fun i => 300 - (intOf i).toNat)
  case atStart => exact ⟨0, Nat.zero_le _, by omega, rfl⟩
  case round =>
    obtain ⟨k, hk, hk2, rfl⟩ := hrel
    by_cases hlt : k < xs.length
    · by_cases hlt2 : k < 300
      · obtain ⟨b, off, rfl, hr⟩ := HD.out.row (by omega)
        obtain ⟨_, c0, c1, c2, c3, c4⟩ := hr.at_ k hlt
        generalize xs[k] = x at *
        clear hr c0 c1 c2 c3
        by_cases ht : 100 < x.text.size
        · go_wp2
          go_ret
          exact greatT_yes xs w
        · go_wp2
          go_round
          case rel => exact ⟨k + 1, by omega, by omega, by go_num⟩
          case measure => simp [intOf]; omega
      · go_wp2
        go_ret
        exact ⟨decide (200 < (xs.length : Int)), rfl, fun e => (by have := of_decide_eq_false e; omega), rfl⟩
    · go_wp2
      go_ret
      exact ⟨decide (200 < (xs.length : Int)), rfl, fun e => (by have := of_decide_eq_false e; omega), rfl⟩

/-! Desks of a law: all of them is new. -/

section
variable {w wk w' : World} {D G : Nat} {pw : Nat → Nat} {t : Twn}

theorem DkAny.after {base : Nat} {S : Nat → Prop} (h : DkAny base w S D G pw t wk) (hb : Below wk.heap.size wk w') : DkAny base w S D G pw t w' := by
  obtain ⟨tk, h1, h2⟩ := h
  exact ⟨tk, h1.after hb, h2⟩
theorem DkAny.below (h : DkAny w.heap.size w (fun _ => False) D G pw t wk) : Below w.heap.size w wk := by
  obtain ⟨tk, h1, h2⟩ := h
  exact (Hq.kept h1).below (fun _ e => e.elim) (Nat.le_refl _)
theorem DkAny.cells {base : Nat} {S : Nat → Prop} (h : DkAny base w S D G pw t wk) : TwC wk D G pw (hasW t) := by
  obtain ⟨tk, h1, h2⟩ := h
  exact h1.cells
theorem DkAny.ti {base : Nat} {S : Nat → Prop} (h : DkAny base w S D G pw t wk) : TwI t := by
  obtain ⟨tk, h1, h2⟩ := h
  exact h2.ti

theorem any_start (w : World) : DkAny w.heap.size w (fun _ => False) (w.heap.size + 1) w.heap.size (fun _ => 0) twn0 ((w.alloc (.cells logZ 112)).alloc (.cells (deskZ w.heap.size) 76)) :=
  ⟨fun _ => [], by
    have h := dkAt_start w
    refine dk_lay (w := (w.alloc (.cells logZ 112)).alloc (.cells (deskZ w.heap.size) 76)) ?_ rfl (below_after (below1 _ _) (below1 _ _))
    have hsz : ((w.alloc (.cells logZ 112)).alloc (.cells (deskZ w.heap.size) 76)).heap.size = w.heap.size + 2 := by simp
    rw [hsz]
    exact h, tr_start⟩

/-- A step, told of whatever is kept. -/
theorem DkAny.does {base : Nat} {S : Nat → Prop} (h : DkAny base w S D G pw t wk) (x : Tst) :
    Calls Tryz.prog 26 #[.pointer (some ⟨D, 0, none⟩), tsV x] wk fun e w' => e = .returned (.int .i64 (tDo t x).1) ∧ ∃ pw', DkAny base w S D G pw' (tDo t x).2 w' ∧ (x.kind ≠ 1 → pw' = pw) := by
  obtain ⟨tk, h1, h2⟩ := h
  obtain ⟨T, ha, hs⟩ := h1.call
  exact (do_dk ha h2 x).mono fun e w' ⟨e1, pw', tk', e2, e3, e4⟩ => ⟨e1, pw', ⟨tk', hs _ _ _ _ e2, e3⟩, e4⟩
theorem DkAny.settles {base : Nat} {S : Nat → Prop} (h : DkAny base w S D G pw t wk) :
    Calls Tryz.prog 29 #[.pointer (some ⟨D, 0, none⟩)] wk fun e w' => e = .returned (.tuple #[]) ∧ DkAny base w S D G pw (settleT t) w' := by
  obtain ⟨tk, h1, h2⟩ := h
  obtain ⟨T, ha, hs⟩ := h1.call
  exact (settle_dk ha h2).mono fun e w' ⟨e1, tk', e2, e3⟩ => ⟨e1, tk', hs _ _ _ _ e2, e3⟩
theorem DkAny.text {base : Nat} {S : Nat → Prop} (h : DkAny base w S D G pw t wk) :
    Calls Tryz.prog 42 #[.pointer (some ⟨G, 0, none⟩)] wk fun e w' => e = .returned (.string (strOfNums (textL t.b.chars))) ∧ Below wk.heap.size wk w' := by
  obtain ⟨tk, h1, h2⟩ := h
  obtain ⟨T, dv, lv, hl, _⟩ := h1.log
  exact text_lg hl
theorem DkAny.len {base : Nat} {S : Nat → Prop} (h : DkAny base w S D G pw t wk) :
    Calls Tryz.prog 53 #[.pointer (some ⟨G, 0, none⟩)] wk fun e w' => e = .returned (.int .i64 t.b.ds.length) ∧ w' = wk := by
  obtain ⟨tk, h1, h2⟩ := h
  obtain ⟨T, dv, lv, hl, _⟩ := h1.log
  exact len_lg hl
theorem DkAny.wtext {base : Nat} {S : Nat → Prop} (h : DkAny base w S D G pw t wk) {k : Nat} (hk : k < 4) {r : Wr} (he : t.ws k = some r) :
    Calls Tryz.prog 21 #[.pointer (some ⟨pw k, 0, none⟩)] wk fun e w' => e = .returned (.string (strOfNums (vw r.list r.seen r.me))) ∧ Below wk.heap.size wk w' := by
  obtain ⟨tk, h1, h2⟩ := h
  obtain ⟨T, lv, ov, tvs, hp, _⟩ := h1.wr hk he
  exact text_pw hp (by have := (tr_wok h2 he).len; omega)
theorem DkAny.wseen {base : Nat} {S : Nat → Prop} (h : DkAny base w S D G pw t wk) {k : Nat} (hk : k < 4) {r : Wr} (he : t.ws k = some r) :
    Calls Tryz.prog 10 #[.pointer (some ⟨pw k, 0, none⟩)] wk fun e w' => e = .returned (.int .i64 r.seen) ∧ w' = wk := by
  obtain ⟨tk, h1, h2⟩ := h
  obtain ⟨T, lv, ov, tvs, hp, _⟩ := h1.wr hk he
  exact seen_pw hp
theorem DkAny.wopen {base : Nat} {S : Nat → Prop} (h : DkAny base w S D G pw t wk) {k : Nat} (hk : k < 4) {r : Wr} (he : t.ws k = some r) :
    Calls Tryz.prog 18 #[.pointer (some ⟨pw k, 0, none⟩)] wk fun e w' => ∃ v', e = .returned v' ∧ OwnD w' wk.heap.size v' r.opens ∧ Below wk.heap.size wk w' := by
  obtain ⟨tk, h1, h2⟩ := h
  obtain ⟨T, lv, ov, tvs, hp, _⟩ := h1.wr hk he
  exact open_pw hp (by have := (tr_wok h2 he).few; omega)
theorem DkAny.writer {base : Nat} {S : Nat → Prop} (h : DkAny base w S D G pw t wk) (n : Int) :
    Calls Tryz.prog 76 #[.pointer (some ⟨D, 0, none⟩), .int .i64 n] wk fun e w' => e = .returned (deskP pw (hasW t) n) ∧ w' = wk := writer_dk h.cells n

end

theorem str_size (l : List Int) : (strOfNums l).size = l.length := by
  simp [strOfNums, ByteArray.size]

def bgTn : Nat → Twn
  | 0 => twn0
  | n + 1 => (tDo (bgTn n) (bgS1 n)).2
theorem bgTn_code {n : Nat} (h : n < 2) : (tDo (bgTn n) (bgS1 n)).1 = 0 := by
  rcases (show n = 0 ∨ n = 1 by omega) with rfl | rfl
  · exact bgC1
  · exact bgC2

set_option maxRecDepth 20000 in
set_option maxHeartbeats 3200000 in
theorem tbegun_any (w : World) : Calls Tryz.prog 22 #[] w fun e w' => e = .returned (.bool true) ∧ Below w.heap.size w w' := by
  have H0 : Hid (DkAny w.heap.size w (fun _ => False) (w.heap.size + 1) w.heap.size (fun _ => 0) twn0 ((w.alloc (.cells logZ 112)).alloc (.cells (deskZ w.heap.size) 76))) := any_start w
  go_enter Tryz.func22, Tryz.ntmps22
  go_wp2_with fail
  refine (new_dk w).mono ?_
  rintro e w1 ⟨rfl, rfl⟩
  generalize World.alloc _ _ = w1 at *
  generalize w.heap.size + 1 = D at *
  obtain ⟨G, hG⟩ : ∃ G, w.heap.size = G := ⟨_, rfl⟩
  have H1 : Hid (∃ G pw, DkAny w.heap.size w (fun _ => False) D G pw twn0 w1) := ⟨_, _, H0.out⟩
  clear H0 hG G
  go_wp2_with fail
  go_loopw [2] (fun i wr => ∃ n : Nat, n ≤ 2 ∧ i = .int .i64 n ∧ Hid (∃ G pw, DkAny w.heap.size w (fun _ => False) D G pw (bgTn n) wr)) (fun i _ => 2 - (intOf i).toNat)
  case atStart => exact ⟨0, by omega, rfl, H1.out⟩
  case round =>
    obtain ⟨n, hn, rfl, HW⟩ := hrel
    clear H1
    by_cases hlt : n < 2
    · have hlt' : (n : Int) < 2 := by omega
      have HC : Hid ((tDo (bgTn n) (bgS1 n)).1 = 0) := bgTn_code hlt
      go_wp2_with fail
      obtain ⟨G, pw, hd⟩ := HW.out
      refine (hd.does (bgS1 n)).mono ?_
      rintro e w2 ⟨rfl, pw2, hd2, -⟩
      rw [HC.out]
      have H2 : Hid (∃ G pw, DkAny w.heap.size w (fun _ => False) D G pw (bgTn (n + 1)) w2) := ⟨_, _, hd2⟩
      clear hd2 hd HW
      go_wp2_with fail
      go_roundw
      case rel => exact ⟨n + 1, by omega, by go_num, H2.out⟩
      case measure => simp [intOf]; omega
    · obtain rfl : n = 2 := by omega
      go_wp2_with fail
      obtain ⟨G, pw, hd⟩ := HW.out
      refine (hd.does bgS3).mono ?_
      rintro e w2 ⟨rfl, pw2, hd2, -⟩
      have hc3 : (tDo (bgTn 2) bgS3).1 = 0 := bgC3
      rw [hc3]
      have H2 : Hid (DkAny w.heap.size w (fun _ => False) D G pw2 bgT3 w2) := hd2
      clear hd2 hd HW hc3
      go_wp2_with fail
      refine (H2.out.does bgS4).mono ?_
      rintro e w3 ⟨rfl, pw3, hd3, -⟩
      have hc4 : (tDo bgT3 bgS4).1 = 0 := bgC4
      rw [hc4]
      have H3 : Hid (DkAny w.heap.size w (fun _ => False) D G pw3 bgT4 w3) := hd3
      clear hd3 H2 hc4
      go_wp2_with fail
      refine H3.out.settles.mono ?_
      rintro e w4 ⟨rfl, hd4⟩
      have H4 : Hid (DkAny w.heap.size w (fun _ => False) D G pw3 (settleT bgT4) w4) := hd4
      clear hd4 H3
      obtain ⟨r, hr, hlen, htx⟩ := beg_settled
      have HE : Hid ((settleT bgT4).ws ((1 : Nat) : Int) = some r) := hr
      have HT : Hid (vw r.list r.seen r.me = textL (settleT bgT4).b.chars) := (settle_text bgI4 hr).2.2
      have HLN : Hid ((settleT bgT4).b.ds.length = 2) := hlen
      have HTX : Hid ((textL (settleT bgT4).b.chars).length = 3) := htx
      have HS5 : Hid ((tDo (settleT bgT4) ⟨4, 1, 0, 0, ⟨#[]⟩⟩).1 = 5) := by
        show (tDo (settleT bgT4) ⟨4, 1, 0, 0, ⟨#[]⟩⟩).1 = 5
        rw [tDo_send, hr]
        show (sendT (settleT bgT4) 1 r).1 = 5
        unfold sendT
        rw [(settle_text bgI4 hr).1]
        rfl
      clear hr hlen htx
      generalize settleT bgT4 = tS at *
      go_wp2_with fail
      refine (H4.out.writer 1).mono ?_
      rintro e w5 ⟨rfl, rfl⟩
      rw [show deskP pw3 (hasW tS) 1 = .pointer (some ⟨pw3 1, 0, none⟩) from desk_some (k := 1) (by omega) HE.out]
      have g0 := H4.out.cells.book
      have hlt0 := H4.out.cells.lt
      go_wp2_with fail
      clear g0 hlt0
      refine H4.out.text.mono ?_
      rintro e w6 ⟨rfl, hb⟩
      have H6 : Hid (DkAny w.heap.size w (fun _ => False) D G pw3 tS w6) := H4.out.after hb
      clear hb H4
      obtain ⟨s, hs⟩ : ∃ s, strOfNums (textL tS.b.chars) = s := ⟨_, rfl⟩
      have HS : Hid (strOfNums (textL tS.b.chars) = s) := hs
      have hsz : s.size = 3 := by rw [← hs, str_size]; exact HTX.out
      rw [hs]
      clear hs
      go_wp2_with fail
      refine (H6.out.wtext (k := 1) (by omega) HE.out).mono ?_
      rintro e w7 ⟨rfl, hb⟩
      rw [HT.out, HS.out]
      have H7 : Hid (DkAny w.heap.size w (fun _ => False) D G pw3 tS w7) := H6.out.after hb
      clear hb H6
      have g0 := H7.out.cells.book
      have hlt0 := H7.out.cells.lt
      go_wp2_with fail
      clear g0 hlt0
      refine H7.out.len.mono ?_
      rintro e w8 ⟨rfl, rfl⟩
      rw [HLN.out]
      go_wp2_with fail
      refine (H7.out.wtext (k := 1) (by omega) HE.out).mono ?_
      rintro e w9 ⟨rfl, hb⟩
      rw [HT.out, HS.out]
      have H9 : Hid (DkAny w.heap.size w (fun _ => False) D G pw3 tS w9) := H7.out.after hb
      clear hb H7
      go_wp2_with fail
      refine (H9.out.does ⟨4, 1, 0, 0, ⟨#[]⟩⟩).mono ?_
      rintro e w10 ⟨rfl, pw10, hd10, -⟩
      rw [HS5.out]
      have H10 : Hid (DkAny w.heap.size w (fun _ => False) D G pw10 _ w10) := hd10
      clear hd10 H9
      go_wp2_with fail
      go_ret
      exact ⟨rfl, H10.out.below⟩

/-- Desks behind steps. -/
def PlayIs (w : World) (e : Ending) (w' : World) : Prop := ∃ D G pw t, e = .returned (.pointer (some ⟨D, 0, none⟩)) ∧ DkAny w.heap.size w (fun _ => False) D G pw t w'

set_option maxRecDepth 20000 in
set_option maxHeartbeats 1600000 in
theorem played_any (v : Value) (xs : List Tst) (w : World) (h : TLst w v xs) (hl : xs.length ≤ 200) : Calls Tryz.prog 32 #[v] w fun e w' => PlayIs w e w' := by
  have HD : Hid (TLst w v xs) := h
  obtain ⟨a, cap, rfl⟩ := h.len
  clear h
  have H0 : Hid (DkAny w.heap.size w (fun _ => False) (w.heap.size + 1) w.heap.size (fun _ => 0) twn0 ((w.alloc (.cells logZ 112)).alloc (.cells (deskZ w.heap.size) 76))) := any_start w
  go_enter Tryz.func32, Tryz.ntmps32
  go_wp2_with fail
  refine (new_dk w).mono ?_
  rintro e w1 ⟨rfl, rfl⟩
  generalize World.alloc _ _ = w1 at *
  generalize w.heap.size + 1 = D at *
  have H1 : Hid (∃ G pw t, DkAny w.heap.size w (fun _ => False) D G pw t w1) := ⟨_, _, _, H0.out⟩
  clear H0
  go_wp2_with fail
  go_loopw [4] (fun i wr => ∃ j : Nat, j ≤ xs.length ∧ i = .int .i64 j ∧ Hid (∃ G pw t, DkAny w.heap.size w (fun _ => False) D G pw t wr)) (fun i _ => xs.length - (intOf i).toNat)
  case atStart => exact ⟨0, Nat.zero_le _, rfl, H1.out⟩
  case round =>
    obtain ⟨j, hj, rfl, HW⟩ := hrel
    clear H1
    by_cases hlt : j < xs.length
    · obtain ⟨G, pw, t, hd⟩ := HW.out
      obtain ⟨bb, off, rfl, hr⟩ := (HD.out.below hd.below).row (by omega)
      obtain ⟨_, c0, c1, c2, c3, c4⟩ := hr.at_ j hlt
      generalize xs[j] = x at *
      obtain ⟨kind, w_, at_, many, text⟩ := x
      simp only at c0 c1 c2 c3 c4
      have H2 : Hid (DkAny w.heap.size w (fun _ => False) D G pw t wr) := hd
      clear hr hd HW
      go_wp2_with fail
      refine (H2.out.does ⟨kind, w_, at_, many, text⟩).mono ?_
      rintro e w5 ⟨rfl, pw5, hd5, -⟩
      have H5 : Hid (∃ G pw t, DkAny w.heap.size w (fun _ => False) D G pw t w5) := ⟨_, _, _, hd5⟩
      clear hd5 H2 c0 c1 c2 c3 c4
      generalize (tDo t ⟨kind, w_, at_, many, text⟩).1 = cq at *
      go_wp2_with fail
      go_roundw
      case rel => exact ⟨j + 1, by omega, by go_num, H5.out⟩
      case measure => simp [intOf]; omega
    · go_wp2_with fail
      go_ret
      obtain ⟨G, pw, t, hd⟩ := HW.out
      exact ⟨D, G, pw, t, rfl, hd⟩

end Go.Proofs.YtfpemdbiplfkgacGreat

/-
  Two desks in one world; what a law asks of desks besides: seen, deedsOf; SameDeeds of two that are the same.
-/
namespace Go.Proofs.YtfpemdbiplfkgacGreat
open Go Go.RowKit

set_option maxRecDepth 20000 in
set_option maxHeartbeats 800000 in
theorem sameDeeds_eqT {w : World} {va vb : Value} {a : List Dd} (ha : DLst w va a) (hb : DLst w vb a) (hl : a.length ≤ 1000) :
    Calls Tryz.prog 86 #[va, vb] w fun e w' => e = .returned (.bool true) ∧ Below w.heap.size w w' := by
  have HA : Hid (DLst w va a) := ha
  have HB : Hid (DLst w vb a) := hb
  obtain ⟨aa, n, ca, rfl, e1, _, _⟩ := ha
  obtain ⟨ab, n2, cb, rfl, e2, _, _⟩ := hb
  have hn2 : n2 = n := by omega
  subst hn2
  have HE : Hid (a.length = n2) := e1
  rw [e1] at hl
  clear e1 e2
  go_enter Tryz.func86, Tryz.ntmps86
  go_wp2
  go_loopw [5] (fun i wr => ∃ k : Nat, k ≤ n2 ∧ i = .int .i64 k ∧ Hid (Below w.heap.size w wr)) (fun i _ => n2 - (intOf i).toNat)
  case atStart => exact ⟨0, Nat.zero_le _, rfl, Below.refl _ _⟩
  case round =>
    obtain ⟨k, hk, rfl, HW⟩ := hrel
    by_cases hlt : k < n2
    · have hka : k < a.length := by rw [HE.out]; exact hlt
      obtain ⟨a1, l1, c1, he1, _, _, hr1⟩ := HA.out.below HW.out
      obtain ⟨a2, l2, c2, he2, _, _, hr2⟩ := HB.out.below HW.out
      simp only [Value.slice.injEq] at he1 he2
      obtain ⟨rfl, rfl, rfl⟩ := he1
      obtain ⟨rfl, -, rfl⟩ := he2
      rcases hr1 with hr1 | ⟨b1, o1, rfl, hr1⟩
      · omega
      rcases hr2 with hr2 | ⟨b2, o2, rfl, hr2⟩
      · omega
      obtain ⟨hb1, g0, g1, g2, g3, g4, g5, g6⟩ := hr1.at_ k hka
      obtain ⟨hb2, q0, q1, q2, q3, q4, q5, q6⟩ := hr2.at_ k hka
      generalize a[k] = d at *
      obtain ⟨kind, by_, no, dseen, at_, many, text⟩ := d
      simp only at g0 g1 g2 g3 g4 g5 g6 q0 q1 q2 q3 q4 q5 q6
      clear hr1 hr2
      go_wp2
      go_region
      go_wp2
      go_roundw
      case rel => exact ⟨k + 1, by omega, by go_num, below_drewN HW.out _⟩
      case measure => simp [intOf]; omega
    · go_wp2
      go_ret
      exact ⟨rfl, HW.out⟩

/-- As wp_region_late, where more is known at its start than what all its worlds keep. -/
theorem wp_region_lateD {P : Program} {ops : Array Oper} {id : Nat} {Q : Exit → Act → World → Prop} {a : Act} {w : World} (U0 D0 : Cls) (sp lt : Nat → Bool) (hm : P.follows .mixedOrders = true) (hB : Region.lexB .any ops = true) (hc : loneB .any ops sp lt = true) (hDU : ∀ w, D0 w → U0 w)
    (hD : D0 w.drew) (h : wpLate P ops U0 sp lt (fun a' w' => Q .normal a' w') ops.toList 0 a U0 D0) : (Code.region id ops true).wp P Q a w := by
  simp only [Region.lexB, Bool.and_eq_true] at hB
  have hD' : D0 { w with drawn := w.drawn + 1 } := hD
  refine wp_region_any hm (wpAny_of_late (U0 := U0) (sp := sp) (lt := lt) (Q := fun a' w' => Q .normal a' w') (fun _ _ h => h) _ _ _ U0 D0 _ (fun _ h => h) hDU hD' ?_)
  have := wpAnyT_lex (md := .any) (hDU _ hD') hB.1 hc ops.toList 0 a U0 D0 (by simp) (by simp) (by rw [upto_zero]; simpa using hB.2) h
  rw [upto_zero] at this
  simpa using this

theorem src_newT (w : World) (d : Dd) {n : Nat} (hn : n = w.heap.size) : ∀ j u, (cellsD [d])[j]? = some u → (w.alloc (.cells #[.int .i64 d.kind, .int .i64 d.by_, .int .i64 d.no, .int .i64 d.seen, .int .i64 d.at_, .int .i64 d.many, .string d.text] 41)).cell? ((⟨n, 0, none⟩ : Addr).add j) = some u := by
  subst hn
  exact src_new w [d] _ rfl

theorem below_grownT {w wr w2 : World} {v : Value} {l : List Dd} {o : Obj} (hb : Below w.heap.size w wr) (ho : OwnD wr w.heap.size v l) (hg : (wr.alloc o).grownBy w2 v.ownBlock) : Below w.heap.size w w2 :=
  (hb.alloc hb.size _).grown hg (by have := hb.size; simp; omega) (fun j hj => (World.ownsRow.lt ho j hj).1)

theorem DkAny.deed {base : Nat} {S : Nat → Prop} {w wk : World} {D G : Nat} {pw : Nat → Nat} {t : Twn} (h : DkAny base w S D G pw t wk) (n : Int) :
    Calls Tryz.prog 11 #[.pointer (some ⟨G, 0, none⟩), .int .i64 n] wk fun e w' => e = .returned (.tuple #[ddV (nthD t.b n), .bool (isD t.b n)]) ∧ Below wk.heap.size wk w' := by
  obtain ⟨tk, h1, h2⟩ := h
  obtain ⟨T, dv, lv, hl, _⟩ := h1.log
  exact deed_lg hl h2.ti.good.small n

/-- The deeds of desks, as a list of one's own. -/
structure OIT (w : World) (v : Value) (L : List Dd) (wk : World) : Prop where
  below : Below w.heap.size w wk
  own : OwnD wk w.heap.size v L

set_option maxRecDepth 20000 in
set_option maxHeartbeats 3200000 in
theorem deedsOf_any {base : Nat} {S : Nat → Prop} {w0 w : World} {D G : Nat} {pw : Nat → Nat} {t : Twn} (h : DkAny base w0 S D G pw t w) :
    Calls Tryz.prog 34 #[.pointer (some ⟨D, 0, none⟩)] w fun e w' => ∃ v, e = .returned v ∧ DLst w' v t.b.ds ∧ Below w.heap.size w w' := by
  have HA : Hid (DkAny base w0 S D G pw t w) := h
  have hsm : t.b.ds.length ≤ 120 := h.ti.good.small
  clear h
  go_enter Tryz.func34, Tryz.ntmps34
  go_wp2_with fail
  go_loopw [3, 4] (fun v i wr => ∃ j : Nat, j ≤ t.b.ds.length ∧ i = .int .i64 ((j : Int) + 1) ∧ Hid (OIT w v (t.b.ds.take j) wr)) (fun _ i _ => t.b.ds.length + 1 - (intOf i).toNat)
  case atStart => exact ⟨0, Nat.zero_le _, rfl, Below.refl _ _, ownD_nil _ _⟩
  case round =>
    obtain ⟨j, hj, rfl, HI⟩ := hrel
    have HAr : Hid (DkAny base w0 S D G pw t wr) := HA.out.after HI.out.below
    have g0 := HAr.out.cells.book
    have hlt0 := HAr.out.cells.lt
    by_cases hlt : j < t.b.ds.length
    · obtain ⟨h1, h2⟩ := is_yes hlt
      have H1 : Hid (isD t.b ((j : Int) + 1) = true) := h1
      have H2 : Hid (nthD t.b ((j : Int) + 1) = t.b.ds[j]) := h2
      have HT : Hid (t.b.ds.take (j + 1) = t.b.ds.take j ++ [t.b.ds[j]]) := List.take_succ_eq_append_getElem hlt
      have HTL : Hid ((t.b.ds.take j).length ≤ 120) := by show _ ≤ _; rw [List.length_take]; omega
      generalize t.b.ds[j] = d at *
      clear h1 h2
      obtain ⟨kind, by_, no, seen, at_, many, text⟩ := d
      go_wp2_with (first | (go_at_call 53; refine HAr.out.len.mono ?_; rintro e wx ⟨rfl, hwx⟩; rw [hwx]; clear hwx wx) | (go_at_call 11; refine (HAr.out.deed _).mono ?_; rintro e wy ⟨rfl, hby⟩; rw [H1.out, H2.out]; have HBy : Hid (OIT w u3 (t.b.ds.take j) wy) := ⟨below_after HI.out.below hby, HI.out.own.below hby⟩; clear hby) | (at_builtin; refine append_deeds _ (by rfl) (.tmp 25) (.tmp 27) (by rfl) w.heap.size (wy.heap.size + 1) 1 (v := u3) (a := t.b.ds.take j) (b := [⟨kind, by_, no, seen, at_, many, text⟩]) (by rfl) (by rfl) ((HBy.out.own.below ((Below.refl _ _).alloc (Nat.le_refl _) _)).below ((Below.refl _ _).alloc (Nat.le_refl _) _)) (src_newT (wy.alloc (dObj ⟨kind, by_, no, seen, at_, many, text⟩)) ⟨kind, by_, no, seen, at_, many, text⟩ (by simp)) (by have := HTL.out; show _ + 1 ≤ 100000; omega) (by have := HBy.out.below.size; simp; omega) ?_))
      intro v' w2 ho hg
      have HB2 : Hid (Below w.heap.size w w2) := below_grownT (HBy.out.below.alloc HBy.out.below.size _) (HBy.out.own.below ((Below.refl _ _).alloc (Nat.le_refl _) _)) hg
      have HO2 : Hid (OwnD w2 w.heap.size v' (t.b.ds.take (j + 1))) := by show OwnD _ _ _ _; rw [HT.out]; exact ho
      clear ho hg g0
      go_wp2
      go_roundw
      case rel => exact ⟨j + 1, by omega, by go_num, HB2.out, HO2.out⟩
      case measure => simp [intOf]; omega
    · obtain rfl : j = t.b.ds.length := by omega
      have HTA : Hid (t.b.ds.take t.b.ds.length = t.b.ds) := List.take_length
      obtain ⟨aa, ca, hea⟩ := OwnD.len HI.out.own
      have HO2 : Hid (OwnD wr w.heap.size u3 t.b.ds) := by have := HI.out.own; rw [HTA.out] at this; exact this
      rw [HTA.out] at hea
      subst hea
      go_wp2_with (go_at_call 53; refine HAr.out.len.mono ?_; rintro e wx ⟨rfl, hwx⟩; rw [hwx]; clear hwx wx)
      go_ret
      exact ⟨_, rfl, HO2.out.dlst, HI.out.below⟩

/-- What one sees. -/
def seenS (t : Twn) (n : Int) : ByteArray := match t.ws n with
  | none => ⟨#[]⟩
  | some r => strOfNums (vw r.list r.seen r.me)

/-! Two desks. -/

theorem dkAt_any {base : Nat} (w : World) (hb : base ≤ w.heap.size) : DkAt base (w.heap.size + 1) w.heap.size (fun _ => 0) twn0 (fun _ => []) ((w.alloc (.cells logZ 112)).alloc (.cells (deskZ w.heap.size) 76)) (fun k => w.heap.size ≤ k ∧ k < w.heap.size + 2) := by
  have hsz : ((w.alloc (.cells logZ 112)).alloc (.cells (deskZ w.heap.size) 76)).heap.size = w.heap.size + 2 := by simp
  have h0 : Hq base (fun _ => Th.no base) w (fun _ => False) w := ⟨fun _ => 0, ⟨fun _ e => absurd rfl e, hb, fun _ _ => trivial⟩, fun _ e => absurd rfl e, Kept.refl _ _⟩
  have h1 := Hq.lay h0 (below1 w (.cells logZ 112)) (i := 1) (by omega) (Th.log base w.heap.size Bk.empty) ⟨_, _, (logAt_start w hb).mono (fun k e => ⟨by omega, by simp; omega⟩) (fun k e => ⟨by omega, e.2⟩)⟩
  have h2 := Hq.lay h1 (below1 _ (.cells (deskZ w.heap.size) 76)) (i := 6) (by omega) (Th.tw base (w.heap.size + 1) w.heap.size (fun _ => 0) (hasW twn0)) ⟨⟨by simp, by simp⟩, by have := twC_start (w.alloc (.cells logZ 112)) w.heap.size; simpa using this⟩
  have h3 : DkIn base w (fun _ => False) (w.heap.size + 1) w.heap.size (fun _ => 0) twn0 (fun _ => []) (fun _ => Th.no _) _ := dkIn_of h2 (fun T hp => hp) (fun T hp => hp) (fun k hk T hp => by show (Th.no _).P _ T; trivial) (fun j T hp => trivial)
  obtain ⟨ow, h4⟩ := h3
  refine ⟨fun k e => by omega, ow, h4.at_, fun k e => ?_⟩
  rcases h4.old k e with x | x
  · exact x.elim
  · omega

def TwoD (w : World) (D G : Nat) (pw : Nat → Nat) (t : Twn) (E F : Nat) (qw : Nat → Nat) (u : Twn) (wk : World) : Prop :=
  ∃ tk uk, Hq w.heap.size (updT (updT (fun _ => Th.no _) 1 (Th.dk _ D G pw t tk)) 2 (Th.dk _ E F qw u uk)) w (fun _ => False) wk ∧ TR t tk ∧ TR u uk

section
variable {w wk w' : World} {D G E F : Nat} {pw qw : Nat → Nat} {t u : Twn}

theorem TwoD.after (h : TwoD w D G pw t E F qw u wk) (hb : Below wk.heap.size wk w') : TwoD w D G pw t E F qw u w' := by
  obtain ⟨tk, uk, h1, h2⟩ := h
  exact ⟨tk, uk, h1.after hb, h2⟩
theorem TwoD.below (h : TwoD w D G pw t E F qw u wk) : Below w.heap.size w wk := by
  obtain ⟨tk, uk, h1, h2⟩ := h
  exact (Hq.kept h1).below (fun _ e => e.elim) (Nat.le_refl _)

theorem TwoD.fst (h : TwoD w D G pw t E F qw u wk) : ∃ T, DkAny w.heap.size wk T D G pw t wk ∧ ∀ pw' t' w', DkAny w.heap.size wk T D G pw' t' w' → TwoD w D G pw' t' E F qw u w' := by
  obtain ⟨tk, uk, h1, h2, h3⟩ := h
  obtain ⟨T, a1, a2, a3⟩ := h1.turn (i := 1) (by omega)
  rw [updT_other _ _ (by omega), updT_same] at a1
  have a1' : DkAt w.heap.size D G pw t tk wk T := a1
  refine ⟨T, ⟨tk, a1'.start, h2⟩, fun pw' t' w' ⟨tk', b1, b2⟩ => ⟨tk', uk, ?_, b2, h3⟩⟩
  obtain ⟨c1, c2⟩ := b1.done a1'.held
  refine (a3 (Th.dk _ D G pw' t' tk') w' c2 c1).imp (fun i hi T' _ hp => ?_)
  by_cases e1 : i = 1
  · subst e1
    rw [updT_same] at hp
    rw [updT_other _ _ (by omega), updT_same]
    exact hp
  · rw [updT_other _ _ e1] at hp
    by_cases e2 : i = 2
    · subst e2
      rw [updT_same] at hp ⊢
      exact hp
    · rw [updT_other _ _ e2] at hp ⊢
      rw [updT_other _ _ e1] at hp ⊢
      exact hp

theorem TwoD.snd (h : TwoD w D G pw t E F qw u wk) : ∃ T, DkAny w.heap.size wk T E F qw u wk ∧ ∀ qw' u' w', DkAny w.heap.size wk T E F qw' u' w' → TwoD w D G pw t E F qw' u' w' := by
  obtain ⟨tk, uk, h1, h2, h3⟩ := h
  obtain ⟨T, a1, a2, a3⟩ := h1.turn (i := 2) (by omega)
  rw [updT_same] at a1
  have a1' : DkAt w.heap.size E F qw u uk wk T := a1
  refine ⟨T, ⟨uk, a1'.start, h3⟩, fun qw' u' w' ⟨uk', b1, b2⟩ => ⟨tk, uk', ?_, h2, b2⟩⟩
  obtain ⟨c1, c2⟩ := b1.done a1'.held
  refine (a3 (Th.dk _ E F qw' u' uk') w' c2 c1).imp (fun i hi T' _ hp => ?_)
  by_cases e2 : i = 2
  · subst e2
    rw [updT_same] at hp ⊢
    exact hp
  · rw [updT_other _ _ e2] at hp ⊢
    rw [updT_other _ _ e2] at hp
    exact hp

theorem two_start (w : World) : TwoD w (w.heap.size + 1) w.heap.size (fun _ => 0) twn0 (w.heap.size + 3) (w.heap.size + 2) (fun _ => 0) twn0 ((((w.alloc (.cells logZ 112)).alloc (.cells (deskZ w.heap.size) 76)).alloc (.cells logZ 112)).alloc (.cells (deskZ (w.heap.size + 2)) 76)) := by
  have hsz : ((w.alloc (.cells logZ 112)).alloc (.cells (deskZ w.heap.size) 76)).heap.size = w.heap.size + 2 := by simp
  have h1 := Hq.lay (Hq.start w) (w' := (w.alloc (.cells logZ 112)).alloc (.cells (deskZ w.heap.size) 76)) (below_after (below1 _ _) (below1 _ _)) (i := 1) (by omega) (Th.dk _ (w.heap.size + 1) w.heap.size (fun _ => 0) twn0 (fun _ => [])) (by rw [hsz]; exact dkAt_any w (Nat.le_refl _))
  have hsz2 : ((((w.alloc (.cells logZ 112)).alloc (.cells (deskZ w.heap.size) 76)).alloc (.cells logZ 112)).alloc (.cells (deskZ (w.heap.size + 2)) 76)).heap.size = w.heap.size + 2 + 2 := by simp
  have h2 := dkAt_any (base := w.heap.size) ((w.alloc (.cells logZ 112)).alloc (.cells (deskZ w.heap.size) 76)) (by rw [hsz]; omega)
  rw [hsz] at h2
  have h3 := Hq.lay h1 (w' := (((w.alloc (.cells logZ 112)).alloc (.cells (deskZ w.heap.size) 76)).alloc (.cells logZ 112)).alloc (.cells (deskZ (w.heap.size + 2)) 76)) (below_after (below1 _ _) (below1 _ _)) (i := 2) (by omega) (Th.dk _ (w.heap.size + 3) (w.heap.size + 2) (fun _ => 0) twn0 (fun _ => [])) (by rw [hsz, hsz2]; exact h2)
  exact ⟨_, _, h3, tr_start, tr_start⟩

theorem TwoD.writerE (h : TwoD w D G pw t E F qw u wk) (n : Int) :
    Calls Tryz.prog 76 #[.pointer (some ⟨E, 0, none⟩), .int .i64 n] wk fun e w' => e = .returned (deskP qw (hasW u) n) ∧ w' = wk := by
  obtain ⟨T, h1, _⟩ := h.snd
  exact h1.writer n
theorem TwoD.doesD (h : TwoD w D G pw t E F qw u wk) (x : Tst) :
    Calls Tryz.prog 26 #[.pointer (some ⟨D, 0, none⟩), tsV x] wk fun e w' => e = .returned (.int .i64 (tDo t x).1) ∧ ∃ pw', TwoD w D G pw' (tDo t x).2 E F qw u w' := by
  obtain ⟨T, h1, h2⟩ := h.fst
  exact (h1.does x).mono fun e w' ⟨e1, pw', e2, _⟩ => ⟨e1, pw', h2 _ _ _ e2⟩
theorem TwoD.doesE (h : TwoD w D G pw t E F qw u wk) (x : Tst) :
    Calls Tryz.prog 26 #[.pointer (some ⟨E, 0, none⟩), tsV x] wk fun e w' => e = .returned (.int .i64 (tDo u x).1) ∧ ∃ qw', TwoD w D G pw t E F qw' (tDo u x).2 w' := by
  obtain ⟨T, h1, h2⟩ := h.snd
  exact (h1.does x).mono fun e w' ⟨e1, pw', e2, _⟩ => ⟨e1, pw', h2 _ _ _ e2⟩

theorem seen_twin (h : Twin t u) (n : Int) : seenS t n = seenS u n := by
  unfold seenS
  rcases h.both n with ⟨h1, h2⟩ | ⟨r, r', h1, h2, h3⟩
  · rw [h1, h2]
  · rw [h1, h2]
    show strOfNums _ = strOfNums _
    rw [h.view h1 h2 h3]

end

end Go.Proofs.YtfpemdbiplfkgacGreat
