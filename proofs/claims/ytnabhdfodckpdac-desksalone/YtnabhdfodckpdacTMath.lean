/-
  Steps in memory; greatSteps; the law's own example of desks (desksBegun); played.
-/
import Derived.Test.YtnabhdfodckpdacWOpen
import Derived.Test.YtnabhdfodckpdacFPlain
import Derived.Test.YtnabhdfodckpdacDPlain
import Derived.Test.YtnabhdfodckpdacDkWr
namespace Go.Proofs.Ytnabhdfodckpdac
open Go Go.RowKit

structure TSteps (w : World) (b off : Nat) (xs : List Tst) : Prop where
  lt : b < w.heap.size
  at_ : ∀ i (h : i < xs.length), TsAt w b (off + i * 5) xs[i]

theorem TSteps.below {w w' : World} {b off : Nat} {xs : List Tst} (h : TSteps w b off xs) (hb : Below w.heap.size w w') : TSteps w' b off xs :=
  ⟨by have := hb.size; have := h.lt; omega, fun i hi => (h.at_ i hi).below hb⟩

/-- The value is a slice that holds just those steps. -/
def TLst (w : World) (v : Value) (xs : List Tst) : Prop :=
  ∃ (a : Option Addr) (len cap : Nat), v = .slice a len cap ∧ xs.length = len ∧ len ≤ cap ∧ (len = 0 ∨ ∃ b off, a = some ⟨b, off, none⟩ ∧ TSteps w b off xs)

theorem TLst.below {w w' : World} {v : Value} {xs : List Tst} (h : TLst w v xs) (hb : Below w.heap.size w w') : TLst w' v xs := by
  obtain ⟨a, len, cap, rfl, h1, h2, h3⟩ := h
  refine ⟨a, len, cap, rfl, h1, h2, ?_⟩
  rcases h3 with h3 | ⟨b, off, rfl, hr⟩
  · exact .inl h3
  · exact .inr ⟨b, off, rfl, hr.below hb⟩

theorem TLst.len {w : World} {v : Value} {xs : List Tst} (h : TLst w v xs) : ∃ a cap, v = .slice a xs.length cap := by
  obtain ⟨a, len, cap, rfl, rfl, h2, h3⟩ := h
  exact ⟨a, cap, rfl⟩

theorem TLst.row {w : World} {a : Option Addr} {cap : Nat} {xs : List Tst} (h : TLst w (.slice a xs.length cap) xs) (hp : 0 < xs.length) : ∃ b off, a = some ⟨b, off, none⟩ ∧ TSteps w b off xs := by
  obtain ⟨a', len, cap', he, h1, h2, h3⟩ := h
  simp only [Value.slice.injEq] at he
  obtain ⟨rfl, rfl, rfl⟩ := he
  rcases h3 with h3 | h3
  · omega
  · exact h3

/-- What greatSteps answers. -/
def GreatTIs (xs : List Tst) (w : World) (e : Ending) (w' : World) : Prop := ∃ g, e = .returned (.bool g) ∧ (g = false → xs.length ≤ 200) ∧ w' = w

theorem greatT_yes (xs : List Tst) (w : World) : GreatTIs xs w (.returned (.bool true)) w := ⟨true, rfl, fun e => (by cases e), rfl⟩

set_option maxRecDepth 20000 in
set_option maxHeartbeats 800000 in
theorem greatT_any (v : Value) (xs : List Tst) (w : World) (h : TLst w v xs) :
    Calls Try.prog 28 #[v] w fun e w' => GreatTIs xs w e w' := by
  obtain ⟨a, cap, rfl⟩ := h.len
  have HD : Hid (TLst w (.slice a xs.length cap) xs) := h
  clear h
  go_enter Try.func28, Try.ntmps28
  go_wp2
  go_loop [3] (fun i => ∃ k : Nat, k ≤ xs.length ∧ k ≤ 300 ∧ i = .int .i64 k) (fun i => 300 - (intOf i).toNat)
  case atStart => exact ⟨0, Nat.zero_le _, by omega, rfl⟩
  case round =>
    obtain ⟨k, hk, hk2, rfl⟩ := hrel
    by_cases hlt : k < xs.length
    · by_cases hlt2 : k < 300
      · obtain ⟨b, off, rfl, hr⟩ := HD.out.row (by omega)
        obtain ⟨_, c0, c1, c2, c3, c4⟩ := hr.at_ k hlt
        generalize xs[k] = x at *
        clear hr c0 c1 c2 c3
        by_cases ht : 100 < x.text.size
        · go_wp2
          go_ret
          exact greatT_yes xs w
        · go_wp2
          go_round
          case rel => exact ⟨k + 1, by omega, by omega, by go_num⟩
          case measure => simp [intOf]; omega
      · go_wp2
        go_ret
        exact ⟨decide (200 < (xs.length : Int)), rfl, fun e => (by have := of_decide_eq_false e; omega), rfl⟩
    · go_wp2
      go_ret
      exact ⟨decide (200 < (xs.length : Int)), rfl, fun e => (by have := of_decide_eq_false e; omega), rfl⟩

/-! Desks of a law: all of them is new. -/

section
variable {w wk w' : World} {D G : Nat} {pw : Nat → Nat} {t : Twn}

theorem DkAny.after {base : Nat} {S : Nat → Prop} (h : DkAny base w S D G pw t wk) (hb : Below wk.heap.size wk w') : DkAny base w S D G pw t w' := by
  obtain ⟨tk, h1, h2⟩ := h
  exact ⟨tk, h1.after hb, h2⟩
theorem DkAny.below (h : DkAny w.heap.size w (fun _ => False) D G pw t wk) : Below w.heap.size w wk := by
  obtain ⟨tk, h1, h2⟩ := h
  exact (Hq.kept h1).below (fun _ e => e.elim) (Nat.le_refl _)
theorem DkAny.cells {base : Nat} {S : Nat → Prop} (h : DkAny base w S D G pw t wk) : TwC wk D G pw (hasW t) := by
  obtain ⟨tk, h1, h2⟩ := h
  exact h1.cells
theorem DkAny.ti {base : Nat} {S : Nat → Prop} (h : DkAny base w S D G pw t wk) : TwI t := by
  obtain ⟨tk, h1, h2⟩ := h
  exact h2.ti

theorem any_start (w : World) : DkAny w.heap.size w (fun _ => False) (w.heap.size + 1) w.heap.size (fun _ => 0) twn0 ((w.alloc (.cells logZ 80)).alloc (.cells (deskZ w.heap.size) 63)) :=
  ⟨fun _ => [], by
    have h := dkAt_start w
    refine dk_lay (w := (w.alloc (.cells logZ 80)).alloc (.cells (deskZ w.heap.size) 63)) ?_ rfl (below_after (below1 _ _) (below1 _ _))
    have hsz : ((w.alloc (.cells logZ 80)).alloc (.cells (deskZ w.heap.size) 63)).heap.size = w.heap.size + 2 := by simp
    rw [hsz]
    exact h, tr_start⟩

/-- A step, told of whatever is kept. -/
theorem DkAny.does {base : Nat} {S : Nat → Prop} (h : DkAny base w S D G pw t wk) (x : Tst) :
    Calls Try.prog 34 #[.pointer (some ⟨D, 0, none⟩), tsV x] wk fun e w' => e = .returned (.int .i64 (tDo t x).1) ∧ ∃ pw', DkAny base w S D G pw' (tDo t x).2 w' ∧ (x.kind ≠ 1 → pw' = pw) := by
  obtain ⟨tk, h1, h2⟩ := h
  obtain ⟨T, ha, hs⟩ := h1.call
  exact (do_dk ha h2 x).mono fun e w' ⟨e1, pw', tk', e2, e3, e4⟩ => ⟨e1, pw', ⟨tk', hs _ _ _ _ e2, e3⟩, e4⟩
theorem DkAny.settles {base : Nat} {S : Nat → Prop} (h : DkAny base w S D G pw t wk) :
    Calls Try.prog 30 #[.pointer (some ⟨D, 0, none⟩)] wk fun e w' => e = .returned (.tuple #[]) ∧ DkAny base w S D G pw (settleT t) w' := by
  obtain ⟨tk, h1, h2⟩ := h
  obtain ⟨T, ha, hs⟩ := h1.call
  exact (settle_dk ha h2).mono fun e w' ⟨e1, tk', e2, e3⟩ => ⟨e1, tk', hs _ _ _ _ e2, e3⟩
theorem DkAny.text {base : Nat} {S : Nat → Prop} (h : DkAny base w S D G pw t wk) :
    Calls Try.prog 31 #[.pointer (some ⟨G, 0, none⟩)] wk fun e w' => e = .returned (.string (strOfNums (textL t.b.chars))) ∧ Below wk.heap.size wk w' := by
  obtain ⟨tk, h1, h2⟩ := h
  obtain ⟨T, dv, lv, hl, _⟩ := h1.log
  exact text_lg hl
theorem DkAny.len {base : Nat} {S : Nat → Prop} (h : DkAny base w S D G pw t wk) :
    Calls Try.prog 21 #[.pointer (some ⟨G, 0, none⟩)] wk fun e w' => e = .returned (.int .i64 t.b.ds.length) ∧ w' = wk := by
  obtain ⟨tk, h1, h2⟩ := h
  obtain ⟨T, dv, lv, hl, _⟩ := h1.log
  exact len_lg hl
theorem DkAny.wtext {base : Nat} {S : Nat → Prop} (h : DkAny base w S D G pw t wk) {k : Nat} (hk : k < 4) {r : Wr} (he : t.ws k = some r) :
    Calls Try.prog 17 #[.pointer (some ⟨pw k, 0, none⟩)] wk fun e w' => e = .returned (.string (strOfNums (vw r.list r.seen r.me))) ∧ Below wk.heap.size wk w' := by
  obtain ⟨tk, h1, h2⟩ := h
  obtain ⟨T, lv, ov, tvs, hp, _⟩ := h1.wr hk he
  exact text_pw hp (by have := (tr_wok h2 he).len; omega)
theorem DkAny.wseen {base : Nat} {S : Nat → Prop} (h : DkAny base w S D G pw t wk) {k : Nat} (hk : k < 4) {r : Wr} (he : t.ws k = some r) :
    Calls Try.prog 16 #[.pointer (some ⟨pw k, 0, none⟩)] wk fun e w' => e = .returned (.int .i64 r.seen) ∧ w' = wk := by
  obtain ⟨tk, h1, h2⟩ := h
  obtain ⟨T, lv, ov, tvs, hp, _⟩ := h1.wr hk he
  exact seen_pw hp
theorem DkAny.wopen {base : Nat} {S : Nat → Prop} (h : DkAny base w S D G pw t wk) {k : Nat} (hk : k < 4) {r : Wr} (he : t.ws k = some r) :
    Calls Try.prog 18 #[.pointer (some ⟨pw k, 0, none⟩)] wk fun e w' => ∃ v', e = .returned v' ∧ OwnD w' wk.heap.size v' r.opens ∧ Below wk.heap.size wk w' := by
  obtain ⟨tk, h1, h2⟩ := h
  obtain ⟨T, lv, ov, tvs, hp, _⟩ := h1.wr hk he
  exact open_pw hp (by have := (tr_wok h2 he).few; omega)
theorem DkAny.writer {base : Nat} {S : Nat → Prop} (h : DkAny base w S D G pw t wk) (n : Int) :
    Calls Try.prog 32 #[.pointer (some ⟨D, 0, none⟩), .int .i64 n] wk fun e w' => e = .returned (deskP pw (hasW t) n) ∧ w' = wk := writer_dk h.cells n

end

theorem str_size (l : List Int) : (strOfNums l).size = l.length := by
  simp [strOfNums, ByteArray.size]

def bgTn : Nat → Twn
  | 0 => twn0
  | n + 1 => (tDo (bgTn n) (bgS1 n)).2
theorem bgTn_code {n : Nat} (h : n < 2) : (tDo (bgTn n) (bgS1 n)).1 = 0 := by
  rcases (show n = 0 ∨ n = 1 by omega) with rfl | rfl
  · exact bgC1
  · exact bgC2

set_option maxRecDepth 20000 in
set_option maxHeartbeats 3200000 in
theorem tbegun_any (w : World) : Calls Try.prog 27 #[] w fun e w' => e = .returned (.bool true) ∧ Below w.heap.size w w' := by
  have H0 : Hid (DkAny w.heap.size w (fun _ => False) (w.heap.size + 1) w.heap.size (fun _ => 0) twn0 ((w.alloc (.cells logZ 80)).alloc (.cells (deskZ w.heap.size) 63))) := any_start w
  go_enter Try.func27, Try.ntmps27
  go_wp2_with fail
  refine (new_dk w).mono ?_
  rintro e w1 ⟨rfl, rfl⟩
  generalize World.alloc _ _ = w1 at *
  generalize w.heap.size + 1 = D at *
  obtain ⟨G, hG⟩ : ∃ G, w.heap.size = G := ⟨_, rfl⟩
  have H1 : Hid (∃ G pw, DkAny w.heap.size w (fun _ => False) D G pw twn0 w1) := ⟨_, _, H0.out⟩
  clear H0 hG G
  go_wp2_with fail
  go_loopw [2] (fun i wr => ∃ n : Nat, n ≤ 2 ∧ i = .int .i64 n ∧ Hid (∃ G pw, DkAny w.heap.size w (fun _ => False) D G pw (bgTn n) wr)) (fun i _ => 2 - (intOf i).toNat)
  case atStart => exact ⟨0, by omega, rfl, H1.out⟩
  case round =>
    obtain ⟨n, hn, rfl, HW⟩ := hrel
    clear H1
    by_cases hlt : n < 2
    · have hlt' : (n : Int) < 2 := by omega
      have HC : Hid ((tDo (bgTn n) (bgS1 n)).1 = 0) := bgTn_code hlt
      go_wp2_with fail
      obtain ⟨G, pw, hd⟩ := HW.out
      refine (hd.does (bgS1 n)).mono ?_
      rintro e w2 ⟨rfl, pw2, hd2, -⟩
      rw [HC.out]
      have H2 : Hid (∃ G pw, DkAny w.heap.size w (fun _ => False) D G pw (bgTn (n + 1)) w2) := ⟨_, _, hd2⟩
      clear hd2 hd HW
      go_wp2_with fail
      go_roundw
      case rel => exact ⟨n + 1, by omega, by go_num, H2.out⟩
      case measure => simp [intOf]; omega
    · obtain rfl : n = 2 := by omega
      go_wp2_with fail
      obtain ⟨G, pw, hd⟩ := HW.out
      refine (hd.does bgS3).mono ?_
      rintro e w2 ⟨rfl, pw2, hd2, -⟩
      have hc3 : (tDo (bgTn 2) bgS3).1 = 0 := bgC3
      rw [hc3]
      have H2 : Hid (DkAny w.heap.size w (fun _ => False) D G pw2 bgT3 w2) := hd2
      clear hd2 hd HW hc3
      go_wp2_with fail
      refine (H2.out.does bgS4).mono ?_
      rintro e w3 ⟨rfl, pw3, hd3, -⟩
      have hc4 : (tDo bgT3 bgS4).1 = 0 := bgC4
      rw [hc4]
      have H3 : Hid (DkAny w.heap.size w (fun _ => False) D G pw3 bgT4 w3) := hd3
      clear hd3 H2 hc4
      go_wp2_with fail
      refine H3.out.settles.mono ?_
      rintro e w4 ⟨rfl, hd4⟩
      have H4 : Hid (DkAny w.heap.size w (fun _ => False) D G pw3 (settleT bgT4) w4) := hd4
      clear hd4 H3
      obtain ⟨r, hr, hlen, htx⟩ := beg_settled
      have HE : Hid ((settleT bgT4).ws ((1 : Nat) : Int) = some r) := hr
      have HT : Hid (vw r.list r.seen r.me = textL (settleT bgT4).b.chars) := (settle_text bgI4 hr).2.2
      have HLN : Hid ((settleT bgT4).b.ds.length = 2) := hlen
      have HTX : Hid ((textL (settleT bgT4).b.chars).length = 3) := htx
      have HS5 : Hid ((tDo (settleT bgT4) ⟨4, 1, 0, 0, ⟨#[]⟩⟩).1 = 5) := by
        show (tDo (settleT bgT4) ⟨4, 1, 0, 0, ⟨#[]⟩⟩).1 = 5
        rw [tDo_send, hr]
        show (sendT (settleT bgT4) 1 r).1 = 5
        unfold sendT
        rw [(settle_text bgI4 hr).1]
        rfl
      clear hr hlen htx
      generalize settleT bgT4 = tS at *
      go_wp2_with fail
      refine (H4.out.writer 1).mono ?_
      rintro e w5 ⟨rfl, rfl⟩
      rw [show deskP pw3 (hasW tS) 1 = .pointer (some ⟨pw3 1, 0, none⟩) from desk_some (k := 1) (by omega) HE.out]
      have g0 := H4.out.cells.book
      have hlt0 := H4.out.cells.lt
      go_wp2_with fail
      clear g0 hlt0
      refine H4.out.text.mono ?_
      rintro e w6 ⟨rfl, hb⟩
      have H6 : Hid (DkAny w.heap.size w (fun _ => False) D G pw3 tS w6) := H4.out.after hb
      clear hb H4
      obtain ⟨s, hs⟩ : ∃ s, strOfNums (textL tS.b.chars) = s := ⟨_, rfl⟩
      have HS : Hid (strOfNums (textL tS.b.chars) = s) := hs
      have hsz : s.size = 3 := by rw [← hs, str_size]; exact HTX.out
      rw [hs]
      clear hs
      go_wp2_with fail
      refine (H6.out.wtext (k := 1) (by omega) HE.out).mono ?_
      rintro e w7 ⟨rfl, hb⟩
      rw [HT.out, HS.out]
      have H7 : Hid (DkAny w.heap.size w (fun _ => False) D G pw3 tS w7) := H6.out.after hb
      clear hb H6
      have g0 := H7.out.cells.book
      have hlt0 := H7.out.cells.lt
      go_wp2_with fail
      clear g0 hlt0
      refine H7.out.len.mono ?_
      rintro e w8 ⟨rfl, rfl⟩
      rw [HLN.out]
      go_wp2_with fail
      refine (H7.out.wtext (k := 1) (by omega) HE.out).mono ?_
      rintro e w9 ⟨rfl, hb⟩
      rw [HT.out, HS.out]
      have H9 : Hid (DkAny w.heap.size w (fun _ => False) D G pw3 tS w9) := H7.out.after hb
      clear hb H7
      go_wp2_with fail
      refine (H9.out.does ⟨4, 1, 0, 0, ⟨#[]⟩⟩).mono ?_
      rintro e w10 ⟨rfl, pw10, hd10, -⟩
      rw [HS5.out]
      have H10 : Hid (DkAny w.heap.size w (fun _ => False) D G pw10 _ w10) := hd10
      clear hd10 H9
      go_wp2_with fail
      go_ret
      exact ⟨rfl, H10.out.below⟩

/-- Desks behind steps. -/
def PlayIs (w : World) (e : Ending) (w' : World) : Prop := ∃ D G pw t, e = .returned (.pointer (some ⟨D, 0, none⟩)) ∧ DkAny w.heap.size w (fun _ => False) D G pw t w'

set_option maxRecDepth 20000 in
set_option maxHeartbeats 1600000 in
theorem played_any (v : Value) (xs : List Tst) (w : World) (h : TLst w v xs) (hl : xs.length ≤ 200) : Calls Try.prog 29 #[v] w fun e w' => PlayIs w e w' := by
  have HD : Hid (TLst w v xs) := h
  obtain ⟨a, cap, rfl⟩ := h.len
  clear h
  have H0 : Hid (DkAny w.heap.size w (fun _ => False) (w.heap.size + 1) w.heap.size (fun _ => 0) twn0 ((w.alloc (.cells logZ 80)).alloc (.cells (deskZ w.heap.size) 63))) := any_start w
  go_enter Try.func29, Try.ntmps29
  go_wp2_with fail
  refine (new_dk w).mono ?_
  rintro e w1 ⟨rfl, rfl⟩
  generalize World.alloc _ _ = w1 at *
  generalize w.heap.size + 1 = D at *
  have H1 : Hid (∃ G pw t, DkAny w.heap.size w (fun _ => False) D G pw t w1) := ⟨_, _, _, H0.out⟩
  clear H0
  go_wp2_with fail
  go_loopw [4] (fun i wr => ∃ j : Nat, j ≤ xs.length ∧ i = .int .i64 j ∧ Hid (∃ G pw t, DkAny w.heap.size w (fun _ => False) D G pw t wr)) (fun i _ => xs.length - (intOf i).toNat)
  case atStart => exact ⟨0, Nat.zero_le _, rfl, H1.out⟩
  case round =>
    obtain ⟨j, hj, rfl, HW⟩ := hrel
    clear H1
    by_cases hlt : j < xs.length
    · obtain ⟨G, pw, t, hd⟩ := HW.out
      obtain ⟨bb, off, rfl, hr⟩ := (HD.out.below hd.below).row (by omega)
      obtain ⟨_, c0, c1, c2, c3, c4⟩ := hr.at_ j hlt
      generalize xs[j] = x at *
      obtain ⟨kind, w_, at_, many, text⟩ := x
      simp only at c0 c1 c2 c3 c4
      have H2 : Hid (DkAny w.heap.size w (fun _ => False) D G pw t wr) := hd
      clear hr hd HW
      go_wp2_with fail
      refine (H2.out.does ⟨kind, w_, at_, many, text⟩).mono ?_
      rintro e w5 ⟨rfl, pw5, hd5, -⟩
      have H5 : Hid (∃ G pw t, DkAny w.heap.size w (fun _ => False) D G pw t w5) := ⟨_, _, _, hd5⟩
      clear hd5 H2 c0 c1 c2 c3 c4
      generalize (tDo t ⟨kind, w_, at_, many, text⟩).1 = cq at *
      go_wp2_with fail
      go_roundw
      case rel => exact ⟨j + 1, by omega, by go_num, H5.out⟩
      case measure => simp [intOf]; omega
    · go_wp2_with fail
      go_ret
      obtain ⟨G, pw, t, hd⟩ := HW.out
      exact ⟨D, G, pw, t, rfl, hd⟩

end Go.Proofs.Ytnabhdfodckpdac

/-
  Plain mathematics of texts that are put together. No walk.
-/
namespace Go.Proofs.Ytnabhdfodckpdac
open Go.RowKit

theorem strOfNums_nums (s : ByteArray) : strOfNums (nums s) = s := by
  apply ba_ext
  rw [strOfNums_data]
  unfold nums
  rw [List.map_map]
  conv => rhs; rw [← List.map_id s.data.toList]
  apply List.map_congr_left
  intro b _
  simp

theorem str_take (zs : List Int) (k : Nat) : (strOfNums zs).extract 0 k = strOfNums (zs.take k) := by
  apply ba_ext
  rw [ByteArray.data_extract, Array.toList_extract, strOfNums_data, strOfNums_data, List.extract_eq_take_drop, List.map_take]
  simp

theorem str_drop (zs : List Int) (k : Nat) : (strOfNums zs).extract k (strOfNums zs).size = strOfNums (zs.drop k) := by
  apply ba_ext
  rw [ByteArray.data_extract, Array.toList_extract, strOfNums_data, strOfNums_data, List.extract_eq_take_drop, strOfNums_size, List.map_drop, List.take_of_length_le]
  simp

end Go.Proofs.Ytnabhdfodckpdac

/-
  Plain mathematics of desks that are settled: what one's own deed, sent and heard, makes of the text; who comes late. No walk.
-/
namespace Go.Proofs.Ytnabhdfodckpdac
open Go Go.RowKit

theorem mod_fourT (x : Int) : ∃ j : Nat, (IntKind.u64.wrap x).tmod 4 = (j : Int) ∧ j < 4 := by
  have hs : 0 ≤ IntKind.u64.wrap x := by
    show 0 ≤ x % (2 ^ 64 : Int)
    omega
  have t0 := Int.tmod_nonneg 4 hs
  have t1 := Int.tmod_lt_of_pos (IntKind.u64.wrap x) (b := 4) (by omega)
  exact ⟨((IntKind.u64.wrap x).tmod 4).toNat, by omega, by omega⟩
theorem mod_anyT (x : Int) (n : Nat) (h : 0 < n) : ∃ j : Nat, (IntKind.u64.wrap x).tmod (n : Int) = (j : Int) ∧ j < n := by
  have hs : 0 ≤ IntKind.u64.wrap x := by
    show 0 ≤ x % (2 ^ 64 : Int)
    omega
  have t0 := Int.tmod_nonneg (n : Int) hs
  have t1 := Int.tmod_lt_of_pos (IntKind.u64.wrap x) (b := (n : Int)) (by omega)
  exact ⟨((IntKind.u64.wrap x).tmod (n : Int)).toNat, by omega, by omega⟩

theorem text_small (b : Bk) : (textL b.chars).length ≤ 200 := Nat.le_trans (textL_le _) small_chars

theorem str_splice1 {T : List Int} {d : Dd} (hk : d.kind = 1) : strOfNums (spliceL T d) = (strOfNums T).extract 0 d.at_.toNat ++ d.text ++ (strOfNums T).extract d.at_.toNat (strOfNums T).size := by
  rw [spliceL, if_pos hk, strOfNums_app, strOfNums_app, strOfNums_nums, str_take, str_drop, ByteArray.append_assoc]
theorem str_splice2 {T : List Int} {d : Dd} (hk : d.kind ≠ 1) : strOfNums (spliceL T d) = (strOfNums T).extract 0 d.at_.toNat ++ (strOfNums T).extract (d.at_ + d.many).toNat (strOfNums T).size := by
  rw [spliceL, if_neg hk, strOfNums_app, str_take, str_drop]

def Settled (t : Twn) : Prop := TwI t ∧ (∀ k, SentAll t k) ∧ ∀ k, HeardAll t k
theorem settled_of {t : Twn} (h : TwI t) : Settled (settleT t) := ⟨ti_settle h, fun k => (settle_all h k).1, fun k => (settle_all h k).2⟩
theorem Settled.again {t : Twn} (h : Settled t) : settleT t = t := by rw [settleT, sendTo_same h.2.1, hearTo_same h.2.2]
theorem Settled.text {t : Twn} (h : Settled t) {k : Int} {r : Wr} (hw : t.ws k = some r) : r.opens = [] ∧ r.seen = t.b.ds.length ∧ vw r.list r.seen r.me = textL t.b.chars := settled_text h.1 hw (h.2.1 k) (h.2.2 k)

theorem tDo_own {t : Twn} {x : Tst} {r : Wr} (hw : t.ws x.w = some r) (hk : x.kind = 2 ∨ x.kind = 3) : tDo t x = ownT t x.w r x := by
  unfold tDo
  rw [if_neg (by omega), if_neg (by omega), hw]
  show (if x.kind = 2 ∨ x.kind = 3 then _ else _) = _
  rw [if_pos hk]

theorem own_no {t : Twn} {x : Tst} {r : Wr} (hw : t.ws x.w = some r) (hk : x.kind = 2 ∨ x.kind = 3) (hc : (tDo t x).1 ≠ 0) : (tDo t x).2 = t := by
  rw [tDo_own hw hk] at hc ⊢
  unfold ownT at hc ⊢
  exact if_neg hc
theorem own_yes {t : Twn} {x : Tst} {r : Wr} (hw : t.ws x.w = some r) (hk : x.kind = 2 ∨ x.kind = 3) (hc : (tDo t x).1 = 0) : doC r.list (ownD r x) openN = 0 ∧ (tDo t x).2 = ownedT t x.w r (ownD r x) := by
  rw [tDo_own hw hk] at hc ⊢
  unfold ownT at hc ⊢
  exact ⟨hc, if_pos hc⟩

/-- What the deed of a step is. -/
theorem own_at (r : Wr) (x : Tst) : (ownD r x).at_ = x.at_ ∧ (x.kind = 2 → (ownD r x).kind = 1 ∧ (ownD r x).many = 0 ∧ (ownD r x).text = x.text) ∧ (x.kind = 3 → (ownD r x).kind = 2 ∧ (ownD r x).many = x.many) := by
  unfold ownD
  by_cases h : x.kind = 2
  · rw [if_pos h]
    exact ⟨rfl, fun _ => ⟨rfl, rfl, rfl⟩, fun e => by omega⟩
  · rw [if_neg h]
    exact ⟨rfl, fun e => absurd e h, fun _ => ⟨rfl, rfl⟩⟩

/-- ONE'S OWN DEED, WHERE ALL IS SETTLED. -/
theorem own_settled {t : Twn} (h : Settled t) {x : Tst} {r : Wr} (hw : t.ws x.w = some r) (hk : x.kind = 2 ∨ x.kind = 3) (hc : (tDo t x).1 = 0) :
    (0 ≤ x.at_ ∧ x.at_ ≤ (textL t.b.chars).length ∧ (x.kind = 3 → 0 ≤ x.many ∧ x.at_ + x.many ≤ (textL t.b.chars).length) ∧ (x.kind = 2 → x.text.size ≤ 20)) ∧
    (∃ r', (tDo t x).2.ws x.w = some r' ∧ vw r'.list r'.seen r'.me = spliceL (textL t.b.chars) (ownD r x)) ∧
    ((settleT (tDo t x).2).ws x.w ≠ none → textL (settleT (tDo t x).2).b.chars = spliceL (textL t.b.chars) (ownD r x)) := by
  obtain ⟨hz, he⟩ := own_yes hw hk hc
  obtain ⟨_, hsn, ht⟩ := h.text hw
  obtain ⟨o1, o2, o3⟩ := own_parts r x
  have hfit := fit_of hz
  have hcnt : cnt r.list (ownD r x).seen (ownD r x).by_ = ((textL t.b.chars).length : Int) := by rw [o1, o3, ← vw_len, ht]
  obtain ⟨p1, _, _, _, _, _, p7, _, p9, _, p11, _⟩ := check_parts hfit.1
  have hf2 := hfit.2
  rw [hcnt] at hf2
  obtain ⟨a1, a2, a3⟩ := own_at r x
  rw [a1] at p7 hf2
  refine ⟨⟨p7, by omega, fun e => ?_, fun e => ?_⟩, ?_, fun hn => ?_⟩
  · rw [(a3 e).2] at p9 hf2
    exact ⟨p9, hf2⟩
  · rw [← (a2 e).2.2]
    exact (p11 (a2 e).1).2.1
  · rw [he]
    refine ⟨_, setF_same _ _ _, ?_⟩
    rw [← ht]
    exact vw_own o1 o3 hz
  · rw [he] at hn ⊢
    exact (again_text h.1 h.2.1 h.2.2 hw hn).2.2

/-- WHO COMES LATE. -/
theorem late_join {t : Twn} (h : TwI t) {j : Int} (hc : (tDo t ⟨1, j, 0, 0, ⟨#[]⟩⟩).1 = 0) :
    ∃ r, (tDo t ⟨1, j, 0, 0, ⟨#[]⟩⟩).2.ws j = some r ∧ r.opens = [] ∧ r.sent = 0 ∧ r.seen = (tDo t ⟨1, j, 0, 0, ⟨#[]⟩⟩).2.b.ds.length ∧ vw r.list r.seen r.me = textL (tDo t ⟨1, j, 0, 0, ⟨#[]⟩⟩).2.b.chars := by
  have htd : tDo t ⟨1, j, 0, 0, ⟨#[]⟩⟩ = joinT t j := rfl
  rw [htd] at hc ⊢
  have hc' : joinC t.b j = 0 := hc
  have he : (joinT t j).2 = ⟨joinB t.b j, setF t.ws j (some (newW t.b j))⟩ := if_pos hc'
  rw [he]
  refine ⟨newW t.b j, setF_same _ _ _, rfl, rfl, ?_, ?_⟩
  · show t.b.ds.length = (joinB t.b j).ds.length
    rw [joinB_ds]
  · show _ = textL (joinB t.b j).chars
    rw [joinB_chars]
    exact late_text h j

theorem late_sends {t : Twn} (h : TwI t) {j : Int} {r : Wr} (hw : t.ws j = some r) (ho : r.opens = []) (hz : r.sent = 0) (hsn : r.seen = t.b.ds.length) (text : ByteArray)
    (hc : (tDo t ⟨2, j, (textL t.b.chars).length, 0, text⟩).1 = 0) (hc2 : (tDo (tDo t ⟨2, j, (textL t.b.chars).length, 0, text⟩).2 ⟨4, j, 0, 0, ⟨#[]⟩⟩).1 = 0) :
    textL (tDo (tDo t ⟨2, j, (textL t.b.chars).length, 0, text⟩).2 ⟨4, j, 0, 0, ⟨#[]⟩⟩).2.b.chars = textL t.b.chars ++ nums text ∧ text.size ≤ 20 ∧
    ∃ r3, (tDo (tDo t ⟨2, j, (textL t.b.chars).length, 0, text⟩).2 ⟨4, j, 0, 0, ⟨#[]⟩⟩).2.ws j = some r3 ∧ vw r3.list r3.seen r3.me = textL t.b.chars ++ nums text := by
  have hw' : t.ws (⟨2, j, (textL t.b.chars).length, 0, text⟩ : Tst).w = some r := hw
  obtain ⟨hd, he⟩ := own_yes hw' (.inl rfl) hc
  obtain ⟨a1, a2, _⟩ := own_at r ⟨2, j, (textL t.b.chars).length, 0, text⟩
  obtain ⟨b1, b2, b3⟩ := a2 rfl
  obtain ⟨_, _, _, _, _, _, _, _, _, _, p11, _⟩ := check_parts (fit_of hd).1
  have hsz := (p11 b1).2.1
  rw [b3] at hsz
  rw [he] at hc2 ⊢
  have hw2 : (ownedT t j r (ownD r ⟨2, j, (textL t.b.chars).length, 0, text⟩)).ws j = some (doesW r (ownD r ⟨2, j, (textL t.b.chars).length, 0, text⟩)) := setF_same _ _ _
  have hs2 : (doesW r (ownD r ⟨2, j, (textL t.b.chars).length, 0, text⟩)).opens[(doesW r (ownD r ⟨2, j, (textL t.b.chars).length, 0, text⟩)).sent]? = some (ownD r ⟨2, j, (textL t.b.chars).length, 0, text⟩) := by
    show (r.opens ++ [_])[r.sent]? = _
    rw [ho, hz]; rfl
  have hw2' : (ownedT t (⟨2, j, (textL t.b.chars).length, 0, text⟩ : Tst).w r (ownD r ⟨2, j, (textL t.b.chars).length, 0, text⟩)).ws j = some (doesW r (ownD r ⟨2, j, (textL t.b.chars).length, 0, text⟩)) := hw2
  have e4 : tDo (ownedT t (⟨2, j, (textL t.b.chars).length, 0, text⟩ : Tst).w r (ownD r ⟨2, j, (textL t.b.chars).length, 0, text⟩)) ⟨4, j, 0, 0, ⟨#[]⟩⟩ = sendT (ownedT t j r (ownD r ⟨2, j, (textL t.b.chars).length, 0, text⟩)) j (doesW r (ownD r ⟨2, j, (textL t.b.chars).length, 0, text⟩)) := by
    unfold tDo
    rw [if_neg (by show ¬ ((4 : Int) < 1 ∨ (7 : Int) < 4); decide), if_neg (by show ¬ (4 : Int) = 1; decide)]
    dsimp only
    rw [hw2]
    rfl
  rw [e4] at hc2 ⊢
  have hcc : comesC t.b (ownD r ⟨2, j, (textL t.b.chars).length, 0, text⟩) = 0 := by
    unfold sendT at hc2
    rw [hs2] at hc2
    exact hc2
  obtain ⟨l1, l2⟩ := late_put h hw ho hz hsn hd hcc
  have hsp := splice_end (t := textL t.b.chars) b1 a1
  rw [b3] at hsp
  have hse : (sendT (ownedT t j r (ownD r ⟨2, j, (textL t.b.chars).length, 0, text⟩)) j (doesW r (ownD r ⟨2, j, (textL t.b.chars).length, 0, text⟩))).2 = ⟨comesB t.b (ownD r ⟨2, j, (textL t.b.chars).length, 0, text⟩), setF (ownedT t j r (ownD r ⟨2, j, (textL t.b.chars).length, 0, text⟩)).ws j (some (sentW (doesW r (ownD r ⟨2, j, (textL t.b.chars).length, 0, text⟩))))⟩ := by
    unfold sendT
    rw [hs2]
    exact if_pos hcc
  rw [hse]
  refine ⟨l1.trans hsp, hsz, _, setF_same _ _ _, ?_⟩
  exact l2.trans hsp

end Go.Proofs.Ytnabhdfodckpdac
