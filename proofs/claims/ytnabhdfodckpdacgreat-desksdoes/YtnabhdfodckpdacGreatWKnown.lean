/-
  The contracts of the writer's Open and of seenBytes.
-/
import Derived.Test.YtnabhdfodckpdacGreatWRead
import Derived.Test.YtnabhdfodckpdacGreatFDeeds
import Derived.Test.YtnabhdfodckpdacGreatTBeg
namespace Go.Proofs.YtnabhdfodckpdacGreat
set_option maxRecDepth 20000
open Go.RowKit
abbrev zeroDeed : Dd := ⟨0, 0, 0, 0, 0, 0, ⟨#[]⟩⟩
theorem set_deed : ∀ (l : List Dd) (i : Nat) (y : Dd), i < l.length →
 (((((((cellsD l).set (i * 7) (.int .i64 y.kind)).set (i * 7 + 1) (.int .i64 y.by_)).set (i * 7 + 2) (.int .i64 y.no)).set (i * 7 + 3) (.int .i64 y.seen)).set (i * 7 + 4) (.int .i64 y.at_)).set (i * 7 + 5) (.int .i64 y.many)).set (i * 7 + 6) (.string y.text) = cellsD (l.set i y)
 | [], i, _, hi => absurd hi (Nat.not_lt_zero _)
 | x :: l, 0, y, _ => by simp [cellsD, ddCells]
 | x :: l, i + 1, y, hi => by
  have ih := set_deed l i y (by simpa using hi)
  have e : ∀ (r : Nat) (a : List Value) (u : Value), (ddCells x ++ a).set ((i + 1) * 7 + r) u = ddCells x ++ a.set (i * 7 + r) u := fun r a u => by
   have h7 : (ddCells x).length = 7 := rfl
   rw [List.set_append_right (h := by rw [h7]; omega), h7, show (i + 1) * 7 + r - 7 = i * 7 + r by omega]
  have e0 := fun a u => e 0 a u
  simp only [Nat.add_zero] at e0
  rw [cellsD, List.set_cons_succ, cellsD, ← ih, e0, e, e, e, e, e, e]
structure OI (w : World) (v : Value) (L : List Dd) (wk : World) : Prop where
 below : Below w.heap.size w wk
 own : OwnD wk w.heap.size v L
theorem OI.after {w wk w' : World} {v : Value} {L : List Dd} (h : OI w v L wk) (hb : Below wk.heap.size wk w') : OI w v L w' := ⟨bla h.below hb, h.own.below hb⟩
theorem OI.put {w wk : World} {g n cap : Nat} {L : List Dd} (h : OI w (.slice (some ⟨g, 0, none⟩) n cap) L wk) (hn : L.length = n) {i : Nat} (hi : i < L.length) (y : Dd) :
 OI w (.slice (some ⟨g, 0, none⟩) n cap) (L.set i y) (((((((wk.setCell ⟨g, i * 7, none⟩ (.int .i64 y.kind)).setCell ⟨g, i * 7 + 1, none⟩ (.int .i64 y.by_)).setCell ⟨g, i * 7 + 2, none⟩ (.int .i64 y.no)).setCell ⟨g, i * 7 + 3, none⟩ (.int .i64 y.seen)).setCell ⟨g, i * 7 + 4, none⟩ (.int .i64 y.at_)).setCell ⟨g, i * 7 + 5, none⟩ (.int .i64 y.many)).setCell ⟨g, i * 7 + 6, none⟩ (.string y.text)) := by
 obtain ⟨hb, ho⟩ := h
 have hg := (World.ownsRow.lt ho g rfl).1
 refine ⟨((((((hb.setCell (p := ⟨g, _, none⟩) hg _).setCell (p := ⟨g, _, none⟩) hg _).setCell (p := ⟨g, _, none⟩) hg _).setCell (p := ⟨g, _, none⟩) hg _).setCell (p := ⟨g, _, none⟩) hg _).setCell (p := ⟨g, _, none⟩) hg _).setCell (p := ⟨g, _, none⟩) hg _, ?_⟩
 unfold OwnD at ho ⊢
 rw [List.length_set, ← set_deed L i y hi, hn]
 rw [hn] at ho
 exact ((((((ho.stored _ _).1.stored _ _).1.stored _ _).1.stored _ _).1.stored _ _).1.stored _ _).1.stored _ _ |>.1
theorem ownD_spot {w : World} {base g n cap : Nat} {L : List Dd} (h : OwnD w base (.slice (some ⟨g, 0, none⟩) n cap) L) (hn : L.length = n) {j : Nat} (hj : j < n * 7) : (∃ u, w.cell? ⟨g, j, none⟩ = some u) ∧ w.frozen? ⟨g, j, none⟩ = false := by
 unfold OwnD at h
 rw [hn] at h
 refine ⟨?_, World.ownsRow.frozenAt h j⟩
 have h1 := World.ownsRow.cellAt h j hj
 have h2 := h.1
 rw [h1, List.getElem?_eq_getElem (by omega)]
 exact ⟨_, rfl⟩
theorem cellsD_zero : ∀ n : Nat, cellsD (List.replicate n zeroDeed) = (madeCells zeroDdV.cells (n * 7)).toList := by
 intro n
 apply List.ext_getElem?
 intro j
 have hz : (madeCells zeroDdV.cells (n * 7)).toList.length = n * 7 := by rw [Array.length_toList, size_madeCells]
 by_cases hj : j < n * 7
 ·have hd : j = j / 7 * 7 + j % 7 := by omega
  have hr : j % 7 < 7 := Nat.mod_lt _ (by omega)
  have hi : j / 7 < (List.replicate n zeroDeed).length := by rw [List.length_replicate]; omega
  have e : (madeCells zeroDdV.cells (n * 7)).toList[j]? = some (zeroDdV.cells.getD (j % 7) default) := by
   rw [List.getElem?_eq_getElem (by rw [hz]; exact hj)]
   simp [madeCells, Value.cells]
  rw [e]
  conv => lhs; rw [hd]
  rw [cellsD_get _ _ _ hi hr, List.getElem_replicate]
  generalize j % 7 = r at hr
  rcases (show r = 0 ∨ r = 1 ∨ r = 2 ∨ r = 3 ∨ r = 4 ∨ r = 5 ∨ r = 6 by omega) with rfl | rfl | rfl | rfl | rfl | rfl | rfl <;> rfl
 ·rw [List.getElem?_eq_none (by rw [cellsD_len, List.length_replicate]; omega), List.getElem?_eq_none (by omega)]
theorem run_makeDeeds (n : Nat) (hn : n ≤ 100000) (w : World) : (Instr.makeSlice 38 (.int .i64 n) (.int .i64 n)).run Tryz.prog w = .ok (.slice (some ⟨w.heap.size, 0, none⟩) n n) (w.alloc (.cells (madeCells zeroDdV.cells (n * 7)) 41)) := by
 obtain ⟨i0, hi, hz0, hz1, hz2⟩ := info_parts Tryz.infoDeed
 have := run_make (P := Tryz.prog) w 38 41 i0 zeroDdV Tryz.underlying38 hi hz0 .i64 .i64 n n (by omega) (Int.le_refl _) (by rw [hz2]; omega) (by omega)
 simp only [Int.toNat_natCast, hz1] at this
 exact this
theorem take_rep_len (es : List Dd) (k : Nat) (h : k ≤ es.length) : (es.take k ++ List.replicate (es.length - k) zeroDeed).length = es.length := by
 rw [List.length_append, List.length_take, List.length_replicate]; omega
theorem take_rep_set (es : List Dd) {k : Nat} (h : k < es.length) : (es.take k ++ List.replicate (es.length - k) zeroDeed).set k es[k] = es.take (k + 1) ++ List.replicate (es.length - (k + 1)) zeroDeed := by
 have e : (es.take k).length = k := by rw [List.length_take]; omega
 rw [List.set_append_right (h := by omega), e, Nat.sub_self, show es.length - k = (es.length - (k + 1)) + 1 by omega, List.replicate_succ, List.set_cons_zero, List.take_succ_eq_append_getElem h, List.append_assoc]
 rfl
set_option maxHeartbeats 1600000 in
theorem open_pw {w : World} {base P : Nat} {S : Nat → Prop} {lv ov : Value} {tvs : List Value} {l : List Ch} {es : List Dd} {ts : List (List Ch)} {me next seen sent : Int} (h : PwAt w base S P lv ov tvs l es ts me next seen sent) (hes : es.length ≤ 1000) :
 Calls Tryz.prog 17 #[.pointer (some ⟨P, 0, none⟩)] w fun e w' => ∃ v', e = .returned v' ∧ OwnD w' w.heap.size v' es ∧ Below w.heap.size w w' := by
 have HA : Hid (PwAt w base S P lv ov tvs l es ts me next seen sent) := h
 have c4 := h.cells.opens
 have hlt := h.cells.lt
 obtain ⟨ao, capo, rfl⟩ := h.topen.form
 clear h
 have HE : Hid (∃ n, es.length = n) := ⟨_, rfl⟩
 obtain ⟨n, hn⟩ := HE.out
 have HN : Hid (es.length = n) := hn
 have hmk := run_makeDeeds n (by omega)
 have HO : Hid (OI w (.slice (some ⟨w.heap.size, 0, none⟩) n n) (es.take 0 ++ List.replicate (es.length - 0) zeroDeed) (w.alloc (.cells (madeCells zeroDdV.cells (n * 7)) 41))) := by
  refine ⟨below1 _ _, ?_⟩
  have hz : (madeCells zeroDdV.cells (n * 7)).size = n * 7 := by rw [size_madeCells]
  have := World.ownsRow_lit (base := w.heap.size) (size := 7) (e := 41) w (madeCells zeroDdV.cells (n * 7)) n (Nat.le_refl _) (by unfold maxLen; omega) hz
  unfold OwnD
  rw [List.take_zero, List.nil_append, Nat.sub_zero, List.length_replicate, cellsD_zero, hn]
  exact this
 rw [hn] at c4 hes
 clear hn HE
 go_enter Tryz.func17, Tryz.ntmps17
 go_wp2
 go_loopw [17] (fun i wr => ∃ k : Nat, k ≤ n ∧ i = .int .i64 k ∧ Hid (OI w (.slice (some ⟨w.heap.size, 0, none⟩) n n) (es.take k ++ List.replicate (es.length - k) zeroDeed) wr)) (fun i _ => n - (intOf i).toNat)
 case atStart => exact ⟨0, Nat.zero_le _, rfl, HO⟩
 case round =>
  obtain ⟨k, hk, rfl, HJ⟩ := hrel
  clear HO hmk
  by_cases hlt2 : k < n
  ·have hkl : k < es.length := by rw [HN.out]; exact hlt2
   have hT := HA.out.topen.below HJ.out.below
   have hkv : k < tvs.length := by rw [hT.len]; exact hkl
   obtain ⟨g, cap, hov⟩ := hT.place (by omega)
   simp only [Value.slice.injEq] at hov
   obtain ⟨rfl, -, rfl⟩ := hov
   obtain ⟨⟨hg, h0, h1, h2, h3, h4, h5, h6⟩, h7⟩ := hT.nth rfl hkl hkv
   have hml : (es.take k ++ List.replicate (es.length - k) zeroDeed).length = n := by rw [take_rep_len es k (by omega), HN.out]
   obtain ⟨⟨u0, e0⟩, f0⟩ := ownD_spot HJ.out.own hml (j := k * 7) (by omega)
   obtain ⟨⟨u1, e1⟩, f1⟩ := ownD_spot HJ.out.own hml (j := k * 7 + 1) (by omega)
   obtain ⟨⟨u2, e2⟩, f2⟩ := ownD_spot HJ.out.own hml (j := k * 7 + 2) (by omega)
   obtain ⟨⟨u3, e3⟩, f3⟩ := ownD_spot HJ.out.own hml (j := k * 7 + 3) (by omega)
   obtain ⟨⟨u4, e4⟩, f4⟩ := ownD_spot HJ.out.own hml (j := k * 7 + 4) (by omega)
   obtain ⟨⟨u5, e5⟩, f5⟩ := ownD_spot HJ.out.own hml (j := k * 7 + 5) (by omega)
   obtain ⟨⟨u6, e6⟩, f6⟩ := ownD_spot HJ.out.own hml (j := k * 7 + 6) (by omega)
   have hW : w.heap.size < wr.heap.size := (World.ownsRow.lt HJ.out.own w.heap.size rfl).2
   have hNX := OI.put HJ.out hml (i := k) (by rw [hml]; exact hlt2) es[k]
   rw [take_rep_set es hkl] at hNX
   have HNX : Hid _ := hNX.after (below1 _ (ooObj es[k] tvs[k]))
   clear hNX
   generalize hd : es[k] = d at *
   have hkt : k < ts.length := by rw [← hT.tooks.len]; exact hkv
   obtain ⟨ta, tcap, htf, _⟩ := (hT.tooks.nth k hkv hkt).lst.len
   generalize ts[k].length = tn at htf
   generalize htv : tvs[k] = tv at *
   subst htf
   obtain ⟨kind, by_, no, seen', at_, many, text⟩ := d
   simp only at h0 h1 h2 h3 h4 h5 h6 HNX
   clear hT hml HJ hd htv
   go_wp2
   go_roundw
   case rel => exact ⟨k + 1, by omega, by go_num, HNX⟩
   case measure => simp [intOf]; omega
  ·obtain rfl : k = n := by omega
   have HE : Hid (es.take k ++ List.replicate (es.length - k) zeroDeed = es) := by show _ = _; rw [← HN.out, List.take_length, Nat.sub_self]; simp
   go_wp2
   go_ret
   exact ⟨_, rfl, by have := HJ.out.own; rw [HE.out] at this; exact this, HJ.out.below⟩
end Go.Proofs.YtnabhdfodckpdacGreat

/-
  Steps in memory; greatSteps; the law's own example of desks (desksBegun); played.
-/
namespace Go.Proofs.YtnabhdfodckpdacGreat
set_option maxRecDepth 20000
open Go Go.RowKit
structure TSteps (w : World) (b off : Nat) (xs : List Tst) : Prop where
 lt : b < w.heap.size
 at_ : ∀ i (h : i < xs.length), TsAt w b (off + i * 5) xs[i]
theorem TSteps.below {w w' : World} {b off : Nat} {xs : List Tst} (h : TSteps w b off xs) (hb : Below w.heap.size w w') : TSteps w' b off xs :=
 ⟨by have := hb.size; have := h.lt; omega, fun i hi => (h.at_ i hi).below hb⟩
def TLst (w : World) (v : Value) (xs : List Tst) : Prop :=
 ∃ (a : Option Addr) (len cap : Nat), v = .slice a len cap ∧ xs.length = len ∧ len ≤ cap ∧ (len = 0 ∨ ∃ b off, a = some ⟨b, off, none⟩ ∧ TSteps w b off xs)
theorem TLst.below {w w' : World} {v : Value} {xs : List Tst} (h : TLst w v xs) (hb : Below w.heap.size w w') : TLst w' v xs := by
 obtain ⟨a, len, cap, rfl, h1, h2, h3⟩ := h
 refine ⟨a, len, cap, rfl, h1, h2, ?_⟩
 rcases h3 with h3 | ⟨b, off, rfl, hr⟩
 ·exact .inl h3
 ·exact .inr ⟨b, off, rfl, hr.below hb⟩
theorem TLst.len {w : World} {v : Value} {xs : List Tst} (h : TLst w v xs) : ∃ a cap, v = .slice a xs.length cap := by
 obtain ⟨a, len, cap, rfl, rfl, h2, h3⟩ := h
 exact ⟨a, cap, rfl⟩
theorem TLst.row {w : World} {a : Option Addr} {cap : Nat} {xs : List Tst} (h : TLst w (.slice a xs.length cap) xs) (hp : 0 < xs.length) : ∃ b off, a = some ⟨b, off, none⟩ ∧ TSteps w b off xs := by
 obtain ⟨a', len, cap', he, h1, h2, h3⟩ := h
 simp only [Value.slice.injEq] at he
 obtain ⟨rfl, rfl, rfl⟩ := he
 rcases h3 with h3 | h3
 ·omega
 ·exact h3
def GreatTIs (xs : List Tst) (w : World) (e : Ending) (w' : World) : Prop := ∃ g, e = .returned (.bool g) ∧ (g = false → xs.length ≤ 200) ∧ w' = w
theorem greatT_yes (xs : List Tst) (w : World) : GreatTIs xs w (.returned (.bool true)) w := ⟨true, rfl, fun e => (by cases e), rfl⟩
set_option maxHeartbeats 800000 in
theorem greatT_any (v : Value) (xs : List Tst) (w : World) (h : TLst w v xs) :
 Calls Tryz.prog 22 #[v] w fun e w' => GreatTIs xs w e w' := by
 obtain ⟨a, cap, rfl⟩ := h.len
 have HD : Hid (TLst w (.slice a xs.length cap) xs) := h
 clear h
 go_enter Tryz.func22, Tryz.ntmps22
 go_wp2
 go_loop [3] (fun i => ∃ k : Nat, k ≤ xs.length ∧ k ≤ 300 ∧ i = .int .i64 k) (fun i => 300 - (intOf i).toNat)
 case atStart => exact ⟨0, Nat.zero_le _, by omega, rfl⟩
 case round =>
  obtain ⟨k, hk, hk2, rfl⟩ := hrel
  by_cases hlt : k < xs.length
  ·by_cases hlt2 : k < 300
   ·obtain ⟨b, off, rfl, hr⟩ := HD.out.row (by omega)
    obtain ⟨_, c0, c1, c2, c3, c4⟩ := hr.at_ k hlt
    generalize xs[k] = x at *
    clear hr c0 c1 c2 c3
    by_cases ht : 100 < x.text.size
    ·go_wp2
     go_ret
     exact greatT_yes xs w
    ·go_wp2
     go_round
     case rel => exact ⟨k + 1, by omega, by omega, by go_num⟩
     case measure => simp [intOf]; omega
   ·go_wp2
    go_ret
    exact ⟨decide (200 < (xs.length : Int)), rfl, fun e => (by have := of_decide_eq_false e; omega), rfl⟩
  ·go_wp2
   go_ret
   exact ⟨decide (200 < (xs.length : Int)), rfl, fun e => (by have := of_decide_eq_false e; omega), rfl⟩
section
variable {w wk w' : World} {D G : Nat} {pw : Nat → Nat} {t : Twn}
theorem DkAny.after {base : Nat} {S : Nat → Prop} (h : DkAny base w S D G pw t wk) (hb : Below wk.heap.size wk w') : DkAny base w S D G pw t w' := by
 obtain ⟨tk, h1, h2⟩ := h
 exact ⟨tk, h1.after hb, h2⟩
theorem DkAny.below (h : DkAny w.heap.size w (fun _ => False) D G pw t wk) : Below w.heap.size w wk := by
 obtain ⟨tk, h1, h2⟩ := h
 exact (Hq.kept h1).below (fun _ e => e.elim) (Nat.le_refl _)
theorem DkAny.cells {base : Nat} {S : Nat → Prop} (h : DkAny base w S D G pw t wk) : TwC wk D G pw (hasW t) := by
 obtain ⟨tk, h1, h2⟩ := h
 exact h1.cells
theorem DkAny.ti {base : Nat} {S : Nat → Prop} (h : DkAny base w S D G pw t wk) : TwI t := by
 obtain ⟨tk, h1, h2⟩ := h
 exact h2.ti
theorem any_start (w : World) : DkAny w.heap.size w (fun _ => False) (w.heap.size + 1) w.heap.size (fun _ => 0) twn0 ((w.alloc (.cells logZ 93)).alloc (.cells (deskZ w.heap.size) 109)) :=
 ⟨fun _ => [], by
  have h := dkAt_start w
  refine dk_lay (w := (w.alloc (.cells logZ 93)).alloc (.cells (deskZ w.heap.size) 109)) ?_ rfl (bla (below1 _ _) (below1 _ _))
  have hsz : ((w.alloc (.cells logZ 93)).alloc (.cells (deskZ w.heap.size) 109)).heap.size = w.heap.size + 2 := by simp
  rw [hsz]
  exact h, tr_start⟩
theorem DkAny.does {base : Nat} {S : Nat → Prop} (h : DkAny base w S D G pw t wk) (x : Tst) :
 Calls Tryz.prog 25 #[.pointer (some ⟨D, 0, none⟩), tsV x] wk fun e w' => e = .returned (.int .i64 (tDo t x).1) ∧ ∃ pw', DkAny base w S D G pw' (tDo t x).2 w' ∧ (x.kind ≠ 1 → pw' = pw) := by
 obtain ⟨tk, h1, h2⟩ := h
 obtain ⟨T, ha, hs⟩ := h1.call
 exact (do_dk ha h2 x).mono fun e w' ⟨e1, pw', tk', e2, e3, e4⟩ => ⟨e1, pw', ⟨tk', hs _ _ _ _ e2, e3⟩, e4⟩
theorem DkAny.settles {base : Nat} {S : Nat → Prop} (h : DkAny base w S D G pw t wk) :
 Calls Tryz.prog 28 #[.pointer (some ⟨D, 0, none⟩)] wk fun e w' => e = .returned (.tuple #[]) ∧ DkAny base w S D G pw (settleT t) w' := by
 obtain ⟨tk, h1, h2⟩ := h
 obtain ⟨T, ha, hs⟩ := h1.call
 exact (settle_dk ha h2).mono fun e w' ⟨e1, tk', e2, e3⟩ => ⟨e1, tk', hs _ _ _ _ e2, e3⟩
theorem DkAny.text {base : Nat} {S : Nat → Prop} (h : DkAny base w S D G pw t wk) :
 Calls Tryz.prog 64 #[.pointer (some ⟨G, 0, none⟩)] wk fun e w' => e = .returned (.string (strOfNums (textL t.b.chars))) ∧ Below wk.heap.size wk w' := by
 obtain ⟨tk, h1, h2⟩ := h
 obtain ⟨T, dv, lv, hl, _⟩ := h1.log
 exact text_lg hl
theorem DkAny.len {base : Nat} {S : Nat → Prop} (h : DkAny base w S D G pw t wk) :
 Calls Tryz.prog 40 #[.pointer (some ⟨G, 0, none⟩)] wk fun e w' => e = .returned (.int .i64 t.b.ds.length) ∧ w' = wk := by
 obtain ⟨tk, h1, h2⟩ := h
 obtain ⟨T, dv, lv, hl, _⟩ := h1.log
 exact len_lg hl
theorem DkAny.wtext {base : Nat} {S : Nat → Prop} (h : DkAny base w S D G pw t wk) {k : Nat} (hk : k < 4) {r : Wr} (he : t.ws k = some r) :
 Calls Tryz.prog 20 #[.pointer (some ⟨pw k, 0, none⟩)] wk fun e w' => e = .returned (.string (strOfNums (vw r.list r.seen r.me))) ∧ Below wk.heap.size wk w' := by
 obtain ⟨tk, h1, h2⟩ := h
 obtain ⟨T, lv, ov, tvs, hp, _⟩ := h1.wr hk he
 exact text_pw hp (by have := (tr_wok h2 he).len; omega)
theorem DkAny.writer {base : Nat} {S : Nat → Prop} (h : DkAny base w S D G pw t wk) (n : Int) :
 Calls Tryz.prog 63 #[.pointer (some ⟨D, 0, none⟩), .int .i64 n] wk fun e w' => e = .returned (deskP pw (hasW t) n) ∧ w' = wk := writer_dk h.cells n
end
theorem str_size (l : List Int) : (strOfNums l).size = l.length := by
 simp [strOfNums, ByteArray.size]
def bgTn : Nat → Twn
 | 0 => twn0
 | n + 1 => (tDo (bgTn n) (bgS1 n)).2
theorem bgTn_code {n : Nat} (h : n < 2) : (tDo (bgTn n) (bgS1 n)).1 = 0 := by
 rcases (show n = 0 ∨ n = 1 by omega) with rfl | rfl
 ·exact bgC1
 ·exact bgC2
set_option maxHeartbeats 3200000 in
theorem tbegun_any (w : World) : Calls Tryz.prog 21 #[] w fun e w' => e = .returned (.bool true) ∧ Below w.heap.size w w' := by
 have H0 : Hid (DkAny w.heap.size w (fun _ => False) (w.heap.size + 1) w.heap.size (fun _ => 0) twn0 ((w.alloc (.cells logZ 93)).alloc (.cells (deskZ w.heap.size) 109))) := any_start w
 go_enter Tryz.func21, Tryz.ntmps21
 go_wp2_with fail
 refine (new_dk w).mono ?_
 rintro e w1 ⟨rfl, rfl⟩
 generalize World.alloc _ _ = w1 at *
 generalize w.heap.size + 1 = D at *
 obtain ⟨G, hG⟩ : ∃ G, w.heap.size = G := ⟨_, rfl⟩
 have H1 : Hid (∃ G pw, DkAny w.heap.size w (fun _ => False) D G pw twn0 w1) := ⟨_, _, H0.out⟩
 clear H0 hG G
 go_wp2_with fail
 go_loopw [2] (fun i wr => ∃ n : Nat, n ≤ 2 ∧ i = .int .i64 n ∧ Hid (∃ G pw, DkAny w.heap.size w (fun _ => False) D G pw (bgTn n) wr)) (fun i _ => 2 - (intOf i).toNat)
 case atStart => exact ⟨0, by omega, rfl, H1.out⟩
 case round =>
  obtain ⟨n, hn, rfl, HW⟩ := hrel
  clear H1
  by_cases hlt : n < 2
  ·have hlt' : (n : Int) < 2 := by omega
   have HC : Hid ((tDo (bgTn n) (bgS1 n)).1 = 0) := bgTn_code hlt
   go_wp2_with fail
   obtain ⟨G, pw, hd⟩ := HW.out
   refine (hd.does (bgS1 n)).mono ?_
   rintro e w2 ⟨rfl, pw2, hd2, -⟩
   rw [HC.out]
   have H2 : Hid (∃ G pw, DkAny w.heap.size w (fun _ => False) D G pw (bgTn (n + 1)) w2) := ⟨_, _, hd2⟩
   clear hd2 hd HW
   go_wp2_with fail
   go_roundw
   case rel => exact ⟨n + 1, by omega, by go_num, H2.out⟩
   case measure => simp [intOf]; omega
  ·obtain rfl : n = 2 := by omega
   go_wp2_with fail
   obtain ⟨G, pw, hd⟩ := HW.out
   refine (hd.does bgS3).mono ?_
   rintro e w2 ⟨rfl, pw2, hd2, -⟩
   have hc3 : (tDo (bgTn 2) bgS3).1 = 0 := bgC3
   rw [hc3]
   have H2 : Hid (DkAny w.heap.size w (fun _ => False) D G pw2 bgT3 w2) := hd2
   clear hd2 hd HW hc3
   go_wp2_with fail
   refine (H2.out.does bgS4).mono ?_
   rintro e w3 ⟨rfl, pw3, hd3, -⟩
   have hc4 : (tDo bgT3 bgS4).1 = 0 := bgC4
   rw [hc4]
   have H3 : Hid (DkAny w.heap.size w (fun _ => False) D G pw3 bgT4 w3) := hd3
   clear hd3 H2 hc4
   go_wp2_with fail
   refine H3.out.settles.mono ?_
   rintro e w4 ⟨rfl, hd4⟩
   have H4 : Hid (DkAny w.heap.size w (fun _ => False) D G pw3 (settleT bgT4) w4) := hd4
   clear hd4 H3
   obtain ⟨r, hr, hlen, htx⟩ := beg_settled
   have HE : Hid ((settleT bgT4).ws ((1 : Nat) : Int) = some r) := hr
   have HT : Hid (vw r.list r.seen r.me = textL (settleT bgT4).b.chars) := (settle_text bgI4 hr).2.2
   have HLN : Hid ((settleT bgT4).b.ds.length = 2) := hlen
   have HTX : Hid ((textL (settleT bgT4).b.chars).length = 3) := htx
   have HS5 : Hid ((tDo (settleT bgT4) ⟨4, 1, 0, 0, ⟨#[]⟩⟩).1 = 5) := by
    show (tDo (settleT bgT4) ⟨4, 1, 0, 0, ⟨#[]⟩⟩).1 = 5
    rw [tDo_send, hr]
    show (sendT (settleT bgT4) 1 r).1 = 5
    unfold sendT
    rw [(settle_text bgI4 hr).1]
    rfl
   clear hr hlen htx
   generalize settleT bgT4 = tS at *
   go_wp2_with fail
   refine (H4.out.writer 1).mono ?_
   rintro e w5 ⟨rfl, rfl⟩
   rw [show deskP pw3 (hasW tS) 1 = .pointer (some ⟨pw3 1, 0, none⟩) from desk_some (k := 1) (by omega) HE.out]
   have g0 := H4.out.cells.book
   have hlt0 := H4.out.cells.lt
   go_wp2_with fail
   clear g0 hlt0
   refine H4.out.text.mono ?_
   rintro e w6 ⟨rfl, hb⟩
   have H6 : Hid (DkAny w.heap.size w (fun _ => False) D G pw3 tS w6) := H4.out.after hb
   clear hb H4
   obtain ⟨s, hs⟩ : ∃ s, strOfNums (textL tS.b.chars) = s := ⟨_, rfl⟩
   have HS : Hid (strOfNums (textL tS.b.chars) = s) := hs
   have hsz : s.size = 3 := by rw [← hs, str_size]; exact HTX.out
   rw [hs]
   clear hs
   go_wp2_with fail
   refine (H6.out.wtext (k := 1) (by omega) HE.out).mono ?_
   rintro e w7 ⟨rfl, hb⟩
   rw [HT.out, HS.out]
   have H7 : Hid (DkAny w.heap.size w (fun _ => False) D G pw3 tS w7) := H6.out.after hb
   clear hb H6
   have g0 := H7.out.cells.book
   have hlt0 := H7.out.cells.lt
   go_wp2_with fail
   clear g0 hlt0
   refine H7.out.len.mono ?_
   rintro e w8 ⟨rfl, rfl⟩
   rw [HLN.out]
   go_wp2_with fail
   refine (H7.out.wtext (k := 1) (by omega) HE.out).mono ?_
   rintro e w9 ⟨rfl, hb⟩
   rw [HT.out, HS.out]
   have H9 : Hid (DkAny w.heap.size w (fun _ => False) D G pw3 tS w9) := H7.out.after hb
   clear hb H7
   go_wp2_with fail
   refine (H9.out.does ⟨4, 1, 0, 0, ⟨#[]⟩⟩).mono ?_
   rintro e w10 ⟨rfl, pw10, hd10, -⟩
   rw [HS5.out]
   have H10 : Hid (DkAny w.heap.size w (fun _ => False) D G pw10 _ w10) := hd10
   clear hd10 H9
   go_wp2_with fail
   go_ret
   exact ⟨rfl, H10.out.below⟩
end Go.Proofs.YtnabhdfodckpdacGreat

/-
  The contract of Known: its list, as if nothing were open.
-/
namespace Go.Proofs.YtnabhdfodckpdacGreat
set_option maxRecDepth 20000
open Go.RowKit
theorem andNot_small : ∀ (g : Fin 16) (k : Fin 4), bits .andNot .i64 ((g.val : Nat) : Int) (IntKind.i64.wrap ((2 : Int) ^ k.val)) = clrG ((k.val : Nat) : Int) ((g.val : Nat) : Int) := by decide +kernel
theorem andNot_bit {g : Int} {k : Nat} (h0 : 0 ≤ g) (h1 : g ≤ 15) (hk : k ≤ 3) : bits .andNot .i64 g (IntKind.i64.wrap ((2 : Int) ^ k)) = clrG k g := by
 obtain ⟨n, rfl⟩ := Int.eq_ofNat_of_zero_le h0
 exact andNot_small ⟨n, by omega⟩ ⟨k, by omega⟩
structure KI (w : World) (v : Value) (L : List Ch) (wk : World) : Prop where
 below : Below w.heap.size w wk
 own : Own wk w.heap.size v L
theorem KI.after {w wk w' : World} {v : Value} {L : List Ch} (h : KI w v L wk) (hb : Below wk.heap.size wk w') : KI w v L w' := ⟨bla h.below hb, h.own.below hb⟩
theorem KI.put {w wk : World} {g n cap : Nat} {L : List Ch} (h : KI w (.slice (some ⟨g, 0, none⟩) n cap) L wk) (hn : L.length = n) {i r : Nat} (hi : i < L.length) (hr : r < 7) {y : Ch} {u : Value} (hy : (chCells L[i]).set r u = chCells y) : KI w (.slice (some ⟨g, 0, none⟩) n cap) (L.set i y) (wk.setCell ⟨g, i * 7 + r, none⟩ u) :=
 ⟨h.below.setCell (p := ⟨g, _, none⟩) (World.ownsRow.lt h.own g rfl).1 _, own_field h.own hn hi hr hy⟩
theorem clr_yes {me : Int} {ts : List (List Ch)} {x : Ch} (h : anyTook ts x = true) : clrF me ts x = ⟨x.c, x.by_, x.no, x.k, x.inn, x.out, clrG me x.gone⟩ := by
 unfold anyTook at h
 rw [clrF, if_pos h]
theorem clr_no {me : Int} {ts : List (List Ch)} {x : Ch} (h : anyTook ts x = false) : clrF me ts x = x := by
 unfold anyTook at h
 rw [clrF, if_neg (by rw [h]; simp)]
set_option maxHeartbeats 1600000 in
theorem known_pw {w : World} {base P : Nat} {S : Nat → Prop} {lv ov : Value} {tvs : List Value} {l : List Ch} {es : List Dd} {ts : List (List Ch)} {next seen sent : Int} {me : Nat} (h : PwAt w base S P lv ov tvs l es ts me next seen sent) (hl : l.length ≤ 1000) (hme : me ≤ 3) (hes : es.length ≤ 1000) (hts : ∀ t ∈ ts, t.length ≤ 1000) (hg : ∀ x ∈ l, 0 ≤ x.gone ∧ x.gone ≤ 15) :
 Calls Tryz.prog 13 #[.pointer (some ⟨P, 0, none⟩)] w fun e w' => ∃ v', e = .returned v' ∧ Own w' w.heap.size v' (knownL me ts l) ∧ Below w.heap.size w w' := by
 have HA : Hid (PwAt w base S P lv ov tvs l es ts me next seen sent) := h
 have HT : Hid (∀ t ∈ ts, t.length ≤ 1000) := hts
 have HG : Hid (∀ x ∈ l.filter (fun x => !decide (x.inn = openN)), 0 ≤ x.gone ∧ x.gone ≤ 15) := fun x hx => hg x (List.mem_filter.1 hx).1
 have HF : Hid (knownL me ts l = (l.filter (fun x => !decide (x.inn = openN))).map (clrF me ts)) := rfl
 have hfl : (l.filter (fun x => !decide (x.inn = openN))).length ≤ 1000 := Nat.le_trans (List.length_filter_le _ _) hl
 have hlt := h.cells.lt
 have hmf : ∀ (fn : Fn) (first cap : Array Value) (w : World), (Instr.makeFunc fn first cap).run Tryz.prog w = .ok (.func fn first cap) w := fun _ _ _ _ => rfl
 have hm4 : (me : Int) < 64 := by omega
 clear h hts hg
 go_enter Tryz.func13, Tryz.ntmps13
 go_wp2_with fail
 refine (chars_pw HA.out hl).mono ?_
 rintro e w1 ⟨v1, rfl, ho1, hb1⟩
 have HO1 : Hid (Own w1 w.heap.size v1 l) := ho1
 have HB1 : Hid (Below w.heap.size w w1) := hb1
 clear ho1 hb1
 go_wp2_with fail
 refine (deleteFunc_own (isOpen_looks w.heap.size) HO1.out HB1.out.size hl trivial).mono ?_
 rintro e w2 ⟨v2, rfl, ho2, hb2⟩
 have HK : Hid (KI w v2 (l.filter fun x => !decide (x.inn = openN)) w2) := ⟨HB1.out.trans hb2, ho2⟩
 clear ho2 hb2 HO1 HB1
 generalize (l.filter fun x => !decide (x.inn = openN)) = z at *
 by_cases h0 : z.length = 0
 ·obtain rfl : z = [] := List.length_eq_zero_iff.1 h0
  obtain ⟨a, cap, rfl, _⟩ := HK.out.own.lst.len
  go_wp2
  refine wp_loop_rounds 1 ?_
  rw [rounds_succ]
  go_wp2
  go_ret
  exact ⟨_, rfl, by rw [HF.out]; exact HK.out.own, HK.out.below⟩
 ·obtain ⟨g, cap, rfl⟩ := own_place HK.out.own (by omega)
  have HN : Hid (∃ n, z.length = n) := ⟨_, rfl⟩
  obtain ⟨n, hn⟩ := HN.out
  have HZ : Hid (z.length = n) := hn
  rw [hn] at HK hfl h0
  rw [hn]
  clear HN hn
  go_wp2
  go_loopw [11] (fun i wr => ∃ k : Nat, k ≤ n ∧ i = .int .i64 k ∧ Hid (KI w (.slice (some ⟨g, 0, none⟩) n cap) (mixF (clrF me ts) k z) wr)) (fun i _ => n - (intOf i).toNat)
  case atStart => exact ⟨0, Nat.zero_le _, rfl, HK⟩
  case round =>
   obtain ⟨k, hk, rfl, HJ⟩ := hrel
   clear HK
   have hPg : P ≠ g := by have := (World.ownsRow.lt HJ.out.own g rfl).1; omega
   have hPg' : ¬ g = P := fun e => hPg e.symm
   by_cases hlt2 : k < n
   ·have hkl : k < z.length := by rw [HZ.out]; exact hlt2
    have hml : (mixF (clrF me ts) k z).length = n := by rw [mixF_len, HZ.out]
    have hkm : k < (mixF (clrF me ts) k z).length := by rw [hml]; exact hlt2
    have hget := mixF_get (clrF me ts) hkl hkm
    obtain ⟨b', o', e', _, r'⟩ := HJ.out.own.lst.row (by omega)
    cases e'
    obtain ⟨h0, h1, h2, h3, h4, h5, h6⟩ := r'.at_ k hkm
    simp only [Nat.zero_add] at h0 h1 h2 h3 h4 h5 h6
    rw [hget] at h0 h1 h2 h3 h4 h5 h6
    obtain ⟨x, hx⟩ : ∃ x, x = z[k] := ⟨_, rfl⟩
    rw [← hx] at h0 h1 h2 h3 h4 h5 h6
    have HX : Hid (x = z[k]) := hx
    have HGT : Hid ((mixF (clrF me ts) k z)[k] = z[k]) := hget
    have hgb : 0 ≤ x.gone ∧ x.gone ≤ 15 := by rw [hx]; exact HG.out _ (List.getElem_mem hkl)
    obtain ⟨hg0, hg15⟩ := hgb
    have c4 := (HA.out.below HJ.out.below).cells.opens
    have hPw := (HA.out.below HJ.out.below).cells.lt
    obtain ⟨ao, capo, hov⟩ := HA.out.topen.form
    have HOV : Hid (ov = .slice ao es.length capo) := hov
    rw [hov] at c4
    clear r' hx hget hov
    have HBX : Hid (CBox x wr.heap.size (wr.alloc (chObj x))) := by
     refine ⟨by simp, ?_, ?_, ?_, ?_, ?_, ?_, ?_⟩ <;> simp [go_sem]
    have HAX : Hid (Below wr.heap.size wr (wr.alloc (chObj x))) := below1 _ _
    have HGO : Hid (bits .andNot .i64 x.gone (IntKind.i64.wrap ((2 : Int) ^ me)) = clrG me x.gone) := andNot_bit hg0 hg15 hme
    obtain ⟨xc, xb, xn, xk, xi, xo, xg⟩ := x
    simp only at h0 h1 h2 h3 h4 h5 h6 hg0 hg15 HGO
    go_wp2_with fail
    have hco := containsO_any (HA.out.topen.below (bla HJ.out.below HAX.out)) hes HT.out ⟨xc, xb, xn, xk, xi, xo, xg⟩ wr.heap.size HBX.out
    rw [HOV.out] at hco
    refine hco.mono ?_
    rintro e w3 ⟨rfl, hb3⟩
    have HJ3 : Hid (KI w (.slice (some ⟨g, 0, none⟩) n cap) (mixF (clrF me ts) k z) w3) := HJ.out.after (bla HAX.out hb3)
    clear hb3 hco HBX HAX h0 h1 h2 h3 h4 h5 h6 c4 HJ
    cases hany : anyTook ts ⟨xc, xb, xn, xk, xi, xo, xg⟩
    ·have HN2 : Hid (KI w (.slice (some ⟨g, 0, none⟩) n cap) (mixF (clrF me ts) (k + 1) z) w3) := by
      rw [mixF_same _ hkl (by rw [← HX.out]; exact clr_no hany)]
      exact HJ3
     clear HJ3 HX HGT hany HGO
     go_wp2
     go_roundw
     case rel => exact ⟨k + 1, by omega, by go_num, HN2⟩
     case measure => simp [intOf]; omega
    ·have HN2 : Hid (∀ wk, KI w (.slice (some ⟨g, 0, none⟩) n cap) (mixF (clrF me ts) k z) wk → KI w (.slice (some ⟨g, 0, none⟩) n cap) (mixF (clrF me ts) (k + 1) z) (wk.setCell ⟨g, k * 7 + 6, none⟩ (.int .i64 (clrG me xg)))) := fun wk hwk => by
      have := hwk.put hml (i := k) (r := 6) (y := clrF me ts z[k]) (u := .int .i64 (clrG me xg)) (by rw [hml]; exact hlt2) (by omega) (by rw [HGT.out, ← HX.out, clr_yes hany]; rfl)
      rw [mixF_set _ hkl] at this
      exact this
     have HCE : Hid (∀ wk, KI w (.slice (some ⟨g, 0, none⟩) n cap) (mixF (clrF me ts) k z) wk → wk.cell? ⟨g, k * 7 + 6, none⟩ = some (.int .i64 xg) ∧ wk.frozen? ⟨g, k * 7 + 6, none⟩ = false) := fun wk hwk => by
      obtain ⟨b', o', e', _, r'⟩ := hwk.own.lst.row (by omega)
      cases e'
      obtain ⟨_, _, _, _, _, _, q6⟩ := r'.at_ k hkm
      rw [HGT.out, ← HX.out] at q6
      simp only [Nat.zero_add] at q6
      exact ⟨q6, (own_spot7 hwk.own hml (j := k * 7 + 6) (by omega)).2⟩
     clear HX HGT hany
     go_wp2
     refine wrs (fun wk => Below w.heap.size w wk) (fun i => i == 4 || i == 13) (fun wk => KI w (.slice (some ⟨g, 0, none⟩) n cap) (mixF (clrF me ts) k z) wk) (by kernel_rfl) (by kernel_rfl) (by kernel_rfl) (fun _ h => h.below) (HJ3.out.after (Below.refl _ _).drew) ?_
     refine wss rfl (fun K hK => ?_)
     go_simp
     refine ⟨_, fun _ _ => rfl, hK _ ?_⟩
     clear hK K
     refine wss rfl (fun K hK => ?_)
     go_simp
     refine ⟨_, fun _ _ => rfl, hK _ ?_⟩
     clear hK K
     refine wss rfl (fun K hK => ?_)
     go_simp
     refine ⟨_, fun _ _ => rfl, hK _ ?_⟩
     clear hK K
     refine wss rfl (fun K hK => ?_)
     go_simp
     refine ⟨_, fun _ _ => rfl, hK _ ?_⟩
     clear hK K
     refine wsp rfl rfl (fun u => u = .int .i64 xg) (fun u wk => KI w (.slice (some ⟨g, 0, none⟩) n cap) (mixF (clrF me ts) k z) wk) ⟨_, rfl⟩ (fun _ _ h => h.below) (fun wk hwk => ?_) (fun v4 hv4 => ?_)
     ·obtain ⟨q6, _⟩ := HCE.out wk hwk
      go_simp
      exact ⟨rfl, hwk⟩
     subst hv4
     refine wss rfl (fun K hK => ?_)
     go_simp
     refine ⟨_, fun _ _ => rfl, hK _ ?_⟩
     clear hK K
     refine wss rfl (fun K hK => ?_)
     go_simp
     refine ⟨_, fun _ _ => rfl, hK _ ?_⟩
     clear hK K
     refine wss rfl (fun K hK => ?_)
     go_simp
     refine ⟨_, fun _ _ => rfl, hK _ ?_⟩
     clear hK K
     refine wss rfl (fun K hK => ?_)
     go_simp
     refine ⟨.int .i64 me, fun wk hwk => ?_, hK _ ?_⟩
     ·have c := (HA.out.below hwk).cells.me
      go_simp
     clear hK K
     refine wss rfl (fun K hK => ?_)
     go_simp
     refine ⟨.int .i64 (IntKind.i64.wrap ((2 : Int) ^ me)), fun wk hwk => ?_, hK _ ?_⟩
     ·go_simp
     clear hK K
     refine wss rfl (fun K hK => ?_)
     go_simp
     refine ⟨.int .i64 (clrG me xg), fun wk hwk => ?_, hK _ ?_⟩
     ·rw [← HGO.out]
     clear hK K
     refine wss rfl (fun K hK => ?_)
     go_simp
     refine ⟨_, fun _ _ => rfl, hK _ ?_⟩
     clear hK K
     refine wss rfl (fun K hK => ?_)
     go_simp
     refine ⟨_, fun _ _ => rfl, hK _ ?_⟩
     clear hK K
     refine wsp rfl rfl (fun u => u = .tuple #[]) (fun u wk => KI w (.slice (some ⟨g, 0, none⟩) n cap) (mixF (clrF me ts) (k + 1) z) wk) ⟨_, rfl⟩ (fun _ _ h => h.below) (fun wk hwk => ?_) (fun v13 hv13 => ?_)
     ·obtain ⟨q6, f6⟩ := HCE.out wk hwk
      have hN := HN2.out wk hwk
      go_simp
      exact ⟨rfl, hN⟩
     refine wsn (fun w9 hw9 => ?_)
     have H9 : Hid _ := hw9
     clear hw9
     go_wp2
     go_roundw
     case rel => exact ⟨k + 1, by omega, by go_num, H9⟩
     case measure => simp [intOf]; omega
   ·obtain rfl : k = n := by omega
    have HE : Hid (mixF (clrF me ts) k z = z.map (clrF me ts)) := by show _ = _; rw [← HZ.out, mixF_all]
    go_wp2
    go_ret
    exact ⟨_, rfl, by rw [HF.out, ← HE.out]; exact HJ.out.own, HJ.out.below⟩
end Go.Proofs.YtnabhdfodckpdacGreat
