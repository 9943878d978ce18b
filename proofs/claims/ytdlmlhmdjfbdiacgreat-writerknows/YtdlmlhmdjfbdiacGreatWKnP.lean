/-
  The contracts of the writer's Open and of seenBytes.
-/
import Derived.Test.YtdlmlhmdjfbdiacGreatWSteps
import Derived.Test.YtdlmlhmdjfbdiacGreatFLiP
import Derived.Test.YtdlmlhmdjfbdiacGreatWHear0
namespace Go.Proofs.YtdlmlhmdjfbdiacGreat
open Go.RowKit

abbrev zeroDeed : Dd := ⟨0, 0, 0, 0, 0, 0, ⟨#[]⟩⟩

theorem set_deed : ∀ (l : List Dd) (i : Nat) (y : Dd), i < l.length →
    (((((((cellsD l).set (i * 7) (.int .i64 y.kind)).set (i * 7 + 1) (.int .i64 y.by_)).set (i * 7 + 2) (.int .i64 y.no)).set (i * 7 + 3) (.int .i64 y.seen)).set (i * 7 + 4) (.int .i64 y.at_)).set (i * 7 + 5) (.int .i64 y.many)).set (i * 7 + 6) (.string y.text) = cellsD (l.set i y)
  | [], i, _, hi => absurd hi (Nat.not_lt_zero _)
  | x :: l, 0, y, _ => by simp [cellsD, ddCells]
  | x :: l, i + 1, y, hi => by
    have ih := set_deed l i y (by simpa using hi)
    have e : ∀ (r : Nat) (a : List Value) (u : Value), (ddCells x ++ a).set ((i + 1) * 7 + r) u = ddCells x ++ a.set (i * 7 + r) u := fun r a u => by
      have h7 : (ddCells x).length = 7 := rfl
      rw [List.set_append_right (h := by rw [h7]; omega), h7, show (i + 1) * 7 + r - 7 = i * 7 + r by omega]
    have e0 := fun a u => e 0 a u
    simp only [Nat.add_zero] at e0
    rw [cellsD, List.set_cons_succ, cellsD, ← ih, e0, e, e, e, e, e, e]

/-- In the middle of Open: the first k deeds are laid. -/
structure OI (w : World) (v : Value) (L : List Dd) (wk : World) : Prop where
  below : Below w.heap.size w wk
  own : OwnD wk w.heap.size v L

theorem OI.after {w wk w' : World} {v : Value} {L : List Dd} (h : OI w v L wk) (hb : Below wk.heap.size wk w') : OI w v L w' := ⟨below_after h.below hb, h.own.below hb⟩

theorem OI.put {w wk : World} {g n cap : Nat} {L : List Dd} (h : OI w (.slice (some ⟨g, 0, none⟩) n cap) L wk) (hn : L.length = n) {i : Nat} (hi : i < L.length) (y : Dd) :
    OI w (.slice (some ⟨g, 0, none⟩) n cap) (L.set i y) (((((((wk.setCell ⟨g, i * 7, none⟩ (.int .i64 y.kind)).setCell ⟨g, i * 7 + 1, none⟩ (.int .i64 y.by_)).setCell ⟨g, i * 7 + 2, none⟩ (.int .i64 y.no)).setCell ⟨g, i * 7 + 3, none⟩ (.int .i64 y.seen)).setCell ⟨g, i * 7 + 4, none⟩ (.int .i64 y.at_)).setCell ⟨g, i * 7 + 5, none⟩ (.int .i64 y.many)).setCell ⟨g, i * 7 + 6, none⟩ (.string y.text)) := by
  obtain ⟨hb, ho⟩ := h
  have hg := (World.ownsRow.lt ho g rfl).1
  refine ⟨((((((hb.setCell (p := ⟨g, _, none⟩) hg _).setCell (p := ⟨g, _, none⟩) hg _).setCell (p := ⟨g, _, none⟩) hg _).setCell (p := ⟨g, _, none⟩) hg _).setCell (p := ⟨g, _, none⟩) hg _).setCell (p := ⟨g, _, none⟩) hg _).setCell (p := ⟨g, _, none⟩) hg _, ?_⟩
  unfold OwnD at ho ⊢
  rw [List.length_set, ← set_deed L i y hi, hn]
  rw [hn] at ho
  exact ((((((ho.stored _ _).1.stored _ _).1.stored _ _).1.stored _ _).1.stored _ _).1.stored _ _).1.stored _ _ |>.1

theorem ownD_spot {w : World} {base g n cap : Nat} {L : List Dd} (h : OwnD w base (.slice (some ⟨g, 0, none⟩) n cap) L) (hn : L.length = n) {j : Nat} (hj : j < n * 7) : (∃ u, w.cell? ⟨g, j, none⟩ = some u) ∧ w.frozen? ⟨g, j, none⟩ = false := by
  unfold OwnD at h
  rw [hn] at h
  refine ⟨?_, World.ownsRow.frozenAt h j⟩
  have h1 := World.ownsRow.cellAt h j hj
  have h2 := h.1
  rw [h1, List.getElem?_eq_getElem (by omega)]
  exact ⟨_, rfl⟩

theorem cellsD_zero : ∀ n : Nat, cellsD (List.replicate n zeroDeed) = (madeCells zeroDdV.cells (n * 7)).toList := by
  intro n
  apply List.ext_getElem?
  intro j
  have hz : (madeCells zeroDdV.cells (n * 7)).toList.length = n * 7 := by rw [Array.length_toList, size_madeCells]
  by_cases hj : j < n * 7
  · have hd : j = j / 7 * 7 + j % 7 := by omega
    have hr : j % 7 < 7 := Nat.mod_lt _ (by omega)
    have hi : j / 7 < (List.replicate n zeroDeed).length := by rw [List.length_replicate]; omega
    have e : (madeCells zeroDdV.cells (n * 7)).toList[j]? = some (zeroDdV.cells.getD (j % 7) default) := by
      rw [List.getElem?_eq_getElem (by rw [hz]; exact hj)]
      simp [madeCells, Value.cells]
    rw [e]
    conv => lhs; rw [hd]
    rw [cellsD_get _ _ _ hi hr, List.getElem_replicate]
    generalize j % 7 = r at hr
    rcases (show r = 0 ∨ r = 1 ∨ r = 2 ∨ r = 3 ∨ r = 4 ∨ r = 5 ∨ r = 6 by omega) with rfl | rfl | rfl | rfl | rfl | rfl | rfl <;> rfl
  · rw [List.getElem?_eq_none (by rw [cellsD_len, List.length_replicate]; omega), List.getElem?_eq_none (by omega)]

theorem run_makeDeeds (n : Nat) (hn : n ≤ 100000) (w : World) : (Instr.makeSlice 38 (.int .i64 n) (.int .i64 n)).run Tryz.prog w = .ok (.slice (some ⟨w.heap.size, 0, none⟩) n n) (w.alloc (.cells (madeCells zeroDdV.cells (n * 7)) 41)) := by
  obtain ⟨i0, hi, hz0, hz1, hz2⟩ := info_parts Tryz.infoDeed
  have := run_make (P := Tryz.prog) w 38 41 i0 zeroDdV Tryz.underlying38 hi hz0 .i64 .i64 n n (by omega) (Int.le_refl _) (by rw [hz2]; omega) (by omega)
  simp only [Int.toNat_natCast, hz1] at this
  exact this

theorem take_rep_len (es : List Dd) (k : Nat) (h : k ≤ es.length) : (es.take k ++ List.replicate (es.length - k) zeroDeed).length = es.length := by
  rw [List.length_append, List.length_take, List.length_replicate]; omega
theorem take_rep_set (es : List Dd) {k : Nat} (h : k < es.length) : (es.take k ++ List.replicate (es.length - k) zeroDeed).set k es[k] = es.take (k + 1) ++ List.replicate (es.length - (k + 1)) zeroDeed := by
  have e : (es.take k).length = k := by rw [List.length_take]; omega
  rw [List.set_append_right (h := by omega), e, Nat.sub_self, show es.length - k = (es.length - (k + 1)) + 1 by omega, List.replicate_succ, List.set_cons_zero, List.take_succ_eq_append_getElem h, List.append_assoc]
  rfl

set_option maxRecDepth 20000 in
set_option maxHeartbeats 1600000 in
theorem open_pw {w : World} {base P : Nat} {S : Nat → Prop} {lv ov : Value} {tvs : List Value} {l : List Ch} {es : List Dd} {ts : List (List Ch)} {me next seen sent : Int} (h : PwAt w base S P lv ov tvs l es ts me next seen sent) (hes : es.length ≤ 1000) :
    Calls Tryz.prog 16 #[.pointer (some ⟨P, 0, none⟩)] w fun e w' => ∃ v', e = .returned v' ∧ OwnD w' w.heap.size v' es ∧ Below w.heap.size w w' := by
  have HA : Hid (PwAt w base S P lv ov tvs l es ts me next seen sent) := h
  have c4 := h.cells.opens
  have hlt := h.cells.lt
  obtain ⟨ao, capo, rfl⟩ := h.topen.form
  clear h
  have HE : Hid (∃ n, es.length = n) := ⟨_, rfl⟩
  obtain ⟨n, hn⟩ := HE.out
  have HN : Hid (es.length = n) := hn
  have hmk := run_makeDeeds n (by omega)
  have HO : Hid (OI w (.slice (some ⟨w.heap.size, 0, none⟩) n n) (es.take 0 ++ List.replicate (es.length - 0) zeroDeed) (w.alloc (.cells (madeCells zeroDdV.cells (n * 7)) 41))) := by
    refine ⟨below1 _ _, ?_⟩
    have hz : (madeCells zeroDdV.cells (n * 7)).size = n * 7 := by rw [size_madeCells]
    have := World.ownsRow_lit (base := w.heap.size) (size := 7) (e := 41) w (madeCells zeroDdV.cells (n * 7)) n (Nat.le_refl _) (by unfold maxLen; omega) hz
    unfold OwnD
    rw [List.take_zero, List.nil_append, Nat.sub_zero, List.length_replicate, cellsD_zero, hn]
    exact this
  rw [hn] at c4 hes
  clear hn HE
  go_enter Tryz.func16, Tryz.ntmps16
  go_wp2
  go_loopw [17] (fun i wr => ∃ k : Nat, k ≤ n ∧ i = .int .i64 k ∧ Hid (OI w (.slice (some ⟨w.heap.size, 0, none⟩) n n) (es.take k ++ List.replicate (es.length - k) zeroDeed) wr)) (fun i _ => n - (intOf i).toNat)
  case atStart => exact ⟨0, Nat.zero_le _, rfl, HO⟩
  case round =>
    obtain ⟨k, hk, rfl, HJ⟩ := hrel
    clear HO hmk
    by_cases hlt2 : k < n
    · have hkl : k < es.length := by rw [HN.out]; exact hlt2
      have hT := HA.out.topen.below HJ.out.below
      have hkv : k < tvs.length := by rw [hT.len]; exact hkl
      obtain ⟨g, cap, hov⟩ := hT.place (by omega)
      simp only [Value.slice.injEq] at hov
      obtain ⟨rfl, -, rfl⟩ := hov
      obtain ⟨⟨hg, h0, h1, h2, h3, h4, h5, h6⟩, h7⟩ := hT.nth rfl hkl hkv
      have hml : (es.take k ++ List.replicate (es.length - k) zeroDeed).length = n := by rw [take_rep_len es k (by omega), HN.out]
      obtain ⟨⟨u0, e0⟩, f0⟩ := ownD_spot HJ.out.own hml (j := k * 7) (by omega)
      obtain ⟨⟨u1, e1⟩, f1⟩ := ownD_spot HJ.out.own hml (j := k * 7 + 1) (by omega)
      obtain ⟨⟨u2, e2⟩, f2⟩ := ownD_spot HJ.out.own hml (j := k * 7 + 2) (by omega)
      obtain ⟨⟨u3, e3⟩, f3⟩ := ownD_spot HJ.out.own hml (j := k * 7 + 3) (by omega)
      obtain ⟨⟨u4, e4⟩, f4⟩ := ownD_spot HJ.out.own hml (j := k * 7 + 4) (by omega)
      obtain ⟨⟨u5, e5⟩, f5⟩ := ownD_spot HJ.out.own hml (j := k * 7 + 5) (by omega)
      obtain ⟨⟨u6, e6⟩, f6⟩ := ownD_spot HJ.out.own hml (j := k * 7 + 6) (by omega)
      have hW : w.heap.size < wr.heap.size := (World.ownsRow.lt HJ.out.own w.heap.size rfl).2
      have hNX := OI.put HJ.out hml (i := k) (by rw [hml]; exact hlt2) es[k]
      rw [take_rep_set es hkl] at hNX
      have HNX : Hid _ := hNX.after (below1 _ (ooObj es[k] tvs[k]))
      clear hNX
      generalize hd : es[k] = d at *
      have hkt : k < ts.length := by rw [← hT.tooks.len]; exact hkv
      obtain ⟨ta, tcap, htf, _⟩ := (hT.tooks.nth k hkv hkt).lst.len
      generalize ts[k].length = tn at htf
      generalize htv : tvs[k] = tv at *
      subst htf
      obtain ⟨kind, by_, no, seen', at_, many, text⟩ := d
      simp only at h0 h1 h2 h3 h4 h5 h6 HNX
      clear hT hml HJ hd htv
      go_wp2
      go_roundw
      case rel => exact ⟨k + 1, by omega, by go_num, HNX⟩
      case measure => simp [intOf]; omega
    · obtain rfl : k = n := by omega
      have HE : Hid (es.take k ++ List.replicate (es.length - k) zeroDeed = es) := by show _ = _; rw [← HN.out, List.take_length, Nat.sub_self]; simp
      go_wp2
      go_ret
      exact ⟨_, rfl, by have := HJ.out.own; rw [HE.out] at this; exact this, HJ.out.below⟩

end Go.Proofs.YtdlmlhmdjfbdiacGreat

/-
  The law's own example of a writer (writerBegun); greatRoom; newRoom; steps in memory.
-/
namespace Go.Proofs.YtdlmlhmdjfbdiacGreat
open Go Go.RowKit

/-- One writer, and deeds in boxes of their own. -/
structure BW (w : World) (P : Nat) (l : List Ch) (es : List Dd) (ts : List (List Ch)) (next seen sent : Int) (bx : List (Nat × Dd)) (wk : World) : Prop where
  at_ : ∃ S lv ov tvs, PwAt wk w.heap.size S P lv ov tvs l es ts 1 next seen sent ∧ ∀ p ∈ bx, DdAt wk p.1 0 p.2 ∧ ¬ S p.1
  below : Below w.heap.size w wk

section
variable {w wk w' : World} {P : Nat} {l : List Ch} {es : List Dd} {ts : List (List Ch)} {next seen sent : Int} {bx : List (Nat × Dd)}

theorem BW.after (h : BW w P l es ts next seen sent bx wk) (hb : Below wk.heap.size wk w') : BW w P l es ts next seen sent bx w' := by
  obtain ⟨S, lv, ov, tvs, h1, h2⟩ := h.at_
  exact ⟨⟨S, lv, ov, tvs, h1.below hb, fun p hp => ⟨(h2 p hp).1.below hb, (h2 p hp).2⟩⟩, below_after h.below hb⟩

theorem BW.boxed (h : BW w P l es ts next seen sent bx wk) (d : Dd) : BW w P l es ts next seen sent ((wk.heap.size, d) :: bx) (wk.alloc (dObj d)) := by
  obtain ⟨S, lv, ov, tvs, h1, h2⟩ := h.at_
  have hb : Below wk.heap.size wk (wk.alloc (dObj d)) := below1 _ _
  refine ⟨⟨S, lv, ov, tvs, h1.below hb, fun p hp => ?_⟩, below_after h.below hb⟩
  rcases List.mem_cons.1 hp with rfl | hp
  · exact ⟨ddat_start wk d, fun e => by have := (h1.lo _ e).2; simp at this⟩
  · exact ⟨(h2 p hp).1.below hb, (h2 p hp).2⟩

theorem BW.get (h : BW w P l es ts next seen sent bx wk) : ∃ S lv ov tvs, PwAt wk w.heap.size S P lv ov tvs l es ts 1 next seen sent ∧ ∀ l' es' ts' next' seen' sent' w', PwTo wk w.heap.size S P l' es' ts' 1 next' seen' sent' w' → BW w P l' es' ts' next' seen' sent' bx w' := by
  obtain ⟨S, lv, ov, tvs, h1, h2⟩ := h.at_
  refine ⟨S, lv, ov, tvs, h1, fun l' es' ts' next' seen' sent' w' ht => ?_⟩
  obtain ⟨lv', ov', tvs', hat⟩ := ht.at_
  have hk := ht.kept
  refine ⟨⟨_, lv', ov', tvs', hat, fun p hp => ⟨?_, ?_⟩⟩, h.below.trans (hk.below (fun k e => (h1.lo k e).1) h1.base_le)⟩
  · have hd := (h2 p hp).1
    exact hd.of_block (Nat.lt_of_lt_of_le hd.lt hk.size) (hk.block _ hd.lt (h2 p hp).2)
  · have hd := (h2 p hp).1.lt
    rintro (e | e)
    · exact (h2 p hp).2 e
    · omega

theorem BW.deed (h : BW w P l es ts next seen sent bx wk) {p : Nat × Dd} (hp : p ∈ bx) : DdAt wk p.1 0 p.2 := by
  obtain ⟨S, lv, ov, tvs, h1, h2⟩ := h.at_
  exact (h2 p hp).1

end

def begDA : Dd := ⟨1, 1, 1, 0, 0, 0, ⟨#[97, 98]⟩⟩
def begDB : Dd := ⟨1, 2, 1, 0, 0, 0, ⟨#[99]⟩⟩
def begDC : Dd := ⟨2, 1, 2, 2, 1, 1, ⟨#[]⟩⟩
def begL1 : List Ch := doL [] begDA openN
def begL2 : List Ch := doL begL1 begDB 1
def begT : List Ch := tookL [] begDA
def begL3 : List Ch := begL2.map (ackF 1 2 begT)
def begL4 : List Ch := doL begL3 begDC openN

theorem begW1 : doC [] begDA openN = 0 := by decide +kernel
theorem begW2 : doC begL1 begDB ((0 : Int) + 1) = 0 := by decide +kernel
theorem begW3 : doC begL3 begDC openN = 0 := by decide +kernel
theorem begN1 : begL1.length ≤ 1000 := by decide +kernel
theorem begN2 : begL2.length ≤ 1000 := by decide +kernel
theorem begN3 : begL3.length ≤ 1000 := by decide +kernel
theorem begN4 : begL4.length ≤ 1000 := by decide +kernel
theorem begF1 : FitsL begL1 := by unfold FitsL; decide +kernel
theorem begF3 : FitsL begL3 := by unfold FitsL; decide +kernel
theorem begTx : strOfNums (vw begL4 2 1) = ⟨#[97, 99]⟩ := by decide +kernel
theorem begTl : ∀ u ∈ [begT], u.length ≤ 1000 := by decide +kernel

set_option maxRecDepth 20000 in
set_option maxHeartbeats 3200000 in
theorem wbegun_any (w : World) : Calls Tryz.prog 4 #[] w fun e w' => e = .returned (.bool true) ∧ Below w.heap.size w w' := by
  go_enter Tryz.func4, Tryz.ntmps4
  go_wp2_with fail
  refine (new_pw (lst_nil w) (by simp) 1 1 0 (by decide) (by omega) (by omega) (by omega) (fun r hr => ?_) rfl).mono ?_
  · rcases hr with ⟨h1, _⟩ | ⟨_, ⟨k, hk, _⟩ | ⟨_, h2⟩⟩
    · simp at h1
    · simp at hk
    · exact h2
  rintro e w1 ⟨P, v1, rfl, hat, hb⟩
  have HB1 : Hid (BW w P [] [] [] 1 0 0 [] w1) := ⟨⟨_, _, _, _, hat, fun p hp => by cases hp⟩, hb⟩
  clear hat hb
  go_wp2_with fail
  refine (new_none _ 4 1 0 (by decide)).mono ?_
  rintro e w2 ⟨rfl, rfl⟩
  go_wp2_with fail
  obtain ⟨S, lv, ov, tvs, hp, hs⟩ := HB1.out.get
  refine (put_yes hp (by simp) (fun x hx => by cases hx) (by simp) (by omega) 0 ⟨#[97, 98]⟩ begW1).mono ?_
  rintro e w3 ⟨rfl, hto⟩
  have HB3 : Hid (BW w P begL1 [begDA] [begT] 2 0 0 [] w3) := hs _ _ _ _ _ _ _ hto
  clear hto hs hp HB1
  go_upto_region 5 with fail
  have HB4 : Hid (BW w P begL1 [begDA] [begT] 2 0 0 [(w3.heap.size, begDA)] (w3.alloc (dObj begDA))) := HB3.out.boxed begDA
  rw [show w3.alloc (.cells #[.int .i64 1, .int .i64 1, .int .i64 1, .int .i64 0, .int .i64 0, .int .i64 0, .string ⟨#[97, 98]⟩] 41) = w3.alloc (dObj begDA) from rfl]
  generalize w3.alloc (dObj begDA) = w4 at *
  generalize w3.heap.size = E at *
  clear HB3
  go_wp2_with fail
  obtain ⟨S, lv, ov, tvs, hp, hs⟩ := HB4.out.get
  refine (hears_pw (seen := 0) hp begN1 begF1 (by omega) begDB (by decide)).mono ?_
  rintro e w5 ⟨rfl, h0, -⟩
  have hz : doC begL1 begDB (((0 : Nat) : Int) + 1) = 0 := begW2
  rw [hz]
  have HB5 : Hid (BW w P begL2 [begDA] [begT] 2 1 0 [(E, begDA)] w5) := hs _ _ _ _ _ _ _ (h0 hz)
  clear h0 hz hs hp HB4
  obtain ⟨_, c0, c1, c2, c3, c4, c5, c6⟩ := HB5.out.deed (p := (E, begDA)) (by simp)
  simp only [Nat.zero_add, begDA] at c0 c1 c2 c3 c4 c5 c6
  go_wp2_with fail
  clear c0 c1 c2 c3 c4 c5 c6
  obtain ⟨S, lv, ov, tvs, hp, hs⟩ := HB5.out.get
  refine (heard_own0 (d := begDA) (seen := 1) hp rfl begN2 (by simp) begTl (by omega)).mono ?_
  rintro e w6 ⟨rfl, hto⟩
  have HB6 : Hid (BW w P begL3 [] [] 2 2 0 [(E, begDA)] w6) := hs _ _ _ _ _ _ _ hto
  clear hto hs hp HB5
  go_wp2_with fail
  obtain ⟨S, lv, ov, tvs, hp, hs⟩ := HB6.out.get
  refine (take_yes hp begN3 begF3 (by simp) (by omega) 1 1 begW3).mono ?_
  rintro e w7 ⟨rfl, hto⟩
  have HB7 : Hid (BW w P begL4 [begDC] [tookL begL3 begDC] 3 2 0 [(E, begDA)] w7) := hs _ _ _ _ _ _ _ hto
  clear hto hs hp HB6
  go_upto_region 8 with fail
  have HB8 : Hid (BW w P begL4 [begDC] [tookL begL3 begDC] 3 2 0 [(w7.heap.size, begDC), (E, begDA)] (w7.alloc (dObj begDC))) := HB7.out.boxed begDC
  rw [show w7.alloc (.cells #[.int .i64 2, .int .i64 1, .int .i64 2, .int .i64 2, .int .i64 1, .int .i64 1, .string ⟨#[]⟩] 41) = w7.alloc (dObj begDC) from rfl]
  generalize w7.alloc (dObj begDC) = w8 at *
  generalize w7.heap.size = E2 at *
  clear HB7
  go_wp2_with fail
  obtain ⟨S, lv, ov, tvs, hp, hs⟩ := HB8.out.get
  refine (send_some (sent := 0) hp (by simp) (by simp)).mono ?_
  rintro e w9 ⟨rfl, hto⟩
  have HB9 : Hid (BW w P begL4 [begDC] [tookL begL3 begDC] 3 2 1 [(E2, begDC), (E, begDA)] w9) := hs _ _ _ _ _ _ _ hto
  clear hto hs hp HB8
  rw [show ([begDC])[0] = begDC from rfl]
  go_upto_region 9 with fail
  have HBa : Hid (BW w P begL4 [begDC] [tookL begL3 begDC] 3 2 1 [(w9.heap.size, begDC), (E2, begDC), (E, begDA)] (w9.alloc (dObj begDC))) := HB9.out.boxed begDC
  generalize w9.alloc _ = wa at *
  generalize w9.heap.size = E3 at *
  clear HB9
  obtain ⟨_, c0, c1, c2, c3, c4, c5, c6⟩ := HBa.out.deed (p := (E2, begDC)) (by simp)
  obtain ⟨_, b0, b1, b2, b3, b4, b5, b6⟩ := HBa.out.deed (p := (E3, begDC)) (by simp)
  simp only [Nat.zero_add, begDC] at c0 c1 c2 c3 c4 c5 c6 b0 b1 b2 b3 b4 b5 b6
  go_wp2_with fail
  obtain ⟨S, lv, ov, tvs, hp, _⟩ := HBa.out.get
  refine (text_pw hp begN4).mono ?_
  rintro e wb ⟨rfl, hb⟩
  rw [begTx]
  have HBb : Hid (BW w P begL4 [begDC] [tookL begL3 begDC] 3 2 1 [(E3, begDC), (E2, begDC), (E, begDA)] wb) := HBa.out.after hb
  clear hb hp HBa c0 c1 c2 c3 c4 c5 c6 b0 b1 b2 b3 b4 b5 b6
  go_wp2_with fail
  obtain ⟨S, lv, ov, tvs, hp, _⟩ := HBb.out.get
  refine (seen_pw hp).mono ?_
  rintro e wc ⟨rfl, rfl⟩
  go_wp2_with fail
  refine (least_pw (sent := 1) hp).mono ?_
  rintro e wd ⟨rfl, hb⟩
  have HBd : Hid (BW w P begL4 [begDC] [tookL begL3 begDC] 3 2 1 [(E3, begDC), (E2, begDC), (E, begDA)] wd) := HBb.out.after hb
  rw [show leastW [begDC] 1 2 = 2 from rfl]
  clear hb hp HBb
  go_wp2_with fail
  obtain ⟨S, lv, ov, tvs, hp, _⟩ := HBd.out.get
  refine (open_pw hp (by simp)).mono ?_
  rintro e we ⟨ve, rfl, ho, hb⟩
  obtain ⟨va, vc, rfl⟩ := OwnD.len ho
  have HBe : Hid (Below w.heap.size w we) := below_after HBd.out.below hb
  clear ho hb hp HBd
  go_wp2_with fail
  go_ret
  exact ⟨rfl, HBe.out⟩

end Go.Proofs.YtdlmlhmdjfbdiacGreat

/-
  Rooms from the start: steps in memory, greatRoom, newRoom; a room behind some steps.
-/
namespace Go.Proofs.YtdlmlhmdjfbdiacGreat
open Go Go.RowKit

/-- Steps that lie in memory from a place on. -/
structure RSteps (w : World) (b off : Nat) (xs : List RStep) : Prop where
  lt : b < w.heap.size
  at_ : ∀ i (h : i < xs.length), RsAt w b (off + i * 5) xs[i]

theorem RSteps.below {w w' : World} {b off : Nat} {xs : List RStep} (h : RSteps w b off xs) (hb : Below w.heap.size w w') : RSteps w' b off xs :=
  ⟨by have := hb.size; have := h.lt; omega, fun i hi => (h.at_ i hi).below hb⟩

/-- The value is a slice that holds just those steps. -/
def RLst (w : World) (v : Value) (xs : List RStep) : Prop :=
  ∃ (a : Option Addr) (len cap : Nat), v = .slice a len cap ∧ xs.length = len ∧ len ≤ cap ∧ (len = 0 ∨ ∃ b off, a = some ⟨b, off, none⟩ ∧ RSteps w b off xs)

theorem RLst.below {w w' : World} {v : Value} {xs : List RStep} (h : RLst w v xs) (hb : Below w.heap.size w w') : RLst w' v xs := by
  obtain ⟨a, len, cap, rfl, h1, h2, h3⟩ := h
  refine ⟨a, len, cap, rfl, h1, h2, ?_⟩
  rcases h3 with h3 | ⟨b, off, rfl, hr⟩
  · exact .inl h3
  · exact .inr ⟨b, off, rfl, hr.below hb⟩

theorem RLst.len {w : World} {v : Value} {xs : List RStep} (h : RLst w v xs) : ∃ a cap, v = .slice a xs.length cap := by
  obtain ⟨a, len, cap, rfl, rfl, h2, h3⟩ := h
  exact ⟨a, cap, rfl⟩

theorem RLst.row {w : World} {a : Option Addr} {cap : Nat} {xs : List RStep} (h : RLst w (.slice a xs.length cap) xs) (hp : 0 < xs.length) : ∃ b off, a = some ⟨b, off, none⟩ ∧ RSteps w b off xs := by
  obtain ⟨a', len, cap', he, h1, h2, h3⟩ := h
  simp only [Value.slice.injEq] at he
  obtain ⟨rfl, rfl, rfl⟩ := he
  rcases h3 with h3 | h3
  · omega
  · exact h3

/-- What greatRoom answers. -/
def GreatRIs (xs : List RStep) (w : World) (e : Ending) (w' : World) : Prop := ∃ g, e = .returned (.bool g) ∧ (g = false → xs.length ≤ 160) ∧ w' = w

theorem greatR_yes (xs : List RStep) (w : World) : GreatRIs xs w (.returned (.bool true)) w := ⟨true, rfl, fun e => (by cases e), rfl⟩

set_option maxRecDepth 20000 in
set_option maxHeartbeats 800000 in
theorem greatR_any (v : Value) (xs : List RStep) (w : World) (h : RLst w v xs) :
    Calls Tryz.prog 5 #[v] w fun e w' => GreatRIs xs w e w' := by
  obtain ⟨a, cap, rfl⟩ := h.len
  have HD : Hid (RLst w (.slice a xs.length cap) xs) := h
  clear h
  go_enter Tryz.func5, Tryz.ntmps5
  go_wp2
  go_loop [3] (fun i => ∃ k : Nat, k ≤ xs.length ∧ k ≤ 200 ∧ i = .int .i64 k) (fun i => 200 - (intOf i).toNat)
  case atStart => exact ⟨0, Nat.zero_le _, by omega, rfl⟩
  case round =>
    obtain ⟨k, hk, hk2, rfl⟩ := hrel
    by_cases hlt : k < xs.length
    · by_cases hlt2 : k < 200
      · obtain ⟨b, off, rfl, hr⟩ := HD.out.row (by omega)
        obtain ⟨_, c0, c1, c2, c3, c4⟩ := hr.at_ k hlt
        generalize xs[k] = x at *
        clear hr c0 c1 c2 c3
        by_cases ht : 100 < x.text.size
        · go_wp2
          go_ret
          exact greatR_yes xs w
        · go_wp2
          go_round
          case rel => exact ⟨k + 1, by omega, by omega, by go_num⟩
          case measure => simp [intOf]; omega
      · go_wp2
        go_ret
        exact ⟨decide (160 < (xs.length : Int)), rfl, fun e => (by have := of_decide_eq_false e; omega), rfl⟩
    · go_wp2
      go_ret
      exact ⟨decide (160 < (xs.length : Int)), rfl, fun e => (by have := of_decide_eq_false e; omega), rfl⟩

abbrev logZ : Array Value := #[.bool false, .int .i64 0, .int .i64 0, .bool false, .int .i64 0, .int .i64 0, .bool false, .int .i64 0, .int .i64 0, .bool false, .int .i64 0, .int .i64 0, .slice none 0 0, .slice none 0 0]
abbrev roomZ (G : Nat) (bare : Bool) : Array Value := #[.pointer (some ⟨G, 0, none⟩), .pointer none, .pointer none, .pointer none, .pointer none, .pointer none, .pointer none, .pointer none, .pointer none, .bool bare]

theorem logAt_start (w : World) {base : Nat} (hb : base ≤ w.heap.size) : LogAt (w.alloc (.cells logZ 83)) base (fun k => k = w.heap.size) w.heap.size (.slice none 0 0) (.slice none 0 0) Bk.empty := by
  refine ⟨fun k e => ⟨by omega, by simp; omega⟩, rfl, ⟨by simp, fun j hj => ?_, fun j hj => ?_, fun j hj => ?_, by simp [go_sem], by simp [go_sem], fun o ho => ?_⟩, World.ownsRow_nil _ _ _ _, World.ownsRow_nil _ _ _ _, fun k e => by simp [Value.ownBlock] at e, fun k e => by simp [Value.ownBlock] at e⟩
  · rcases (show j = 0 ∨ j = 1 ∨ j = 2 ∨ j = 3 by omega) with rfl | rfl | rfl | rfl <;> simp [go_sem, Bk.empty]
  · rcases (show j = 0 ∨ j = 1 ∨ j = 2 ∨ j = 3 by omega) with rfl | rfl | rfl | rfl <;> simp [go_sem, Bk.empty]
  · rcases (show j = 0 ∨ j = 1 ∨ j = 2 ∨ j = 3 by omega) with rfl | rfl | rfl | rfl <;> simp [go_sem, Bk.empty]
  · rcases (show o = 0 ∨ o = 1 ∨ o = 2 ∨ o = 3 ∨ o = 4 ∨ o = 5 ∨ o = 6 ∨ o = 7 ∨ o = 8 ∨ o = 9 ∨ o = 10 ∨ o = 11 ∨ o = 12 ∨ o = 13 by omega) with rfl | rfl | rfl | rfl | rfl | rfl | rfl | rfl | rfl | rfl | rfl | rfl | rfl | rfl <;> simp [go_sem]

theorem newL_lg (w : World) : Calls Tryz.prog 26 #[] w fun e w' => e = .returned (.pointer (some ⟨w.heap.size, 0, none⟩)) ∧ w' = w.alloc (.cells logZ 83) := by
  go_enter Tryz.func26, Tryz.ntmps26
  go_wp2
  go_ret
  exact ⟨rfl, rfl⟩

def rm0 : Rm := ⟨Bk.empty, fun _ => none, fun _ => none⟩
theorem rmi0 (bare : Bool) : RmI bare rm0 := ⟨good_empty, fun _ _ => rfl, fun _ _ _ => rfl, fun _ _ _ _ e => (by cases e)⟩

theorem room_start (w : World) (bare : Bool) : Room w.heap.size (w.heap.size + 1) w.heap.size (fun _ => 0) (fun _ => 0) bare (fun _ => False) rm0 ((w.alloc (.cells logZ 83)).alloc (.cells (roomZ w.heap.size bare) 33)) := by
  have e1 : (w.alloc (.cells logZ 83)).heap.size = w.heap.size + 1 := by simp
  have h1 := (logAt_start w (Nat.le_refl _)).below (below1 _ (.cells (roomZ w.heap.size bare) 33))
  refine ⟨fun k => if k = w.heap.size then 1 else if k = w.heap.size + 1 then 10 else 0, ⟨⟨by simp, ?_, fun k hk => ?_, fun k hk => ?_, ?_, fun o ho => ?_⟩, ?_, fun k hk => ?_, ⟨_, _, h1.mono (fun k e => ?_) (fun k e => ?_)⟩, fun _ _ _ _ e => (by cases e), fun _ _ _ e => (by cases e)⟩, fun _ e => e.elim⟩
  · simp [go_sem]
  · rcases (show k = 0 ∨ k = 1 ∨ k = 2 ∨ k = 3 by omega) with rfl | rfl | rfl | rfl <;> simp [go_sem, rm0, ptrOf]
  · rcases (show k = 0 ∨ k = 1 ∨ k = 2 ∨ k = 3 by omega) with rfl | rfl | rfl | rfl <;> simp [go_sem, rm0, ptrOf]
  · simp [go_sem]
  · rcases (show o = 0 ∨ o = 1 ∨ o = 2 ∨ o = 3 ∨ o = 4 ∨ o = 5 ∨ o = 6 ∨ o = 7 ∨ o = 8 ∨ o = 9 by omega) with rfl | rfl | rfl | rfl | rfl | rfl | rfl | rfl | rfl | rfl <;> simp [go_sem]
  · simp
  · have hk' : (if k = w.heap.size then 1 else if k = w.heap.size + 1 then 10 else 0) ≠ 0 := hk
    have : k = w.heap.size ∨ k = w.heap.size + 1 := by
      by_cases e : k = w.heap.size
      · exact .inl e
      · by_cases e' : k = w.heap.size + 1
        · exact .inr e'
        · rw [if_neg e, if_neg e'] at hk'; exact absurd rfl hk'
    simp
    omega
  · show (if k = w.heap.size then 1 else _) = 1
    rw [if_pos e]
  · have hk' : (if k = w.heap.size then 1 else if k = w.heap.size + 1 then 10 else 0) = 1 := e
    have : k = w.heap.size := by
      by_cases e : k = w.heap.size
      · exact e
      · rw [if_neg e] at hk'
        split at hk' <;> omega
    simp
    omega

/-- A room behind some steps, from a world on. -/
structure RR (w : World) (R G : Nat) (bare : Bool) (m : Rm) (wk : World) : Prop where
  room : ∃ pw sc, Room w.heap.size R G pw sc bare (fun _ => False) m wk
  inv : RmI bare m
  below : Below w.heap.size w wk

theorem RR.after {w wk w' : World} {R G : Nat} {bare : Bool} {m : Rm} (h : RR w R G bare m wk) (hb : Below wk.heap.size wk w') : RR w R G bare m w' := by
  obtain ⟨pw, sc, hr⟩ := h.room
  exact ⟨⟨pw, sc, hr.after hb⟩, h.inv, below_after h.below hb⟩

theorem rr_start {w w1 : World} (h : Below w.heap.size w w1) (bare : Bool) : RR w (w1.heap.size + 1) w1.heap.size bare rm0 ((w1.alloc (.cells logZ 83)).alloc (.cells (roomZ w1.heap.size bare) 33)) := by
  obtain ⟨ow, h1, h2⟩ := room_start w1 bare
  have hs := h.size
  have hb : Below w1.heap.size w1 ((w1.alloc (.cells logZ 83)).alloc (.cells (roomZ w1.heap.size bare) 33)) := below_after (below1 _ _) (below1 _ _)
  refine ⟨⟨_, _, ow, ⟨h1.cells, h1.own, fun k e => ⟨by have := (h1.lo k e).1; omega, (h1.lo k e).2⟩, ?_, fun _ _ _ _ e => (by cases e), fun _ _ _ e => (by cases e)⟩, h2⟩, rmi0 bare, below_after h hb⟩
  have h3 := (logAt_start w1 hs).below (below1 _ (.cells (roomZ w1.heap.size bare) 33))
  obtain ⟨dv, lv, hl⟩ := h1.log
  refine ⟨_, _, h3.mono (fun k e => ?_) (fun k e => ⟨by have := (hl.lo k e).1; omega, (hl.lo k e).2⟩)⟩
  rw [e]
  exact hl.hG

theorem RR.step {w wk : World} {R G : Nat} {bare : Bool} {m : Rm} (h : RR w R G bare m wk) (x : RStep) :
    Calls Tryz.prog 7 #[.pointer (some ⟨R, 0, none⟩), rsV x] wk fun e w' => e = .returned (.tuple #[.bool true, .bool (overRm m x)]) ∧ (overRm m x = false → RR w R G bare (stepRm bare m x) w') ∧ Below w.heap.size w w' := by
  obtain ⟨pw, sc, hr⟩ := h.room
  refine (step_room hr h.inv x).mono fun e w' ⟨he, ht, hbl⟩ => ⟨he, fun ho => ?_, h.below.trans hbl⟩
  obtain ⟨h1, h2⟩ := ht ho
  exact ⟨h1.room, h2, h.below.trans h1.below⟩

set_option maxRecDepth 20000 in
set_option maxHeartbeats 400000 in
theorem newRoom_any (w : World) : Calls Tryz.prog 6 #[] w fun e w' => e = .returned (.pointer (some ⟨w.heap.size + 1, 0, none⟩)) ∧ w' = (w.alloc (.cells logZ 83)).alloc (.cells (roomZ w.heap.size false) 33) := by
  go_enter Tryz.func6, Tryz.ntmps6
  go_wp2_with fail
  refine (newL_lg w).mono ?_
  rintro e w1 ⟨rfl, rfl⟩
  go_wp2
  go_ret
  exact ⟨by simp, rfl⟩

end Go.Proofs.YtdlmlhmdjfbdiacGreat

/-
  For the other laws of a room: operations that are passed over in a large frame; a step in the middle of a round; the open deeds and the text behind a step that hears.
-/
namespace Go.Proofs.YtdlmlhmdjfbdiacGreat
open Go Go.RowKit

section
variable {P : Program} {ops : Array Oper} {U0 : Cls} {U : World → Prop} {sp lt : Nat → Bool}

/-- One that is passed over. -/
theorem wpLate_bigSkip {Q : Act → World → Prop} {a : Act} {o : Oper} {rest : List Oper} {k : Nat} {U D : Cls} (d : Option Tmp) (w0 : World) (hs : (sp k || lt k) = false) (hd : o.dst = d) (hw : Region.wanted o (yielded ops a.tmps) = false)
    (h : Oper.quiet P ⟨d, .move (.const undef), 0, "", #[], none⟩ a (fun _ => True) (fun a' => wpLate P ops U0 sp lt Q rest (k + 1) a' U D)) : wpLate P ops U0 sp lt Q (o :: rest) k a U D :=
  wpLate_still hs fun K hK => by
    rw [if_neg (by simp [hw])]
    refine hK _ ?_
    rw [hd]
    exact put_of_quiet w0 h

theorem wpGrow_bigSkip {Q : Act → World → Prop} {a : Act} {o : Oper} {rest : List Oper} {k : Nat} {D : World → Prop} (d : Option Tmp) (w0 : World) (hd : o.dst = d) (hw : Region.wanted o (yielded ops a.tmps) = false)
    (h : Oper.quiet P ⟨d, .move (.const undef), 0, "", #[], none⟩ a (fun _ => True) (fun a' => wpGrow P ops U sp Q rest (k + 1) a' D)) : wpGrow P ops U sp Q (o :: rest) k a D := by
  show if _ then _ else _
  rw [if_neg (by simp [hw]), hd]
  exact put_of_quiet w0 h

end

section
variable {base R G : Nat} {pw sc : Nat → Nat} {bare : Bool} {K : Nat → Prop} {m : Rm} {w wk w' : World} {x : RStep} {bx : List (Nat × Dd)}

/-- A step, with what lies in boxes kept. -/
theorem RIn.stepped (h : RIn w base R G pw sc bare K m x bx wk) (hi : RmI bare m) (y : RStep) :
    Calls Tryz.prog 7 #[.pointer (some ⟨R, 0, none⟩), rsV y] wk fun e w' => e = .returned (.tuple #[.bool true, .bool (overRm m y)]) ∧ (overRm m y = false → ∃ pw' sc', RIn w base R G pw' sc' bare K (stepRm bare m y) x bx w' ∧ RmI bare (stepRm bare m y)) ∧ Below base w w' := by
  refine (step_room h.room hi y).mono fun e w' ⟨he, ht, hb⟩ => ⟨he, fun ho => ?_, h.below.trans hb⟩
  obtain ⟨h1, h2⟩ := ht ho
  obtain ⟨pw', sc', hr⟩ := h1.room
  exact ⟨pw', sc', h.turned ⟨hr, h1.stay, h1.below⟩, h2⟩

/-- The end of a round. -/
theorem rr_of {w0 : World} (h : RR w0 R G bare m w) {m' : Rm} (hr : RIn w w0.heap.size R G pw sc bare (fun _ => False) m' x bx wk) (hi : RmI bare m') : RR w0 R G bare m' wk :=
  ⟨⟨pw, sc, hr.room.less (fun _ e => e.elim)⟩, hi, h.below.trans hr.below⟩

end

/-! What a step that hears leaves. -/

theorem step_hear {bare : Bool} {m : Rm} (hi : RmI bare m) {x : RStep} (hd : x.do_ = 4) {k : Nat} (hk : k < 4) (hxw : x.w = k) {r : Wr} {ts : List (List Ch)} (he : m.p k = some (r, ts)) (hs : r.seen < m.b.ds.length) :
    ∃ r' ts', (stepRm bare m x).p k = some (r', ts') ∧
      (m.b.ds[r.seen].by_ = r.me → r.opens = m.b.ds[r.seen] :: r'.opens ∧ vw r'.list r'.seen r'.me = vw r.list r.seen r.me) ∧ (m.b.ds[r.seen].by_ ≠ r.me → r'.opens = r.opens) := by
  obtain ⟨m1, m2, c, m3, m4⟩ := hi.some k hk r ts he
  have hw : wrB x.w = true := by rw [hxw]; simp [wrB]; omega
  have hkt : x.w.toNat = k := by omega
  have hst : stepRm bare m x = hearM m k r ts := by
    rw [stepRm, if_pos hw, hkt, he]
    simp only
    rw [if_neg (by omega), if_neg (by omega), if_neg (by omega), if_pos hd]
  rw [hst, hearM, dif_pos hs]
  refine ⟨_, _, setP_same _ _ _, fun hb => ?_, fun hb => ?_⟩
  · obtain ⟨es, hes, hsn⟩ := m3.own_first hs hb
    obtain ⟨_, _, hv⟩ := m3.hears_own hi.good hs hes hsn hb
    refine ⟨?_, ?_⟩
    · simp only [hb, decide_true, if_true, hes, List.tail_cons]
    · simp only [hb, decide_true, if_true, hes, List.tail_cons]
      exact hv
  · simp only [hb, decide_false, Bool.false_eq_true, if_false]

/-- The tail of a list of deeds. -/
theorem dlst_tail {w : World} {b off n cap : Nat} {d : Dd} {es : List Dd} (h : DLst w (.slice (some ⟨b, off, none⟩) (n + 1) cap) (d :: es)) : DLst w (.slice (some ⟨b, off + 7, none⟩) n (cap - 1)) es := by
  obtain ⟨a', len, cap', he, h1, h2, h3⟩ := h
  simp only [Value.slice.injEq] at he
  obtain ⟨rfl, rfl, rfl⟩ := he
  have hn : es.length = n := by simpa using h1
  refine ⟨_, n, cap - 1, rfl, hn, by omega, ?_⟩
  rcases h3 with h3 | ⟨b', off', hb, hr⟩
  · omega
  · simp only [Option.some.injEq, Addr.mk.injEq, and_true] at hb
    obtain ⟨rfl, rfl⟩ := hb
    refine .inr ⟨b, off + 7, rfl, ⟨hr.lt, fun i hi => ?_⟩⟩
    have := hr.at_ (i + 1) (by simpa using hi)
    rw [show off + (i + 1) * 7 = off + 7 + i * 7 by omega] at this
    exact this

end Go.Proofs.YtdlmlhmdjfbdiacGreat

/-
  For the law WriterKnows: what a writer knows is the log, as far as it has seen it. No walk.
-/
namespace Go.Proofs.YtdlmlhmdjfbdiacGreat
open Go Go.RowKit

theorem allL_at : ∀ (ds : List Dd) (l : List Ch) (i : Nat), (allL l i ds).2.1 = 0 → (allL l i ds).2.2 = 0
  | [], _, _, _ => rfl
  | d :: ds, l, i, h => by
    rw [allL] at h ⊢
    by_cases c : doC l d ((i : Int) + 1) = 0
    · rw [if_neg (fun x => x c)] at h ⊢
      exact allL_at ds _ _ h
    · rw [if_pos c] at h
      exact absurd h c

/-- The deeds that it has seen can be done. -/
theorem all_upto {b : Bk} (h : Good b) {i : Nat} (hi : i ≤ b.ds.length) : allL [] 0 (b.ds.take i) = (charsTo b.ds i, 0, 0) := by
  have hz : (allL [] 0 (b.ds.take i)).2.1 = 0 := by
    by_cases hl : i < b.ds.length
    · have e : b.ds = b.ds.take i ++ b.ds[i] :: b.ds.drop (i + 1) := by
        rw [← List.drop_eq_getElem_cons hl, List.take_append_drop]
      have h0 := h.all0
      rw [e] at h0
      exact (allL_cut _ [] 0 h0).1
    · rw [List.take_of_length_le (by omega)]; exact h.all0
  have ha := allL_at _ _ _ hz
  exact Prod.ext rfl (Prod.ext hz ha)

theorem text_of {c : Int} (hc : c < openN) (l : List Ch) : textL (ofL c l) = textL l := by
  unfold textL ofL
  rw [List.filter_filter]
  congr 1
  refine List.filter_congr (fun x _ => ?_)
  by_cases hd : doneB c x = true
  · have h1 := of_decide_eq_true hd
    have : textB x = false := by
      unfold textB goneB
      rw [decide_eq_true h1.1, decide_eq_true (show x.out ≠ openN by intro e; rw [e] at h1; omega)]
      simp
    rw [this]; simp
  · have hd' : doneB c x = false := by simpa using hd
    rw [hd']; simp

theorem of_none {l : List Ch} (h : ∀ x ∈ l, 0 ≤ x.out) : ofL 0 l = l := by
  unfold ofL
  refine List.filter_eq_self.2 (fun x hx => ?_)
  have := h x hx
  have : doneB 0 x = false := decide_eq_false (by omega)
  rw [this]; rfl

/-- What is told of a writer that has come. -/
structure KN (b : Bk) (bare : Bool) (r : Wr) (L : List Ch) : Prop where
  all : allL [] 0 (b.ds.take r.seen) = (L, 0, 0)
  small : L.length ≤ 200
  fits : FitsL L
  seen : r.seen ≤ b.ds.length
  text : textL L = textL r.base
  bare : bare = true → L = r.base
  of_ : ofL (leastL b) L = ofL (leastL b) r.base
  fit : fitTop L r.opens
  view : vw (onTop L r.opens) r.seen r.me = vw r.list r.seen r.me

theorem kn_of {bare : Bool} {m : Rm} (hi : RmI bare m) {k : Nat} (hk : k < 4) {r : Wr} {ts : List (List Ch)} (he : m.p k = some (r, ts)) : KN m.b bare r (charsTo m.b.ds r.seen) := by
  obtain ⟨_, _, c, hw, hc⟩ := hi.some k hk r ts he
  have hg := hi.good
  have hm := chars_made hg r.seen hw.seen
  have hsm := hw.small hg
  have hcs := hw.cs
  have hco : c < openN := by show c < 1073741824; omega
  refine ⟨all_upto hg hw.seen, hm.2, fun x hx => ?_, hw.seen, ?_, fun e => ?_, ?_, hw.fit, ?_⟩
  · have := hm.1.gone x hx
    constructor <;> omega
  · rw [hw.base, text_of hco]
  · rw [hw.base, hc e]
    exact (of_none (fun x hx => (hm.1.out x hx).1)).symm
  · rw [hw.base, of_more hw.cl]
  · rw [(hw.list_eq hg).2, vw_of _ hw.cs]

/-- Its open deeds, one by one. -/
structure KO (r : Wr) (L0 L : List Ch) (n : Nat) : Prop where
  eq : L = onTop L0 (r.opens.take n)
  small : L.length ≤ 200
  fits : FitsL L

theorem ko_start {b : Bk} {bare : Bool} {r : Wr} {L0 : List Ch} (h : KN b bare r L0) : KO r L0 L0 0 := ⟨by rw [List.take_zero]; rfl, h.small, h.fits⟩

theorem fitTop_at : ∀ (es : List Dd) (l : List Ch) (n : Nat) (hn : n < es.length), fitTop l es → Fit (onTop l (es.take n)) es[n]
  | e :: es, l, 0, _, h => h.1
  | e :: es, l, n + 1, hn, h => fitTop_at es (doL l e openN) n (by simpa using hn) h.2

theorem ko_code {b : Bk} {bare : Bool} {r : Wr} {L0 L : List Ch} (h : KN b bare r L0) {n : Nat} (hn : n < r.opens.length) (ho : KO r L0 L n) : doC L r.opens[n] openN = 0 ∨ doC L r.opens[n] openN = 9 := by
  have hf := fitTop_at r.opens L0 n hn h.fit
  rw [← ho.eq] at hf
  have := fit_code (n := openN) hf (by decide)
  split at this
  · exact .inr this
  · exact .inl this

theorem ko_step {b : Bk} {bare : Bool} {r : Wr} {L0 L : List Ch} (_h : KN b bare r L0) {n : Nat} (hn : n < r.opens.length) (ho : KO r L0 L n) (hc : doC L r.opens[n] openN = 0) : KO r L0 (doR L r.opens[n] openN) (n + 1) := by
  have hs := small_do ho.fits hc
  rw [doR, if_pos hc]
  refine ⟨?_, hs.len, hs.fits⟩
  rw [take_snocD r.opens n hn, onTop_snoc, ← ho.eq]

theorem ko_end {b : Bk} {bare : Bool} {r : Wr} {L0 L : List Ch} (h : KN b bare r L0) {n : Nat} (hn : r.opens.length ≤ n) (ho : KO r L0 L n) : vw L r.seen r.me = vw r.list r.seen r.me := by
  rw [ho.eq, List.take_of_length_le hn]
  exact h.view

end Go.Proofs.YtdlmlhmdjfbdiacGreat
