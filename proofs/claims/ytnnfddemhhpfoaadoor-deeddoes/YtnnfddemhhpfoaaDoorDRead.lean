/-
  The contract of read (package deed): the numbers of words, or none.
-/
import Derived.Test.YtnnfddemhhpfoaaDoorDLine
import Derived.Laws.ResultCell
namespace Go.Proofs.YtnnfddemhhpfoaaDoor
open Go.RowKit

/-- The number that a word is, as short as can be. -/
def num1 (s : ByteArray) : Option Int := match numAll s with | some v => if strI v = s then some v else none | none => none

def readL : List ByteArray → Option (List Int)
  | [] => some []
  | s :: r => match num1 s with | none => none | some z => (readL r).map (z :: ·)

theorem readL_snoc : ∀ (l : List ByteArray) (s : ByteArray) (zs : List Int) (z : Int), readL l = some zs → num1 s = some z → readL (l ++ [s]) = some (zs ++ [z])
  | [], s, zs, z, h, hz => by cases h; simp [readL, hz]
  | x :: r, s, zs, z, h, hz => by
    rw [readL] at h
    cases hx : num1 x with
    | none => rw [hx] at h; cases h
    | some u =>
      rw [hx] at h
      cases hr : readL r with
      | none => rw [hr] at h; cases h
      | some us =>
        rw [hr] at h
        obtain rfl := Option.some.inj h
        have := readL_snoc r s us z hr hz
        simp [readL, hx, this]

theorem readL_no : ∀ (l : List ByteArray) (k : Nat) (h : k < l.length), num1 l[k] = none → readL l = none
  | x :: r, 0, _, h => by simp [readL, show num1 x = none from h]
  | x :: r, k + 1, hk, h => by
    have := readL_no r k (by simpa using hk) h
    rw [readL]
    cases num1 x with
    | none => rfl
    | some u => simp [this]

theorem readL_len : ∀ (l : List ByteArray) (zs : List Int), readL l = some zs → zs.length = l.length
  | [], zs, h => by cases h; rfl
  | x :: r, zs, h => by
    rw [readL] at h
    cases hx : num1 x with
    | none => rw [hx] at h; cases h
    | some u =>
      rw [hx] at h
      cases hr : readL r with
      | none => rw [hr] at h; cases h
      | some us =>
        rw [hr] at h
        obtain rfl := Option.some.inj h
        simp [readL_len r us hr]

theorem num1_in {s : ByteArray} {z : Int} (h : num1 s = some z) : inI z := by
  unfold num1 at h
  cases hn : numAll s with
  | none => rw [hn] at h; cases h
  | some v =>
    rw [hn] at h
    have h' : (if strI v = s then some v else none) = some z := h
    by_cases hs : strI v = s
    · rw [if_pos hs] at h'; obtain rfl := Option.some.inj h'; exact numAll_in hn
    · rw [if_neg hs] at h'; cases h'

theorem readL_in : ∀ (l : List ByteArray) (zs : List Int), readL l = some zs → ∀ z ∈ zs, inI z
  | [], zs, h => by cases h; simp
  | x :: r, zs, h => by
    rw [readL] at h
    cases hx : num1 x with
    | none => rw [hx] at h; cases h
    | some u =>
      rw [hx] at h
      cases hr : readL r with
      | none => rw [hr] at h; cases h
      | some us =>
        rw [hr] at h
        obtain rfl := Option.some.inj h
        intro z hz
        simp at hz
        rcases hz with rfl | hz
        · exact num1_in hx
        · exact readL_in r us hr z hz

/-- Five ints in a block, those behind the list's end 0. -/
structure Five (w : World) (B : Nat) (zs : List Int) : Prop where
  lt : B < w.heap.size
  c : ∀ i, i < 5 → w.cell? ⟨B, i, none⟩ = some (.int .i64 (zs.getD i 0))
  f : ∀ i, w.frozen? ⟨B, i, none⟩ = false

theorem frozen_on {w w' : World} {a o : Nat} (h : a < w.heap.size) (hb : Below w.heap.size w w') : w'.frozen? ⟨a, o, none⟩ = w.frozen? ⟨a, o, none⟩ := hb.frozen (p := ⟨a, o, none⟩) h

/-- The same, place by place. -/
structure FiveC (w : World) (B : Nat) (z0 z1 z2 z3 z4 : Int) : Prop where
  c0 : w.cell? ⟨B, 0, none⟩ = some (.int .i64 z0)
  c1 : w.cell? ⟨B, 1, none⟩ = some (.int .i64 z1)
  c2 : w.cell? ⟨B, 2, none⟩ = some (.int .i64 z2)
  c3 : w.cell? ⟨B, 3, none⟩ = some (.int .i64 z3)
  c4 : w.cell? ⟨B, 4, none⟩ = some (.int .i64 z4)
  f0 : w.frozen? ⟨B, 0, none⟩ = false
  f1 : w.frozen? ⟨B, 1, none⟩ = false
  f2 : w.frozen? ⟨B, 2, none⟩ = false
  f3 : w.frozen? ⟨B, 3, none⟩ = false
  f4 : w.frozen? ⟨B, 4, none⟩ = false

theorem Five.each {w : World} {B : Nat} {zs : List Int} (h : Five w B zs) : FiveC w B (zs.getD 0 0) (zs.getD 1 0) (zs.getD 2 0) (zs.getD 3 0) (zs.getD 4 0) :=
  ⟨h.c 0 (by decide), h.c 1 (by decide), h.c 2 (by decide), h.c 3 (by decide), h.c 4 (by decide), h.f 0, h.f 1, h.f 2, h.f 3, h.f 4⟩

theorem Five.below {w w' : World} {B : Nat} {zs : List Int} (h : Five w B zs) (hb : Below w.heap.size w w') : Five w' B zs :=
  ⟨by have := hb.size; have := h.lt; omega, fun i hi => cell_on (h.c i hi) hb, fun i => (frozen_on h.lt hb).trans (h.f i)⟩

theorem Five.set {w : World} {B k : Nat} {zs : List Int} (h : Five w B zs) (hk : zs.length = k) (h5 : k < 5) (z : Int) : Five (w.setCell ⟨B, k, none⟩ (.int .i64 z)) B (zs ++ [z]) := by
  refine ⟨by simpa using h.lt, fun i hi => ?_, fun i => by rw [World.frozen?_setCell]; exact h.f i⟩
  by_cases hik : i = k
  · subst hik
    rw [World.cell?_setCell_same _ _ _ (h.c i hi)]
    simp [List.getD, hk]
  · rw [World.cell?_setCell_other _ _ _ _ (by intro e; cases e; exact hik rfl), h.c i hi]
    rcases Nat.lt_or_ge i zs.length with hl | hl
    · simp [List.getD, List.getElem?_append_left hl]
    · simp only [List.getD]
      rw [List.getElem?_eq_none hl, List.getElem?_eq_none (by simp; omega)]

theorem Five.other {w : World} {B B' k : Nat} {zs : List Int} (h : Five w B zs) (hB : B' ≠ B) (v : Value) : Five (w.setCell ⟨B', k, none⟩ v) B zs := by
  refine ⟨by simpa using h.lt, fun i hi => ?_, fun i => by rw [World.frozen?_setCell]; exact h.f i⟩
  rw [World.cell?_setCell_other _ _ _ _ (by intro e; cases e; exact hB rfl), h.c i hi]

/-- A row of strings in memory. -/
structure Strs (w : World) (b off : Nat) (ws : List ByteArray) : Prop where
  lt : b < w.heap.size
  cell : ∀ (i : Nat) (h : i < ws.length), w.cell? ⟨b, off + i, none⟩ = some (.string (ws[i]'h))

theorem Strs.below {w w' : World} {b off : Nat} {zs : List ByteArray} (h : Strs w b off zs) (hb : Below w.heap.size w w') : Strs w' b off zs :=
  ⟨by have := hb.size; have := h.lt; omega, fun i hi => cell_on (h.cell i hi) hb⟩

def agg5 (zs : List Int) : Value := .agg #[.int .i64 (zs.getD 0 0), .int .i64 (zs.getD 1 0), .int .i64 (zs.getD 2 0), .int .i64 (zs.getD 3 0), .int .i64 (zs.getD 4 0)]

theorem take_snocB (l : List ByteArray) (k : Nat) (h : k < l.length) : l.take (k + 1) = l.take k ++ [l[k]] := by
  rw [List.take_add_one, List.getElem?_eq_getElem h]; rfl

abbrev zero5 : Obj := .cells #[.int .i64 0, .int .i64 0, .int .i64 0, .int .i64 0, .int .i64 0] 34

theorem five_new (w : World) : Five (w.alloc zero5) w.heap.size [] := by
  refine ⟨by simp, fun i hi => ?_, fun i => ?_⟩
  · rcases (show i = 0 ∨ i = 1 ∨ i = 2 ∨ i = 3 ∨ i = 4 by omega) with rfl | rfl | rfl | rfl | rfl <;> simp [go_sem]
  · simp [go_sem]

theorem five_two (w : World) : Five ((w.alloc zero5).alloc zero5) w.heap.size [] ∧ Five ((w.alloc zero5).alloc zero5) (w.heap.size + 1) [] := by
  refine ⟨(five_new w).below ((Below.refl _ _).alloc (Nat.le_refl _) _), ?_⟩
  have := five_new (w.alloc zero5)
  simpa using this

theorem load_five {w : World} {B : Nat} {z0 z1 z2 z3 z4 : Int} (h : FiveC w B z0 z1 z2 z3 z4) :
    (loadVar 34 ⟨B, 0, none⟩).run Tryd.prog w = .ok (.agg #[.int .i64 z0, .int .i64 z1, .int .i64 z2, .int .i64 z3, .int .i64 z4]) w := by
  obtain ⟨c0, c1, c2, c3, c4, _, _, _, _, _⟩ := h
  simp [go_sem, loadVar, loadCells, loadCellsFrom, Sem.run_bind, Tryd.isAgg34, Tryd.sizeOf34, c0, c1, c2, c3, c4]

abbrev put5 (w : World) (B : Nat) (z0 z1 z2 z3 z4 : Int) : World :=
  (((((w.setCell ⟨B, 0, none⟩ (.int .i64 z0)).setCell ⟨B, 1, none⟩ (.int .i64 z1)).setCell ⟨B, 2, none⟩ (.int .i64 z2)).setCell ⟨B, 3, none⟩ (.int .i64 z3)).setCell ⟨B, 4, none⟩ (.int .i64 z4))

theorem five_put {w : World} {B : Nat} {y0 y1 y2 y3 y4 : Int} (h : FiveC w B y0 y1 y2 y3 y4) (z0 z1 z2 z3 z4 : Int) : FiveC (put5 w B z0 z1 z2 z3 z4) B z0 z1 z2 z3 z4 := by
  obtain ⟨c0, c1, c2, c3, c4, f0, f1, f2, f3, f4⟩ := h
  refine ⟨?_, ?_, ?_, ?_, ?_, ?_, ?_, ?_, ?_, ?_⟩
  · simp [go_sem, c0]
  · simp [go_sem, c1]
  · simp [go_sem, c2]
  · simp [go_sem, c3]
  · simp [go_sem, c4]
  · simpa [go_sem] using f0
  · simpa [go_sem] using f1
  · simpa [go_sem] using f2
  · simpa [go_sem] using f3
  · simpa [go_sem] using f4

theorem below_put5 {w w' : World} {B N : Nat} (h : Below N w w') (hN : N ≤ B) (z0 z1 z2 z3 z4 : Int) : Below N w (put5 w' B z0 z1 z2 z3 z4) :=
  ((((h.setCell (p := ⟨B, 0, none⟩) hN _).setCell (p := ⟨B, 1, none⟩) hN _).setCell (p := ⟨B, 2, none⟩) hN _).setCell (p := ⟨B, 3, none⟩) hN _).setCell (p := ⟨B, 4, none⟩) hN _

/-- The end of read: what its result's block holds. -/
theorem read_end {R : Ending → World → Prop} {a : Act} {w : World} {B : Nat} {z0 z1 z2 z3 z4 : Int} {ok : Bool} (h : FiveC w B z0 z1 z2 z3 z4) (h2 : a.tmps.getD 2 undef = .pointer (some ⟨B, 0, none⟩)) (h3 : a.tmps.getD 3 undef = .bool ok) (hd : a.defers = [])
    (hR : R (.returned (.tuple #[.agg #[.int .i64 z0, .int .i64 z1, .int .i64 z2, .int .i64 z3, .int .i64 z4], .bool ok])) w) : bodyPost Tryd.prog Tryd.f25 R Exit.ret a w := by
  refine bodyPost_ret ?_ hd hR
  rw [results_cell_tmp rfl, h2, h3]
  simp [asAddr, load_five h]

theorem readL_yes {ws : List ByteArray} {n : Nat} {zs : List Int} (ht : ws.take n = ws) (h : readL (ws.take n) = some zs) : readL ws = some zs := by rw [← ht]; exact h

set_option maxHeartbeats 400000 in
theorem read_any (b off n cap : Nat) (ws : List ByteArray) (w : World) (hw : Ready w) (hn : ws.length = n) (hm : n ≤ 5) (hz : ∀ s ∈ ws, s.size ≤ 281474976710656) (hr : Strs w b off ws) :
    Calls Tryd.prog 25 #[.slice (some ⟨b, off, none⟩) n cap] w fun e w' =>
      (e = .returned (.tuple #[agg5 ((readL ws).getD []), .bool (readL ws).isSome])) ∧ Below w.heap.size w w' := by
  have HR : Hid (Strs w b off ws) := hr
  have HL : Hid (ws.length = n) := hn
  have HZ : Hid _ := hz
  have HW : Hid _ := hw
  have hb := hr.lt
  have HT : Hid (ws.take n = ws) := by show ws.take n = ws; rw [← hn, List.take_length]
  have H2 : Hid _ := five_two w
  clear hr hn hz hw
  go_enter Tryd.func25, Tryd.ntmps25
  go_wp2
  go_loopw [11] (fun i wr => ∃ (k : Nat) (zs : List Int), k ≤ n ∧ i = .int .i64 k ∧ readL (ws.take k) = some zs ∧ Below w.heap.size w wr ∧ Five wr w.heap.size [] ∧ Five wr (w.heap.size + 1) zs) (fun i _ => n - (intOf i).toNat)
  case atStart => exact ⟨0, [], Nat.zero_le _, rfl, rfl, ((Below.refl _ _).alloc (Nat.le_refl _) _).alloc (by simp) _, H2.out.1, H2.out.2⟩
  case round =>
    obtain ⟨k, zs, hk, rfl, hzs, hbel, hf2, hf4⟩ := hrel
    by_cases hlt : k < n
    · have hkl : k < ws.length := by rw [HL.out]; exact hlt
      have HS : Hid (ws[k].size ≤ 281474976710656) := HZ.out _ (List.getElem_mem _)
      have h0 := (HR.out.below hbel).cell k hkl
      have HN : Hid (num1 ws[k] = none → readL ws = none) := readL_no ws k hkl
      have HY : Hid (∀ z, num1 ws[k] = some z → readL (ws.take (k + 1)) = some (zs ++ [z])) := by
        intro z hz
        rw [take_snocB ws k hkl]
        exact readL_snoc _ _ _ _ hzs hz
      have hlz : zs.length = k := by
        rw [readL_len _ _ hzs, List.length_take]; omega
      have HB : Hid _ := hbel
      have H2 : Hid _ := hf2
      have H4 : Hid _ := hf4
      clear hbel hf2 hf4 hzs
      generalize ws[k] = s at h0 HN HY HS
      cases hnum : numAll s with
      | none =>
        have HF : Hid (readL ws = none) := HN.out (by simp [num1, hnum])
        go_wp2_with fail
        refine (atoi_no s HS.out hnum _ (HW.out.below HB.out)).mono ?_
        rintro e w1 ⟨v, t, q, rfl, _, hb1⟩
        have hf := H2.out.below hb1
        have hB : Below w.heap.size w w1 := below_after HB.out hb1
        clear h0 hb1
        obtain ⟨c0, c1, c2, c3, c4, f0, f1, f2, f3, f4⟩ := hf.each
        go_wp2
        refine read_end (ok := false) (five_put hf.each 0 0 0 0 0) rfl rfl rfl ?_
        rw [HF.out]
        exact ⟨rfl, below_put5 hB (Nat.le_refl _) 0 0 0 0 0⟩
      | some v =>
        have HV : Hid (inI v) := numAll_in hnum
        by_cases hs : strI v = s
        · have HF : Hid _ := HY.out v (by simp [num1, hnum, hs])
          go_wp2_with fail
          refine (atoi_ok s v HS.out hnum _).mono ?_
          rintro e w1 ⟨rfl, hb1⟩
          go_wp2_with fail
          refine (itoa_any v HV.out _ (HW.out.below (below_after HB.out hb1))).mono ?_
          rintro e w2 ⟨rfl, hb2⟩
          have hb3 := below_after hb1 hb2
          have hf2 := H2.out.below hb3
          have hf4 := H4.out.below hb3
          have hB : Below w.heap.size w w2 := below_after HB.out hb3
          clear h0 hb1 hb2 hb3
          have c4 := hf4.c k (by omega)
          have f4 := hf4.f k
          go_wp2
          go_roundw
          case rel => exact ⟨k + 1, zs ++ [v], by omega, by go_num, HF.out, hB.setCell (p := ⟨w.heap.size + 1, k, none⟩) (Nat.le_succ _) _, hf2.other (by omega) _, hf4.set hlz (by omega) v⟩
          case measure => simp [intOf]; omega
        · have HF : Hid (readL ws = none) := HN.out (by simp [num1, hnum, hs])
          have hne : ((strI v).toList == s.toList) = false := by rw [ba_beq]; simp [hs]
          clear hs
          go_wp2_with fail
          refine (atoi_ok s v HS.out hnum _).mono ?_
          rintro e w1 ⟨rfl, hb1⟩
          go_wp2_with fail
          refine (itoa_any v HV.out _ (HW.out.below (below_after HB.out hb1))).mono ?_
          rintro e w2 ⟨rfl, hb2⟩
          have hb3 := below_after hb1 hb2
          have hf := H2.out.below hb3
          have hB : Below w.heap.size w w2 := below_after HB.out hb3
          clear h0 hb1 hb2 hb3
          obtain ⟨c0, c1, c2, c3, c4, f0, f1, f2, f3, f4⟩ := hf.each
          go_wp2
          refine read_end (ok := false) (five_put hf.each 0 0 0 0 0) rfl rfl rfl ?_
          rw [HF.out]
          exact ⟨rfl, below_put5 hB (Nat.le_refl _) 0 0 0 0 0⟩
    · obtain rfl : k = n := by omega
      have HF : Hid _ := readL_yes HT.out hzs
      obtain ⟨c0, c1, c2, c3, c4, f0, f1, f2, f3, f4⟩ := hf2.each
      obtain ⟨d0, d1, d2, d3, d4, _, _, _, _, _⟩ := hf4.each
      go_wp2
      refine read_end (ok := true) (five_put hf2.each (zs.getD 0 0) (zs.getD 1 0) (zs.getD 2 0) (zs.getD 3 0) (zs.getD 4 0)) rfl rfl rfl ?_
      rw [HF.out]
      exact ⟨rfl, below_put5 hbel (Nat.le_refl _) _ _ _ _ _⟩

end Go.Proofs.YtnnfddemhhpfoaaDoor
