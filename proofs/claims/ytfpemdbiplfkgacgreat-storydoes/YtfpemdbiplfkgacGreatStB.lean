/-
  A story in memory; lists of numbers in memory; desks in a world that has more.
-/
import Derived.Test.YtfpemdbiplfkgacGreatSGrow
import Derived.Test.YtfpemdbiplfkgacGreatTClM
import Derived.Test.YtfpemdbiplfkgacGreatFPut
namespace Go.Proofs.YtfpemdbiplfkgacGreat
open Go Go.RowKit

/-! A story. -/

structure StC (w : World) (P : Nat) (n : Nat) (lv : Value) : Prop where
  lt : P < w.heap.size
  deeds : w.cell? ⟨P, 0, none⟩ = some (.int .i64 n)
  list : w.cell? ⟨P, 1, none⟩ = some lv

theorem StC.kept {w w' : World} {P n : Nat} {lv : Value} (h : StC w P n lv) (hs : w.heap.size ≤ w'.heap.size) (hb : w'.heap[P]? = w.heap[P]?) : StC w' P n lv := by
  have hc : ∀ o, w'.cell? ⟨P, o, none⟩ = w.cell? ⟨P, o, none⟩ := fun o => World.cell?_of_block (a := ⟨P, o, none⟩) hb
  exact ⟨Nat.lt_of_lt_of_le h.lt hs, by rw [hc]; exact h.deeds, by rw [hc]; exact h.list⟩

/-- A story in memory, from block 'lo' on: how many deeds, and the list behind all of them. -/
structure StAt (w : World) (lo P : Nat) (lv : Value) (b : Bk) : Prop where
  le : lo ≤ P
  cells : StC w P b.ds.length lv
  own : Own w lo lv b.chars

/-- What leaves all from 'lo' on leaves the story. -/
theorem StAt.kept {w w' : World} {lo P : Nat} {lv : Value} {b : Bk} {T : Nat → Prop} (h : StAt w lo P lv b) (hk : Kept T w w') (hT : ∀ k, T k → k < lo) : StAt w' lo P lv b :=
  ⟨h.le, h.cells.kept hk.size (hk.block P h.cells.lt (fun e => by have := hT P e; have := h.le; omega)), owns_block h.own (fun k e => by
    obtain ⟨h1, h2⟩ := World.ownsRow.lt h.own k e
    exact hk.block k h2 (fun e' => by have := hT k e'; omega))⟩

theorem StAt.below {w w' : World} {lo P : Nat} {lv : Value} {b : Bk} (h : StAt w lo P lv b) (hb : Below w.heap.size w w') : StAt w' lo P lv b :=
  h.kept (T := fun _ => False) (.of_below hb) (fun _ e => e.elim)

def StTo (w : World) (lo P : Nat) (b : Bk) : Prop := ∃ lv, StAt w lo P lv b
theorem StTo.below {w w' : World} {lo P : Nat} {b : Bk} (h : StTo w lo P b) (hb : Below w.heap.size w w') : StTo w' lo P b := by
  obtain ⟨lv, h⟩ := h
  exact ⟨lv, h.below hb⟩
theorem StTo.kept {w w' : World} {lo P : Nat} {b : Bk} {T : Nat → Prop} (h : StTo w lo P b) (hk : Kept T w w') (hT : ∀ k, T k → k < lo) : StTo w' lo P b := by
  obtain ⟨lv, h⟩ := h
  exact ⟨lv, h.kept hk hT⟩

/-! Lists of numbers. -/

def cellsI (zs : List Int) : List Value := zs.map (Value.int .i64)

/-- The value is a slice that holds just those numbers. -/
def ILst (w : World) (v : Value) (zs : List Int) : Prop :=
  ∃ (a : Option Addr) (len cap : Nat), v = .slice a len cap ∧ zs.length = len ∧ len ≤ cap ∧ (len = 0 ∨ ∃ b off, a = some ⟨b, off, none⟩ ∧ b < w.heap.size ∧ ∀ i (h : i < zs.length), w.cell? ⟨b, off + i, none⟩ = some (.int .i64 zs[i]))

theorem ILst.below {w w' : World} {v : Value} {zs : List Int} (h : ILst w v zs) (hb : Below w.heap.size w w') : ILst w' v zs := by
  obtain ⟨a, len, cap, rfl, h1, h2, h3⟩ := h
  refine ⟨a, len, cap, rfl, h1, h2, ?_⟩
  rcases h3 with h3 | ⟨b, off, rfl, hl, hr⟩
  · exact .inl h3
  · exact .inr ⟨b, off, rfl, by have := hb.size; omega, fun i hi => by rw [(bcell hb).1 _ _ hl]; exact hr i hi⟩

theorem ILst.len {w : World} {v : Value} {zs : List Int} (h : ILst w v zs) : ∃ a cap, v = .slice a zs.length cap := by
  obtain ⟨a, len, cap, rfl, rfl, h2, h3⟩ := h
  exact ⟨a, cap, rfl⟩

theorem ILst.row {w : World} {a : Option Addr} {cap n : Nat} {zs : List Int} (h : ILst w (.slice a n cap) zs) (hp : 0 < n) : ∃ b off, a = some ⟨b, off, none⟩ ∧ b < w.heap.size ∧ n ≤ cap ∧ ∀ i (h : i < zs.length), w.cell? ⟨b, off + i, none⟩ = some (.int .i64 zs[i]) := by
  obtain ⟨a', len, cap', he, h1, h2, h3⟩ := h
  simp only [Value.slice.injEq] at he
  obtain ⟨rfl, rfl, rfl⟩ := he
  rcases h3 with h3 | ⟨b, off, rfl, h3, h4⟩
  · omega
  · exact ⟨b, off, rfl, h3, h2, h4⟩

/-- Numbers that the call owns. -/
def OwnI (w : World) (base : Nat) (v : Value) (zs : List Int) : Prop := w.ownsRow base 3 1 v zs.length (cellsI zs)

theorem ownI_nil (w : World) (base : Nat) : OwnI w base (.slice none 0 0) [] := World.ownsRow_nil _ _ _ _

theorem OwnI.ilst {w : World} {base : Nat} {v : Value} {zs : List Int} (h : OwnI w base v zs) : ILst w v zs := by
  have h' := h
  obtain ⟨_, h2⟩ := h
  rcases h2 with ⟨rfl, hn⟩ | ⟨g, cap, cur, rfl, hb, hg, hnc, _⟩
  · exact ⟨none, 0, 0, rfl, hn, Nat.le_refl _, .inl rfl⟩
  · refine ⟨_, _, _, rfl, rfl, hnc, .inr ⟨g, 0, rfl, (Array.getElem?_eq_some_iff.1 hg).1, fun i hi => ?_⟩⟩
    rw [Nat.zero_add, World.ownsRow.cellAt h' i (by omega)]
    unfold cellsI
    rw [List.getElem?_map, List.getElem?_eq_getElem hi]
    rfl

theorem OwnI.below {w w' : World} {base : Nat} {v : Value} {zs : List Int} (h : OwnI w base v zs) (hb : Below w.heap.size w w') : OwnI w' base v zs := owns_below h hb

theorem infoInt : (Tryz.prog.info? 3).map (fun i => (i.zero, i.size, i.bytes)) = some (some (.int .i64 0), 1, 8) := by kernel_rfl

/-! Desks in a world that has more. -/

/-- What is new behind desks stays, whatever these do. -/
theorem DkAny.again {w wk w' : World} {D G : Nat} {pw : Nat → Nat} {t : Twn} (h : DkAny w.heap.size w (fun _ => False) D G pw t wk) (hb : Below wk.heap.size wk w') : ∃ T, (∀ k, T k → w.heap.size ≤ k ∧ k < wk.heap.size) ∧ DkAny w.heap.size w' T D G pw t w' := by
  obtain ⟨tk, h1, h2⟩ := h
  obtain ⟨T, ha, _⟩ := h1.call
  have h3 := (Th.dk w.heap.size D G pw t tk).kept (w := wk) (w' := w') (S := T) (T := fun _ => False) ha.lo ha (Kept.of_below hb) (fun _ _ e => e)
  have h4 : DkAt w.heap.size D G pw t tk w' T := h3
  exact ⟨T, ha.lo, tk, h4.start, h2⟩

theorem DkAny.left {base : Nat} {S : Nat → Prop} {w wk : World} {D G : Nat} {pw : Nat → Nat} {t : Twn} (h : DkAny base w S D G pw t wk) : Kept S w wk := by
  obtain ⟨tk, h1, h2⟩ := h
  exact Hq.kept h1

/-! What is played. -/

def playT : Twn → List Tst → Twn
  | t, [] => t
  | t, x :: xs => playT (tDo t x).2 xs

theorem playT_snoc (x : Tst) : ∀ (xs : List Tst) (t : Twn), playT t (xs ++ [x]) = (tDo (playT t xs) x).2
  | [], _ => rfl
  | y :: xs, t => playT_snoc x xs (tDo t y).2

theorem play_ds : ∀ (xs : List Tst) (t : Twn), ∃ es, (playT t xs).b.ds = t.b.ds ++ es
  | [], _ => ⟨[], (List.append_nil _).symm⟩
  | x :: xs, t => by
    obtain ⟨e1, h1⟩ := tDo_ds t x
    obtain ⟨e2, h2⟩ := play_ds xs (tDo t x).2
    exact ⟨e1 ++ e2, by rw [playT, h2, h1, List.append_assoc]⟩

set_option maxRecDepth 20000 in
set_option maxHeartbeats 1600000 in
theorem played_at (v : Value) (xs : List Tst) (w : World) (h : TLst w v xs) (hl : xs.length ≤ 200) : Calls Tryz.prog 32 #[v] w fun e w' => ∃ D G pw, e = .returned (.pointer (some ⟨D, 0, none⟩)) ∧ DkAny w.heap.size w (fun _ => False) D G pw (playT twn0 xs) w' := by
  have HD : Hid (TLst w v xs) := h
  obtain ⟨a, cap, rfl⟩ := h.len
  clear h
  have H0 : Hid (DkAny w.heap.size w (fun _ => False) (w.heap.size + 1) w.heap.size (fun _ => 0) twn0 ((w.alloc (.cells logZ 112)).alloc (.cells (deskZ w.heap.size) 76))) := any_start w
  go_enter Tryz.func32, Tryz.ntmps32
  go_wp2_with fail
  refine (new_dk w).mono ?_
  rintro e w1 ⟨rfl, rfl⟩
  generalize World.alloc _ _ = w1 at *
  generalize w.heap.size + 1 = D at *
  have H1 : Hid (∃ G pw, DkAny w.heap.size w (fun _ => False) D G pw (playT twn0 (xs.take 0)) w1) := ⟨_, _, H0.out⟩
  clear H0
  go_wp2_with fail
  go_loopw [4] (fun i wr => ∃ j : Nat, j ≤ xs.length ∧ i = .int .i64 j ∧ Hid (∃ G pw, DkAny w.heap.size w (fun _ => False) D G pw (playT twn0 (xs.take j)) wr)) (fun i _ => xs.length - (intOf i).toNat)
  case atStart => exact ⟨0, Nat.zero_le _, rfl, H1.out⟩
  case round =>
    obtain ⟨j, hj, rfl, HW⟩ := hrel
    clear H1
    by_cases hlt : j < xs.length
    · obtain ⟨G, pw, hd⟩ := HW.out
      have HN : Hid (playT twn0 (xs.take (j + 1)) = (tDo (playT twn0 (xs.take j)) xs[j]).2) := by
        show playT _ _ = _
        rw [List.take_succ_eq_append_getElem hlt, playT_snoc]
      obtain ⟨bb, off, rfl, hr⟩ := (HD.out.below hd.below).row (by omega)
      obtain ⟨_, c0, c1, c2, c3, c4⟩ := hr.at_ j hlt
      generalize xs[j] = x at *
      obtain ⟨kind, w_, at_, many, text⟩ := x
      simp only at c0 c1 c2 c3 c4
      have H2 : Hid (DkAny w.heap.size w (fun _ => False) D G pw (playT twn0 (xs.take j)) wr) := hd
      clear hr hd HW
      go_wp2_with fail
      refine (H2.out.does ⟨kind, w_, at_, many, text⟩).mono ?_
      rintro e w5 ⟨rfl, pw5, hd5, -⟩
      rw [← HN.out] at hd5
      have H5 : Hid (∃ G pw, DkAny w.heap.size w (fun _ => False) D G pw (playT twn0 (xs.take (j + 1))) w5) := ⟨_, _, hd5⟩
      clear hd5 H2 c0 c1 c2 c3 c4 HN
      generalize (tDo _ _).1 = cq at *
      go_wp2_with fail
      go_roundw
      case rel => exact ⟨j + 1, by omega, by go_num, H5.out⟩
      case measure => simp [intOf]; omega
    · obtain rfl : j = xs.length := by omega
      go_wp2_with fail
      go_ret
      obtain ⟨G, pw, hd⟩ := HW.out
      rw [List.take_length] at hd
      exact ⟨D, G, pw, rfl, hd⟩

theorem DkAny.chars {base : Nat} {S : Nat → Prop} {w wk : World} {D G : Nat} {pw : Nat → Nat} {t : Twn} (h : DkAny base w S D G pw t wk) :
    Calls Tryz.prog 52 #[.pointer (some ⟨G, 0, none⟩)] wk fun e w' => ∃ v', e = .returned v' ∧ Own w' wk.heap.size v' t.b.chars ∧ Below wk.heap.size wk w' := by
  obtain ⟨tk, h1, h2⟩ := h
  obtain ⟨T, dv, lv, hl, _⟩ := h1.log
  exact chars_lg hl

end Go.Proofs.YtfpemdbiplfkgacGreat

/-
  The contracts of package story: Of, Len, then, Text, By, Where; SameInts of two that are the same.
-/
namespace Go.Proofs.YtfpemdbiplfkgacGreat
open Go Go.RowKit

/-! What a story tells. -/

def inS (b : Bk) (n : Int) : Bool := decide (0 ≤ n ∧ n ≤ b.ds.length)
def thS (b : Bk) (n : Int) : List Ch := if 0 ≤ n ∧ n ≤ b.ds.length then thenL b.chars n else []

theorem thS_le (b : Bk) (n : Int) : (thS b n).length ≤ b.chars.length := by
  unfold thS
  split
  · exact thenL_le _ _
  · exact Nat.zero_le _
theorem thS_in {b : Bk} {n : Nat} (h : n ≤ b.ds.length) : thS b n = thenL b.chars n := by
  unfold thS
  rw [if_pos ⟨by omega, by omega⟩]
theorem inS_in {b : Bk} {n : Nat} (h : n ≤ b.ds.length) : inS b n = true := by
  unfold inS
  rw [decide_eq_true_eq]
  exact ⟨by omega, by omega⟩

theorem stC_start (w : World) (n : Nat) (lv : Value) : StC (w.alloc (.cells #[.int .i64 n, lv] 136)) w.heap.size n lv := by
  refine ⟨by simp, ?_, ?_⟩ <;> simp [go_sem]

set_option maxRecDepth 20000 in
set_option maxHeartbeats 800000 in
theorem of_dk {base : Nat} {S : Nat → Prop} {w0 w : World} {D G : Nat} {pw : Nat → Nat} {t : Twn} (h : DkAny base w0 S D G pw t w) :
    Calls Tryz.prog 33 #[.pointer (some ⟨G, 0, none⟩)] w fun e w' => ∃ P, e = .returned (.pointer (some ⟨P, 0, none⟩)) ∧ StTo w' w.heap.size P t.b ∧ Below w.heap.size w w' := by
  have HA : Hid (DkAny base w0 S D G pw t w) := h
  clear h
  go_enter Tryz.func33, Tryz.ntmps33
  go_wp2_with fail
  refine HA.out.len.mono ?_
  rintro e w1 ⟨rfl, hw1⟩
  rw [hw1]
  clear hw1 w1
  go_wp2_with fail
  refine HA.out.chars.mono ?_
  rintro e w2 ⟨v2, rfl, ho, hb⟩
  have HO : Hid (Own w2 w.heap.size v2 t.b.chars) := ho
  have HB : Hid (Below w.heap.size w w2) := hb
  obtain ⟨a2, c2, rfl, -⟩ := ho.lst.len
  clear ho hb
  go_wp2
  go_ret
  refine ⟨w2.heap.size, rfl, ⟨_, HB.out.size, stC_start w2 _ _, HO.out.below (below1 _ _)⟩, HB.out.alloc HB.out.size _⟩

theorem ret_vb {v : Value} {x y : Bool} (h : x = y) : Ending.returned (.tuple #[v, .bool x]) = .returned (.tuple #[v, .bool y]) := by rw [h]

section
variable {w : World} {lo P : Nat} {b : Bk}

theorem len_st (h : StTo w lo P b) (hl : b.ds.length ≤ 120) :
    Calls Tryz.prog 38 #[.pointer (some ⟨P, 0, none⟩)] w fun e w' => e = .returned (.int .i64 ((b.ds.length : Int) + 1)) ∧ w' = w := by
  obtain ⟨lv, h⟩ := h
  have c0 := h.cells.deeds
  have hlt := h.cells.lt
  clear h
  go_enter Tryz.func38, Tryz.ntmps38
  go_wp2
  go_ret
  exact ⟨by first | rfl | (congr 2; go_num), rfl⟩

theorem src_newC (w : World) (x : Ch) {n : Nat} (hn : n = w.heap.size) : ∀ j u, (cells7 [x])[j]? = some u → (w.alloc (.cells #[.int .u8 x.c, .int .i64 x.by_, .int .i64 x.no, .int .i64 x.k, .int .i64 x.inn, .int .i64 x.out, .int .i64 x.gone] 71)).cell? ((⟨n, 0, none⟩ : Addr).add j) = some u := by
  subst hn
  refine src_cells [x] 0 ?_
  intro i hi
  obtain rfl : i = 0 := by simpa using hi
  unfold At
  simp [go_sem]

theorem lst_newC (w : World) (x : Ch) : Lst (w.alloc (.cells #[.int .u8 x.c, .int .i64 x.by_, .int .i64 x.no, .int .i64 x.k, .int .i64 x.inn, .int .i64 x.out, .int .i64 x.gone] 71)) (.slice (some ⟨w.heap.size, 0, none⟩) 1 1) [x] := by
  refine ⟨_, 1, 1, rfl, rfl, Nat.le_refl _, .inr ⟨_, 0, rfl, by simp, ?_⟩⟩
  intro i hi
  obtain rfl : i = 0 := by simpa using hi
  unfold At
  simp [go_sem]

theorem below_grownC {w wr w2 : World} {v : Value} {l : List Ch} (hb : Below w.heap.size w wr) (ho : Own wr w.heap.size v l) (hg : wr.grownBy w2 v.ownBlock) : Below w.heap.size w w2 :=
  hb.grown hg (by have := hb.size; omega) (fun j hj => (World.ownsRow.lt ho j hj).1)

/-- In the middle of it. -/
structure ThI (w : World) (v : Value) (l : List Ch) (wk : World) : Prop where
  below : Below w.heap.size w wk
  own : Own wk w.heap.size v l
theorem ThI.after {w wk w' : World} {v : Value} {l : List Ch} (h : ThI w v l wk) (hb : Below wk.heap.size wk w') : ThI w v l w' := ⟨below_after h.below hb, h.own.below hb⟩

set_option maxRecDepth 20000 in
set_option maxHeartbeats 3200000 in
theorem then_st (h : StTo w lo P b) (n : Int) :
    Calls Tryz.prog 92 #[.pointer (some ⟨P, 0, none⟩), .int .i64 n] w fun e w' => ∃ v, e = .returned (.tuple #[v, .bool (inS b n)]) ∧ Own w' w.heap.size v (thS b n) ∧ Below w.heap.size w w' := by
  obtain ⟨lv, h⟩ := h
  have c0 := h.cells.deeds
  have c1 := h.cells.list
  have hlt := h.cells.lt
  have HL : Hid (Lst w lv b.chars) := h.own.lst
  have hcl := small_chars (b := b)
  obtain ⟨a, cap, rfl, hcap⟩ := h.own.lst.len
  by_cases hn : 0 ≤ n ∧ n ≤ b.ds.length
  · have HIN : Hid (inS b n = true) := by show inS b n = true; unfold inS; exact decide_eq_true hn
    have HTH : Hid (thS b n = thenL b.chars n) := by show thS b n = _; unfold thS; rw [if_pos hn]
    obtain ⟨hn0, hn1⟩ := hn
    clear h
    generalize b.chars = l at *
    go_enter Tryz.func92, Tryz.ntmps92
    go_wp2
    go_loopw [6, 24] (fun v i wr => ∃ k : Nat, k ≤ l.length ∧ i = .int .i64 k ∧ Hid (ThI w v (thenL (l.take k) n) wr)) (fun _ i _ => l.length - (intOf i).toNat)
    case atStart => exact ⟨0, Nat.zero_le _, rfl, Below.refl _ _, own_nil _ _⟩
    case round =>
      obtain ⟨k, hk, rfl, HI⟩ := hrel
      clear c0 c1
      by_cases hkl : k < l.length
      · have hki : (k : Int) < (l.length : Int) := by omega
        have HN : Hid (thenL (l.take (k + 1)) n = thenL (l.take k) n ++ if seesC n (-1) l[k] = true then [l[k]] else []) := by
          show thenL _ _ = _
          rw [take_snoc l k hkl]
          exact thenL_snoc _ _ _
        have HZ : Hid ((thenL (l.take k) n).length ≤ 200) := by
          show _ ≤ _
          have := thenL_le (l.take k) n
          rw [List.length_take] at this
          omega
        obtain ⟨bb, off, rfl, hr⟩ : ∃ b off, a = some ⟨b, off, none⟩ ∧ Row wr b off l := by
          obtain ⟨b1, o1, e1, _, r1⟩ := (HL.out.below HI.out.below).row (by omega)
          exact ⟨b1, o1, e1, r1⟩
        have hbl := hr.lt
        obtain ⟨h0, h1, h2, h3, h4, h5, h6⟩ := hr.at_ k hkl
        generalize l[k] = x at *
        generalize thenL (l.take k) n = zs at *
        clear hr
        go_wp2_with fail
        refine (sees_any x _ _ _).mono ?_
        rintro e w1 ⟨rfl, hb1⟩
        have HI0 : Hid (ThI w u6 zs (wr.alloc (.cells #[.int .u8 x.c, .int .i64 x.by_, .int .i64 x.no, .int .i64 x.k, .int .i64 x.inn, .int .i64 x.out, .int .i64 x.gone] 71))) := HI.out.after (below1 _ _)
        have HI1 : Hid (ThI w u6 zs w1) := HI0.out.after hb1
        have HN' : Hid (thenL (l.take (k + 1)) n = zs ++ if seesB x.by_ x.inn x.out x.gone n (-1) = true then [x] else []) := HN
        have HA1 : Hid (At w1 wr.heap.size 0 x) := by
          obtain ⟨hc, hf⟩ := bcell hb1
          show At _ _ _ _
          unfold At
          simp only [hc _ _ (show wr.heap.size < (wr.alloc _).heap.size by simp)]
          simp [go_sem]
        have hs1 : wr.heap.size < w1.heap.size := by have := hb1.size; simp at this; omega
        clear h0 h1 h2 h3 h4 h5 h6 HN HI HI0 hb1
        cases hs : seesB x.by_ x.inn x.out x.gone n (-1)
        · rw [hs] at HN'
          clear HA1 hs1
          go_wp2
          go_roundw
          case rel => exact ⟨k + 1, by omega, by go_num, by show ThI _ _ _ _; rw [HN'.out]; simpa using HI1.out⟩
          case measure => simp [intOf]; omega
        · rw [hs] at HN'
          obtain ⟨h0, h1, h2, h3, h4, h5, h6⟩ := HA1.out
          simp only [Nat.zero_add] at h1 h2 h3 h4 h5 h6
          go_wp2_with (at_builtin; refine append_lst _ (by rfl) (.tmp 31) (.tmp 33) (by rfl) w.heap.size (v := u6) (u := .slice (some ⟨w1.heap.size, 0, none⟩) 1 1) (a := zs) (b := [x]) (by rfl) (by rfl) (HI1.out.after (below1 _ _)).own (lst_newC w1 x) (by have := HZ.out; show _ + 1 ≤ 100000; omega) (HI1.out.after (below1 _ _)).below.size ?_)
          intro v' w2 ho hg
          have H2 : Hid (ThI w v' (thenL (l.take (k + 1)) n) w2) := by
            show ThI _ _ _ _
            rw [HN'.out]
            exact ⟨below_grownC (HI1.out.after (below1 _ _)).below (HI1.out.after (below1 _ _)).own hg, by simpa using ho⟩
          clear ho hg h0 h1 h2 h3 h4 h5 h6 hs1 HA1 HI1
          go_wp2
          go_roundw
          case rel => exact ⟨k + 1, by omega, by go_num, H2.out⟩
          case measure => simp [intOf]; omega
      · obtain rfl : k = l.length := by omega
        have HE : Hid (thenL (l.take l.length) n = thenL l n) := by show thenL _ _ = _; rw [List.take_length]
        go_wp2
        go_ret2
        refine ⟨_, ret_vb HIN.out.symm, ?_, HI.out.below⟩
        rw [HTH.out, ← HE.out]
        exact HI.out.own
  · have HIN : Hid (inS b n = false) := by show inS b n = false; unfold inS; exact decide_eq_false hn
    have HTH : Hid (thS b n = []) := by show thS b n = _; unfold thS; rw [if_neg hn]
    clear h
    by_cases h0 : n < 0
    · go_enter Tryz.func92, Tryz.ntmps92
      go_wp2
      go_ret2
      refine ⟨.slice none 0 0, ret_vb HIN.out.symm, ?_, Below.refl _ _⟩
      rw [HTH.out]
      exact own_nil _ _
    · have h1 : (b.ds.length : Int) < n := by
        have : ¬ n ≤ (b.ds.length : Int) := fun e => hn ⟨by omega, e⟩
        omega
      go_enter Tryz.func92, Tryz.ntmps92
      go_wp2
      go_ret2
      refine ⟨.slice none 0 0, ret_vb HIN.out.symm, ?_, Below.refl _ _⟩
      rw [HTH.out]
      exact own_nil _ _

end

end Go.Proofs.YtfpemdbiplfkgacGreat

/-
  The contracts of the story's Text, By and Where; SameInts of two that are the same.
-/
namespace Go.Proofs.YtfpemdbiplfkgacGreat
open Go Go.RowKit

theorem run_makeBytes (n : Nat) (hn : n ≤ 100000) (w : World) : (Instr.makeSlice 56 (.int .i64 n) (.int .i64 n)).run Tryz.prog w = .ok (.slice (some ⟨w.heap.size, 0, none⟩) n n) (w.alloc (.cells (madeCells (Value.int .u8 0).cells (n * 1)) 5)) := by
  obtain ⟨i0, hi, hz0, hz1, hz2⟩ := info_parts Tryz.infoByte
  have := run_make (P := Tryz.prog) w 56 5 i0 (.int .u8 0) Tryz.underlying56 hi hz0 .i64 .i64 n n (by omega) (Int.le_refl _) (by rw [hz2]; omega) (by omega)
  simp only [Int.toNat_natCast, hz1] at this
  exact this

/-- In the middle of Text: k bytes are there. -/
structure TxI (w1 : World) (l : List Ch) (k : Nat) (wr : World) : Prop where
  below : Below w1.heap.size w1 wr
  own : ∃ r, wr.ownsRow w1.heap.size 5 1 (.slice (some ⟨w1.heap.size, 0, none⟩) l.length l.length) l.length (cells8 ((l.map (·.c)).take k) ++ r)

theorem txI_start (w1 : World) (l : List Ch) (hl : l.length ≤ 100000) : TxI w1 l 0 (w1.alloc (.cells (madeCells #[Value.int .u8 0] l.length) 5)) := by
  have e0 : (madeCells #[Value.int .u8 0] l.length) = madeCells (Value.int .u8 0).cells (l.length * 1) := by rw [Nat.mul_one]; rfl
  rw [e0]
  refine ⟨below1 _ _, (madeCells (Value.int .u8 0).cells (l.length * 1)).toList, ?_⟩
  rw [List.take_zero]
  have := World.ownsRow_lit (base := w1.heap.size) (e := 5) (size := 1) w1 (madeCells (Value.int .u8 0).cells (l.length * 1)) l.length (Nat.le_refl _) (by unfold maxLen; omega) (size_madeCells _ _)
  simpa [cells8] using this

theorem TxI.after {w1 wr w' : World} {l : List Ch} {k : Nat} (h : TxI w1 l k wr) (hb : Below wr.heap.size wr w') : TxI w1 l k w' := by
  obtain ⟨h1, r, h2⟩ := h
  exact ⟨below_after h1 hb, r, owns_below h2 hb⟩

theorem TxI.step {w1 wr : World} {l : List Ch} {k : Nat} (h : TxI w1 l k wr) (hk : k < l.length) {c : Int} (hc : c = l[k].c) : TxI w1 l (k + 1) (wr.setCell ⟨w1.heap.size, k, none⟩ (.int .u8 c)) := by
  obtain ⟨hb, r, ho⟩ := h
  refine ⟨hb.setCell (by simp) _, r.drop 1, ?_⟩
  have hlm : (l.map (·.c)).length = l.length := List.length_map ..
  have hlen := ho.1
  have hl8 : (cells8 ((l.map (·.c)).take k)).length = k := by
    unfold cells8
    rw [List.length_map, List.length_take, hlm]
    omega
  rw [List.length_append, hl8] at hlen
  have e : cells8 ((l.map (·.c)).take (k + 1)) ++ r.drop 1 = (cells8 ((l.map (·.c)).take k) ++ r).set k (.int .u8 c) := by
    match r, (show 1 ≤ r.length by omega) with
    | r0 :: r, _ =>
      rw [List.take_succ_eq_append_getElem (by omega), List.getElem_map, ← hc]
      have : ∀ (p : List Value) (m : Nat) (x y : Value), p.length = m → (p ++ y :: r).set m x = p ++ x :: r := by
        intro p m x y hm
        subst hm
        simp
      rw [this _ _ _ _ hl8]
      simp [cells8]
  rw [e]
  exact (ho.stored _ _).1

theorem tx_spot {w : World} {base g n cap : Nat} {xs : List Value} (h : w.ownsRow base 5 1 (.slice (some ⟨g, 0, none⟩) n cap) n xs) {j : Nat} (hj : j < n) : (∃ u, w.cell? ⟨g, j, none⟩ = some u) ∧ w.frozen? ⟨g, j, none⟩ = false := by
  refine ⟨?_, h.frozenAt j⟩
  rw [h.cellAt j (by omega)]
  exact ⟨_, List.getElem?_eq_getElem (by rw [h.1]; omega)⟩

theorem txI_end {w1 wr : World} {l : List Ch} (h : TxI w1 l l.length wr) : (convert 56 9 (.slice (some ⟨w1.heap.size, 0, none⟩) l.length l.length)).run Tryz.prog wr = .ok (.string (strOfNums (l.map (·.c)))) wr := by
  obtain ⟨hb, r, ho⟩ := h
  have hlm : (l.map (·.c)).length = l.length := List.length_map ..
  rw [show (l.map (·.c)).take l.length = l.map (·.c) by rw [← hlm]; exact List.take_length] at ho
  have hr : r = [] := by
    have := ho.1
    unfold cells8 at this
    rw [List.length_append, List.length_map, hlm] at this
    exact List.length_eq_zero_iff.1 (by omega)
  rw [hr, List.append_nil] at ho
  have ho' : wr.ownsRow w1.heap.size 5 1 (.slice (some ⟨w1.heap.size, 0, none⟩) l.length l.length) (l.map (·.c)).length (cells8 (l.map (·.c))) := by rw [hlm]; exact ho
  exact own_string ho'

section
variable {w : World} {lo P : Nat} {b : Bk}

set_option maxRecDepth 20000 in
set_option maxHeartbeats 3200000 in
theorem text_st (h : StTo w lo P b) (n : Int) :
    Calls Tryz.prog 35 #[.pointer (some ⟨P, 0, none⟩), .int .i64 n] w fun e w' => e = .returned (.tuple #[.string (strOfNums ((thS b n).map (·.c))), .bool (inS b n)]) ∧ Below w.heap.size w w' := by
  have HA : Hid (StTo w lo P b) := h
  have hcl : (thS b n).length ≤ 200 := by
    have := thS_le b n
    have := small_chars (b := b)
    omega
  clear h
  go_enter Tryz.func35, Tryz.ntmps35
  go_wp2_with fail
  refine (then_st HA.out n).mono ?_
  rintro e w1 ⟨v1, rfl, ho, hb⟩
  have HL : Hid (Lst w1 v1 (thS b n)) := ho.lst
  have HB : Hid (Below w.heap.size w w1) := hb
  obtain ⟨a, cap, rfl, hcap⟩ := ho.lst.len
  obtain ⟨l, hl⟩ : ∃ l, thS b n = l := ⟨_, rfl⟩
  obtain ⟨ok, hok⟩ : ∃ ok, inS b n = ok := ⟨_, rfl⟩
  have HTH : Hid (thS b n = l) := hl
  have HOK : Hid (inS b n = ok) := hok
  rw [hl] at hcl hcap HL ⊢
  rw [hok]
  clear hl hok
  clear ho hb HA
  have hmk := run_makeBytes l.length (by omega)
  have HI : Hid (TxI w1 l 0 _) := txI_start w1 l (by omega)
  go_wp2
  go_loopw [22] (fun i wr => ∃ k : Nat, k ≤ l.length ∧ i = .int .i64 k ∧ Hid (TxI w1 l k wr)) (fun i _ => l.length - (intOf i).toNat)
  case atStart => exact ⟨0, Nat.zero_le _, rfl, HI⟩
  case round =>
    obtain ⟨k, hk, rfl, HK⟩ := hrel
    clear HI hmk
    by_cases hkl : k < l.length
    · have hki : (k : Int) < (l.length : Int) := by omega
      obtain ⟨bb, off, rfl, hr⟩ : ∃ b off, a = some ⟨b, off, none⟩ ∧ Row wr b off l := by
        obtain ⟨b1, o1, e1, _, r1⟩ := (HL.out.below HK.out.below).row (by omega)
        exact ⟨b1, o1, e1, r1⟩
      have hbl := hr.lt
      obtain ⟨h0, h1, h2, h3, h4, h5, h6⟩ := hr.at_ k hkl
      obtain ⟨x, hx⟩ : ∃ x, l[k] = x := ⟨_, rfl⟩
      have HX : Hid (l[k] = x) := hx
      rw [hx] at h0 h1 h2 h3 h4 h5 h6
      have HK2 : Hid (TxI w1 l k (wr.alloc (.cells #[.int .u8 x.c, .int .i64 x.by_, .int .i64 x.no, .int .i64 x.k, .int .i64 x.inn, .int .i64 x.out, .int .i64 x.gone] 71))) := HK.out.after (below1 _ _)
      obtain ⟨r, ho⟩ := HK2.out.own
      obtain ⟨⟨q0, e0⟩, f0⟩ := tx_spot ho (j := k) hkl
      have hw1 : w1.heap.size < wr.heap.size := by
        obtain ⟨_, ho'⟩ := HK.out.own
        exact (World.ownsRow.lt ho' _ rfl).2
      have HN : Hid (TxI w1 l (k + 1) ((wr.setCell ⟨w1.heap.size, k, none⟩ (.int .u8 x.c)).alloc (.cells #[.int .u8 x.c, .int .i64 x.by_, .int .i64 x.no, .int .i64 x.k, .int .i64 x.inn, .int .i64 x.out, .int .i64 x.gone] 71))) := (HK.out.step hkl (by rw [HX.out])).after (below1 _ _)
      clear hr ho hx HX HK HK2
      go_wp2
      go_roundw
      case rel => exact ⟨k + 1, by omega, by go_num, HN⟩
      case measure => simp [intOf]; omega
    · obtain rfl : k = l.length := by omega
      have hcv := txI_end HK.out
      go_wp2
      go_ret2
      exact ⟨by rw [HTH.out, HOK.out]; rfl, below_after HB.out HK.out.below⟩

theorem cellsI_app (a b : List Int) : cellsI (a ++ b) = cellsI a ++ cellsI b := List.map_append ..

/-- In the middle of By. -/
structure ByI (w w1 : World) (v : Value) (zs : List Int) (wk : World) : Prop where
  below : Below w1.heap.size w1 wk
  own : OwnI wk w1.heap.size v zs
theorem ByI.after {w w1 wk w' : World} {v : Value} {zs : List Int} (h : ByI w w1 v zs wk) (hb : Below wk.heap.size wk w') : ByI w w1 v zs w' := ⟨below_after h.below hb, h.own.below hb⟩

theorem src_newI (w : World) (z : Int) : ∀ j u, ([Value.int .i64 z])[j]? = some u → (w.alloc (.cells #[.int .i64 z] 3)).cell? ((⟨w.heap.size, 0, none⟩ : Addr).add j) = some u := by
  intro j u hj
  match j, hj with
  | 0, hj => simp at hj; subst hj; simp [Addr.add, go_sem]

theorem ByI.grown {w w1 wr w2 : World} {v v' : Value} {zs : List Int} {z : Int} (h : ByI w w1 v zs wr) (ho : w2.ownsRow w1.heap.size 3 1 v' (zs.length + 1) (cellsI zs ++ [.int .i64 z])) (hg : wr.grownBy w2 v.ownBlock) : ByI w w1 v' (zs ++ [z]) w2 := by
  refine ⟨h.below.grown hg (by have := h.below.size; omega) (fun j hj => (World.ownsRow.lt h.own j hj).1), ?_⟩
  unfold OwnI
  rw [cellsI_app, List.length_append]
  exact ho

set_option maxRecDepth 20000 in
set_option maxHeartbeats 3200000 in
theorem by_st (h : StTo w lo P b) (n : Int) :
    Calls Tryz.prog 36 #[.pointer (some ⟨P, 0, none⟩), .int .i64 n] w fun e w' => ∃ v, e = .returned (.tuple #[v, .bool (inS b n)]) ∧ ILst w' v ((thS b n).map (·.by_)) ∧ Below w.heap.size w w' := by
  have HA : Hid (StTo w lo P b) := h
  have hcl : (thS b n).length ≤ 200 := by
    have := thS_le b n
    have := small_chars (b := b)
    omega
  clear h
  obtain ⟨i0, hi, hz0, hz1, hz2⟩ := info_parts infoInt
  go_enter Tryz.func36, Tryz.ntmps36
  go_wp2_with fail
  refine (then_st HA.out n).mono ?_
  rintro e w1 ⟨v1, rfl, ho, hb⟩
  have HL : Hid (Lst w1 v1 (thS b n)) := ho.lst
  have HB : Hid (Below w.heap.size w w1) := hb
  obtain ⟨a, cap, rfl, hcap⟩ := ho.lst.len
  obtain ⟨l, hl⟩ : ∃ l, thS b n = l := ⟨_, rfl⟩
  obtain ⟨ok, hok⟩ : ∃ ok, inS b n = ok := ⟨_, rfl⟩
  have HTH : Hid (thS b n = l) := hl
  have HOK : Hid (inS b n = ok) := hok
  rw [hl] at hcl hcap HL ⊢
  rw [hok]
  clear hl hok
  clear ho hb HA
  go_wp2
  go_loopw [8, 19] (fun v i wr => ∃ k : Nat, k ≤ l.length ∧ i = .int .i64 k ∧ Hid (ByI w w1 v ((l.map (·.by_)).take k) wr)) (fun _ i _ => l.length - (intOf i).toNat)
  case atStart => exact ⟨0, Nat.zero_le _, rfl, Below.refl _ _, ownI_nil _ _⟩
  case round =>
    obtain ⟨k, hk, rfl, HK⟩ := hrel
    have hlm : (l.map (·.by_)).length = l.length := List.length_map ..
    by_cases hkl : k < l.length
    · have hki : (k : Int) < (l.length : Int) := by omega
      have HN : Hid ((l.map (·.by_)).take (k + 1) = (l.map (·.by_)).take k ++ [l[k].by_]) := by
        show List.take _ _ = _
        rw [List.take_succ_eq_append_getElem (by omega), List.getElem_map]
      have hzl : ((l.map (·.by_)).take k).length ≤ 200 := by rw [List.length_take]; omega
      obtain ⟨bb, off, rfl, hr⟩ : ∃ b off, a = some ⟨b, off, none⟩ ∧ Row wr b off l := by
        obtain ⟨b1, o1, e1, _, r1⟩ := (HL.out.below HK.out.below).row (by omega)
        exact ⟨b1, o1, e1, r1⟩
      have hbl := hr.lt
      obtain ⟨h0, h1, h2, h3, h4, h5, h6⟩ := hr.at_ k hkl
      generalize l[k] = x at *
      generalize (l.map (·.by_)).take k = zs at *
      have HZ : Hid (zs.length ≤ 200) := hzl
      have HK2 : Hid (ByI w w1 u8 zs ((wr.alloc (.cells #[.int .u8 x.c, .int .i64 x.by_, .int .i64 x.no, .int .i64 x.k, .int .i64 x.inn, .int .i64 x.out, .int .i64 x.gone] 71)).alloc (.cells #[.int .i64 x.by_] 3))) := (HK.out.after (below1 _ _)).after (below1 _ _)
      clear hr hlm hzl
      go_wp2_with (at_builtin; refine wpList_append_own _ rfl (.tmp 23) (.tmp 26) 80 rfl w1.heap.size 3 i0 (.int .i64 0) 1 8 Tryz.underlying80 hi hz0 hz1 hz2 rfl (by decide) u8 zs.length (cellsI zs) rfl HK2.out.own ⟨(wr.alloc (.cells #[.int .u8 x.c, .int .i64 x.by_, .int .i64 x.no, .int .i64 x.k, .int .i64 x.inn, .int .i64 x.out, .int .i64 x.gone] 71)).heap.size, 0, none⟩ 1 1 [.int .i64 x.by_] (by simp [go_sem]) rfl (src_newI _ _) ?c2 ?c3 ?c4 ?c5 ?_)
      case c2 => intro u hu; simp at hu; subst hu; rfl
      case c3 => have := HZ.out; unfold maxLen; omega
      case c4 => have := HZ.out; omega
      case c5 => exact HK2.out.below.size
      · intro v' w2 hown' hgrow _
        have H2 : Hid (ByI w w1 v' ((l.map (·.by_)).take (k + 1)) w2) := by
          show ByI _ _ _ _ _
          rw [HN.out]
          exact HK2.out.grown hown' hgrow
        clear hgrow hown' h0 h1 h2 h3 h4 h5 h6 HK HK2
        go_wp2
        go_roundw
        case rel => exact ⟨k + 1, by omega, by go_num, H2.out⟩
        case measure => simp [intOf]; omega
    · obtain rfl : k = l.length := by omega
      have HE : Hid ((l.map (·.by_)).take l.length = l.map (·.by_)) := by show List.take _ _ = _; rw [← hlm]; exact List.take_length
      go_wp2
      go_ret2
      refine ⟨u8, by rw [HOK.out]; rfl, ?_, below_after HB.out HK.out.below⟩
      rw [HTH.out, ← HE.out]
      exact HK.out.own.ilst

set_option maxRecDepth 20000 in
set_option maxHeartbeats 400000 in
theorem find_empty (a : Option Addr) (cap : Nat) (y : Ch) (w : World) :
    Calls Tryz.prog 95 #[.slice a 0 cap, chV y] w fun e w' => e = .returned (.int .i64 (-1)) ∧ Below w.heap.size w w' := by
  have hmf : ∀ (fn : Fn) (first cap : Array Value) (w : World), (Instr.makeFunc fn first cap).run Tryz.prog w = .ok (.func fn first cap) w := fun _ _ _ _ => rfl
  go_enter Tryz.func95, Tryz.ntmps95
  go_wp2_with fail
  refine (indexFunc_empty _ _ _ _).mono ?_
  rintro e w1 ⟨rfl, hb⟩
  have HB : Hid (Below w.heap.size w w1) := below_after (below1 _ _) hb
  clear hb
  go_wp2
  go_ret
  exact ⟨rfl, HB.out⟩

theorem findIs_wh {l : List Ch} {y : Ch} {r : Int} (h : FindIs l y r) : r = whS l y := by
  rcases h with ⟨k, hk, hno, hyes, rfl⟩ | ⟨hno, rfl⟩
  · refine (wh_some hk ?_ (fun j hj => ?_)).symm
    · have := hyes
      unfold sameAt at this
      rwa [List.getElem?_eq_getElem hk] at this
    · have := hno j hj
      unfold sameAt at this
      rwa [List.getElem?_eq_getElem (by omega)] at this
  · refine (wh_none (fun y' hy => ?_)).symm
    obtain ⟨j, hj, rfl⟩ := List.mem_iff_getElem.1 hy
    have := hno j hj
    unfold sameAt at this
    rwa [List.getElem?_eq_getElem hj] at this

theorem find_wh {w : World} {v : Value} {l : List Ch} (h : Lst w v l) (hl : l.length ≤ 1000) (y : Ch) :
    Calls Tryz.prog 95 #[v, chV y] w fun e w' => e = .returned (.int .i64 (whS l y)) ∧ Below w.heap.size w w' := by
  obtain ⟨a, len, cap, rfl, h1, h2, h3⟩ := h
  rcases h3 with rfl | ⟨b, off, rfl, hr⟩
  · obtain rfl : l = [] := List.length_eq_zero_iff.1 h1
    exact find_empty a cap y w
  · refine (find_some b off len cap l y w h1 (by omega) hr).mono ?_
    rintro e w' ⟨r, rfl, hf, hb⟩
    exact ⟨by rw [findIs_wh hf], hb⟩

set_option maxRecDepth 20000 in
set_option maxHeartbeats 3200000 in
theorem where_st (h : StTo w lo P b) (n : Int) (x : Ch) :
    Calls Tryz.prog 40 #[.pointer (some ⟨P, 0, none⟩), .int .i64 n, chV x] w fun e w' => e = .returned (.int .i64 (whS (thS b n) x)) ∧ Below w.heap.size w w' := by
  have hcl : (thS b n).length ≤ 200 := by
    have := thS_le b n
    have := small_chars (b := b)
    omega
  obtain ⟨c, by_, no, k, inn, out, gone⟩ := x
  have HA : Hid (StTo (w.alloc (.cells #[.int .u8 c, .int .i64 by_, .int .i64 no, .int .i64 k, .int .i64 inn, .int .i64 out, .int .i64 gone] 71)) lo P b) := h.below (below1 _ _)
  clear h
  go_enter Tryz.func40, Tryz.ntmps40
  go_wp2_with fail
  refine (then_st HA.out n).mono ?_
  rintro e w1 ⟨v1, rfl, ho, hb⟩
  have HL : Hid (Lst w1 v1 (thS b n)) := ho.lst
  have HB : Hid (Below w.heap.size w w1) := below_after (below1 _ _) hb
  have hlt : w.heap.size < w1.heap.size := by have := hb.size; simp at this; omega
  obtain ⟨hc, hf⟩ := bcell hb
  have g : ∀ o, o < 7 → w1.cell? ⟨w.heap.size, o, none⟩ = (#[Value.int .u8 c, .int .i64 by_, .int .i64 no, .int .i64 k, .int .i64 inn, .int .i64 out, .int .i64 gone])[o]? := fun o ho => by
    rw [hc _ _ (by simp)]
    simp [go_sem]
  have g0 := g 0 (by omega)
  have g1 := g 1 (by omega)
  have g2 := g 2 (by omega)
  have g3 := g 3 (by omega)
  have g4 := g 4 (by omega)
  have g5 := g 5 (by omega)
  have g6 := g 6 (by omega)
  simp at g0 g1 g2 g3 g4 g5 g6
  obtain ⟨a, cap, rfl, hcap⟩ := ho.lst.len
  obtain ⟨l, hl⟩ : ∃ l, thS b n = l := ⟨_, rfl⟩
  obtain ⟨ok, hok⟩ : ∃ ok, inS b n = ok := ⟨_, rfl⟩
  have HTH : Hid (thS b n = l) := hl
  have HOK : Hid (inS b n = ok) := hok
  rw [hl] at hcl hcap HL ⊢
  rw [hok]
  clear hl hok
  clear ho hb hc hf g HA
  go_wp2_with fail
  refine (find_wh HL.out (by omega) ⟨c, by_, no, k, inn, out, gone⟩).mono ?_
  rintro e w2 ⟨rfl, hb2⟩
  have HB2 : Hid (Below w.heap.size w w2) := below_after HB.out hb2
  clear hb2 g0 g1 g2 g3 g4 g5 g6
  go_wp2
  go_ret
  exact ⟨by rw [HTH.out]; rfl, HB2.out⟩

end

set_option maxRecDepth 20000 in
set_option maxHeartbeats 800000 in
theorem sameInts_eq {w : World} {va vb : Value} {zs : List Int} (ha : ILst w va zs) (hb : ILst w vb zs) (hl : zs.length ≤ 1000) :
    Calls Tryz.prog 39 #[va, vb] w fun e w' => e = .returned (.bool true) ∧ Below w.heap.size w w' := by
  have HA : Hid (ILst w va zs) := ha
  have HB : Hid (ILst w vb zs) := hb
  obtain ⟨aa, ca, rfl⟩ := ha.len
  obtain ⟨ab, cb, rfl⟩ := hb.len
  clear ha hb
  go_enter Tryz.func39, Tryz.ntmps39
  go_wp2
  go_loopw [5] (fun i wr => ∃ k : Nat, k ≤ zs.length ∧ i = .int .i64 k ∧ Hid (Below w.heap.size w wr)) (fun i _ => zs.length - (intOf i).toNat)
  case atStart => exact ⟨0, Nat.zero_le _, rfl, Below.refl _ _⟩
  case round =>
    obtain ⟨k, hk, rfl, HW⟩ := hrel
    by_cases hlt : k < zs.length
    · obtain ⟨b1, o1, rfl, l1, m1, r1⟩ := (HA.out.below HW.out).row (by omega)
      obtain ⟨b2, o2, rfl, l2, m2, r2⟩ := (HB.out.below HW.out).row (by omega)
      have g1 := r1 k hlt
      have g2 := r2 k hlt
      generalize zs[k] = z at *
      clear r1 r2
      go_wp2
      go_region
      go_wp2
      go_roundw
      case rel => exact ⟨k + 1, by omega, by go_num, below_drewN HW.out _⟩
      case measure => simp [intOf]; omega
    · go_wp2
      go_ret
      exact ⟨rfl, HW.out⟩

end Go.Proofs.YtfpemdbiplfkgacGreat
