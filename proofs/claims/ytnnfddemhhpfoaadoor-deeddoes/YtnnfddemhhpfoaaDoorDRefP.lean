/-
  Plain mathematics of the document's way to read a line (word by word), and four numbers in memory. No walk.
-/
import Derived.Test.YtnnfddemhhpfoaaDoorDRefW
namespace Go.Proofs.YtnnfddemhhpfoaaDoor
open Go.RowKit

theorem parse_nocut {s : ByteArray} (h : cut1 s.data.toList = none) : parseD s = none := by
  rw [parse_words, wordsL, cutK, h]
  rfl

theorem parse_cut {s : ByteArray} {k0 r0 : List UInt8} (h : cut1 s.data.toList = some (k0, r0)) : parseD s = ofSix (bl k0 :: (cutK 4 r0).map bl) := by
  rw [parse_words, wordsL, cutK, h]
  rfl

theorem six_kind {a0 : ByteArray} {l : List ByteArray} (h1 : a0 ≠ putS) (h2 : a0 ≠ takeS) : ofSix (a0 :: l) = none := by
  by_cases h6 : (a0 :: l).length = 6
  · obtain ⟨b0, b1, b2, b3, b4, b5, hb⟩ := list_six h6
    rw [hb]
    have : a0 = b0 := (List.cons.inj hb).1
    show wordD b0 b1 b2 b3 b4 b5 = none
    rw [wordD, if_neg (by rw [← this]; exact h1), if_neg (by rw [← this]; exact h2)]
  · exact ofSix_no h6

theorem six_few {a0 : ByteArray} {r0 rest : List UInt8} {ws : List (List UInt8)} (h : cutK 4 r0 = ws ++ [rest]) (hl : ws.length < 4) : ofSix (a0 :: (cutK 4 r0).map bl) = none := by
  refine ofSix_no ?_
  rw [h]
  simp
  omega

theorem readL_bad {l : List ByteArray} {k : Nat} {x : ByteArray} (h : l[k]? = some x) (hx : num1 x = none) : readL l = none := by
  obtain ⟨hk, e⟩ := List.getElem?_eq_some_iff.1 h
  exact readL_no l k hk (by rw [e]; exact hx)

theorem six_bad {a0 : ByteArray} {r0 x : List UInt8} {ws tl : List (List UInt8)} (h : cutK 4 r0 = ws ++ x :: tl) (hl : ws.length < 4) (hx : num1 (bl x) = none) : ofSix (a0 :: (cutK 4 r0).map bl) = none := by
  by_cases h6 : (a0 :: (cutK 4 r0).map bl).length = 6
  · obtain ⟨b0, b1, b2, b3, b4, b5, hb⟩ := list_six h6
    rw [hb]
    have ht : (cutK 4 r0).map bl = [b1, b2, b3, b4, b5] := (List.cons.inj hb).2
    have hat : ([b1, b2, b3, b4, b5] : List ByteArray)[ws.length]? = some (bl x) := by
      rw [← ht, h]
      simp
    have h4 : ([b1, b2, b3, b4] : List ByteArray)[ws.length]? = some (bl x) := by
      rcases (show ws.length = 0 ∨ ws.length = 1 ∨ ws.length = 2 ∨ ws.length = 3 by omega) with e | e | e | e <;> rw [e] at hat ⊢ <;> exact hat
    show wordD b0 b1 b2 b3 b4 b5 = none
    rw [wordD, readL_bad h4 hx, readL_bad hat hx]
    split
    · rfl
    · split <;> rfl
  · exact ofSix_no h6

theorem list_four {α : Type} : ∀ {l : List α}, l.length = 4 → ∃ a0 a1 a2 a3, l = [a0, a1, a2, a3]
  | [a0, a1, a2, a3], _ => ⟨a0, a1, a2, a3, rfl⟩
  | [], h => by simp at h
  | [_], h => by simp at h
  | [_, _], h => by simp at h
  | [_, _, _], h => by simp at h
  | _ :: _ :: _ :: _ :: _ :: _, h => by simp at h

theorem six_put {r0 rest : List UInt8} {ws : List (List UInt8)} {zs : List Int} (h : cutK 4 r0 = ws ++ [rest]) (hl : ws.length = 4) (hr : readL (ws.map bl) = some zs) : ofSix (putS :: (cutK 4 r0).map bl) = some (putD zs (bl rest)) := by
  obtain ⟨x1, x2, x3, x4, rfl⟩ := list_four hl
  rw [h]
  show wordD putS (bl x1) (bl x2) (bl x3) (bl x4) (bl rest) = _
  rw [wordD, if_pos rfl, show readL [bl x1, bl x2, bl x3, bl x4] = some zs from hr]
  rfl

theorem six_take {r0 rest : List UInt8} {ws : List (List UInt8)} {zs : List Int} (h : cutK 4 r0 = ws ++ [rest]) (hl : ws.length = 4) (hr : readL (ws.map bl) = some zs) :
    ofSix (takeS :: (cutK 4 r0).map bl) = (num1 (bl rest)).map fun m => takeD (zs ++ [m]) := by
  obtain ⟨x1, x2, x3, x4, rfl⟩ := list_four hl
  rw [h]
  show wordD takeS (bl x1) (bl x2) (bl x3) (bl x4) (bl rest) = _
  rw [wordD, if_neg (by decide), if_pos rfl]
  cases hm : num1 (bl rest) with
  | none =>
    rw [readL_bad (k := 4) (x := bl rest) rfl hm]
    rfl
  | some m =>
    have := readL_snoc [bl x1, bl x2, bl x3, bl x4] (bl rest) zs m hr hm
    rw [show readL [bl x1, bl x2, bl x3, bl x4, bl rest] = some (zs ++ [m]) from this]
    rfl

theorem takeD_snoc {zs : List Int} {m : Int} (h : zs.length = 4) : takeD (zs ++ [m]) = ⟨2, zs.getD 0 0, zs.getD 1 0, zs.getD 2 0, zs.getD 3 0, m, ⟨#[]⟩⟩ := by
  obtain ⟨z0, z1, z2, z3, rfl⟩ := list_four h
  rfl

theorem cutK_step {k : Nat} {rest x y : List UInt8} (h : cut1 rest = some (x, y)) : cutK (k + 1) rest = x :: cutK k y := by
  rw [cutK, h]

theorem cutK_stop {k : Nat} {rest : List UInt8} (h : cut1 rest = none) : cutK k rest = [rest] := by
  cases k with
  | zero => rfl
  | succ k => rw [cutK, h]

/-- Four ints in a block, those behind the list's end 0. -/
structure Four (w : World) (B : Nat) (zs : List Int) : Prop where
  lt : B < w.heap.size
  c : ∀ i, i < 4 → w.cell? ⟨B, i, none⟩ = some (.int .i64 (zs.getD i 0))
  f : ∀ i, w.frozen? ⟨B, i, none⟩ = false

theorem Four.below {w w' : World} {B : Nat} {zs : List Int} (h : Four w B zs) (hb : Below w.heap.size w w') : Four w' B zs :=
  ⟨by have := hb.size; have := h.lt; omega, fun i hi => cell_on (h.c i hi) hb, fun i => (frozen_on h.lt hb).trans (h.f i)⟩

theorem Four.set {w : World} {B k : Nat} {zs : List Int} (h : Four w B zs) (hk : zs.length = k) (h5 : k < 4) (z : Int) : Four (w.setCell ⟨B, k, none⟩ (.int .i64 z)) B (zs ++ [z]) := by
  refine ⟨by simpa using h.lt, fun i hi => ?_, fun i => by rw [World.frozen?_setCell]; exact h.f i⟩
  by_cases hik : i = k
  · subst hik
    rw [World.cell?_setCell_same _ _ _ (h.c i hi)]
    simp [List.getD, hk]
  · rw [World.cell?_setCell_other _ _ _ _ (by intro e; cases e; exact hik rfl), h.c i hi]
    rcases Nat.lt_or_ge i zs.length with hl | hl
    · simp [List.getD, List.getElem?_append_left hl]
    · simp only [List.getD]
      rw [List.getElem?_eq_none hl, List.getElem?_eq_none (by simp; omega)]

theorem At7.other {w : World} {B B' k : Nat} {d : Dd} (h : At7 w B d) (hB : B' ≠ B) (v : Value) : At7 (w.setCell ⟨B', k, none⟩ v) B d := by
  have o : ∀ i, (w.setCell ⟨B', k, none⟩ v).cell? ⟨B, i, none⟩ = w.cell? ⟨B, i, none⟩ := fun i => World.cell?_setCell_other _ _ _ _ (by intro e; cases e; exact hB rfl)
  exact ⟨by simpa using h.lt, (o 0).trans h.c0, (o 1).trans h.c1, (o 2).trans h.c2, (o 3).trans h.c3, (o 4).trans h.c4, (o 5).trans h.c5, (o 6).trans h.c6⟩

theorem Fr7.other {w : World} {B : Nat} (h : Fr7 w B) (a : Addr) (v : Value) : Fr7 (w.setCell a v) B := by
  refine ⟨?_, ?_, ?_, ?_, ?_, ?_, ?_⟩ <;> rw [World.frozen?_setCell]
  · exact h.f0
  · exact h.f1
  · exact h.f2
  · exact h.f3
  · exact h.f4
  · exact h.f5
  · exact h.f6

abbrev zero4 : Obj := .cells #[.int .i64 0, .int .i64 0, .int .i64 0, .int .i64 0] 44

theorem four_new (w : World) : Four (w.alloc zero4) w.heap.size [] := by
  refine ⟨by simp, fun i hi => ?_, fun i => ?_⟩
  · rcases (show i = 0 ∨ i = 1 ∨ i = 2 ∨ i = 3 by omega) with rfl | rfl | rfl | rfl <;> simp [go_sem]
  · simp [go_sem]

/-- What holds of a world in the middle of DeedOf's loop. -/
structure OInv (w : World) (B7 : Nat) (zs : List Int) (wk : World) : Prop where
  below : Below w.heap.size w wk
  at_ : At7 wk w.heap.size zeroD
  fr : Fr7 wk w.heap.size
  four : Four wk B7 zs
  ne : w.heap.size < B7

theorem OInv.after {w wk w' : World} {B7 : Nat} {zs : List Int} (h : OInv w B7 zs wk) (hb : Below wk.heap.size wk w') : OInv w B7 zs w' :=
  ⟨below_after h.below hb, h.at_.below hb, h.fr.below h.at_.lt hb, h.four.below hb, h.ne⟩

theorem OInv.set {w wk : World} {B7 k : Nat} {zs : List Int} (h : OInv w B7 zs wk) (hk : zs.length = k) (h4 : k < 4) (z : Int) : OInv w B7 (zs ++ [z]) (wk.setCell ⟨B7, k, none⟩ (.int .i64 z)) :=
  ⟨h.below.setCell (p := ⟨B7, k, none⟩) (Nat.le_of_lt h.ne) _, h.at_.other (Nat.ne_of_gt h.ne) _, h.fr.other _ _, h.four.set hk h4 z, h.ne⟩

theorem o_start {w w1 : World} (hb : Below (w.alloc (ddObj zeroD)).heap.size (w.alloc (ddObj zeroD)) w1) : OInv w w1.heap.size [] (w1.alloc zero4) :=
  have h1 : Below w.heap.size w w1 := below_after ((Below.refl _ _).alloc (Nat.le_refl _) _) hb
  have h2 : Below w1.heap.size w1 (w1.alloc zero4) := (Below.refl _ _).alloc (Nat.le_refl _) _
  have ha := (at7_start w zeroD).below hb
  ⟨below_after h1 h2, ha.below h2, ((fr7_start w zeroD).below (at7_start w zeroD).lt hb).below ha.lt h2, four_new w1, ha.lt⟩

end Go.Proofs.YtnnfddemhhpfoaaDoor
