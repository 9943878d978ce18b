/-
  The document's own Book: IsHere, Least, Join, Leave, Says: their contracts.
-/
import Derived.Test.YtfpemdbiplfkgacRAll
import Derived.BigRegion
import Derived.Deep.RegionLaw
import Derived.Deep.AppendLies
namespace Go.Proofs.Ytfpemdbiplfkgac
open Go.RowKit

theorem wr_nat {n : Int} (h : wrB n = true) : ∃ j : Nat, n = j ∧ j < 4 := by
  have hn : 0 ≤ n ∧ n ≤ 3 := by simpa [wrB] using h
  obtain ⟨j, rfl⟩ := Int.eq_ofNat_of_zero_le hn.1
  exact ⟨j, rfl, by omega⟩

theorem isHere_no {b : Bk} {n : Int} (h : wrB n = false) : b.isHere n = false := by rw [Bk.isHere, h]; rfl
theorem isHere_yes {b : Bk} {n : Int} (h : wrB n = true) : b.isHere n = b.here n := by rw [Bk.isHere, h]; rfl

/-- The least of the first k. -/
def leastTo (b : Bk) : Nat → Int
  | 0 => b.len
  | k + 1 => leastStep b (leastTo b k) k

theorem leastTo_four (b : Bk) : leastTo b 4 = leastL b := rfl

theorem leastTo_bd {b : Bk} (h : Good b) : ∀ k, 0 ≤ leastTo b k ∧ leastTo b k ≤ 120
  | 0 => by
    have := h.small
    show 0 ≤ b.len ∧ b.len ≤ 120
    have e : b.len = (b.ds.length : Int) := rfl
    omega
  | k + 1 => by
    have h1 := leastTo_bd h k
    have h2 := h.said k
    show 0 ≤ leastStep b (leastTo b k) k ∧ leastStep b (leastTo b k) k ≤ 120
    unfold leastStep
    split <;> omega

theorem OwnD.len {w : World} {base : Nat} {v : Value} {l : List Dd} (h : OwnD w base v l) : ∃ a cap, v = .slice a l.length cap := by
  rcases h.2 with ⟨rfl, hn⟩ | ⟨g, cap, cur, rfl, _⟩
  · exact ⟨none, 0, by rw [hn]⟩
  · exact ⟨_, cap, rfl⟩

/-! A cell of a book is written. -/

theorem BookC.setHere {w : World} {B : Nat} {dv : Value} {b : Bk} (h : BookC w B dv b) {j : Nat} (hj : j < 4) (x : Bool) : BookC (w.setCell ⟨B, 1 + j, none⟩ (.bool x)) B dv ⟨b.ds, setF b.here j x, b.last, b.said⟩ := by
  have h0 := h.deeds
  refine ⟨by simpa using h.lt, by simp [go_sem, h0], fun i hi => ?_, fun i hi => ?_, fun i hi => ?_, fun o ho => ?_⟩
  · have h1 := h.here i hi
    by_cases e : i = j
    · subst e
      simp [go_sem, h1, setF]
    · have e1 : ¬ (i : Int) = (j : Int) := by omega
      simp [go_sem, h1, setF, e1]
  · have h1 := h.last i hi
    simp [go_sem, h1]
  · have h1 := h.said i hi
    simp [go_sem, h1]
  · simpa [go_sem] using h.free o ho

theorem BookC.setLast {w : World} {B : Nat} {dv : Value} {b : Bk} (h : BookC w B dv b) {j : Nat} (hj : j < 4) (x : Int) : BookC (w.setCell ⟨B, 5 + j, none⟩ (.int .i64 x)) B dv ⟨b.ds, b.here, setF b.last j x, b.said⟩ := by
  have h0 := h.deeds
  refine ⟨by simpa using h.lt, by simp [go_sem, h0], fun i hi => ?_, fun i hi => ?_, fun i hi => ?_, fun o ho => ?_⟩
  · have h1 := h.here i hi
    simp [go_sem, h1]
  · have h1 := h.last i hi
    by_cases e : i = j
    · subst e
      simp [go_sem, h1, setF]
    · have e1 : ¬ (i : Int) = (j : Int) := by omega
      simp [go_sem, h1, setF, e1]
  · have h1 := h.said i hi
    simp [go_sem, h1]
  · simpa [go_sem] using h.free o ho

theorem BookC.setSaid {w : World} {B : Nat} {dv : Value} {b : Bk} (h : BookC w B dv b) {j : Nat} (hj : j < 4) (x : Int) : BookC (w.setCell ⟨B, 9 + j, none⟩ (.int .i64 x)) B dv ⟨b.ds, b.here, b.last, setF b.said j x⟩ := by
  have h0 := h.deeds
  refine ⟨by simpa using h.lt, by simp [go_sem, h0], fun i hi => ?_, fun i hi => ?_, fun i hi => ?_, fun o ho => ?_⟩
  · have h1 := h.here i hi
    simp [go_sem, h1]
  · have h1 := h.last i hi
    simp [go_sem, h1]
  · have h1 := h.said i hi
    by_cases e : i = j
    · subst e
      simp [go_sem, h1, setF]
    · have e1 : ¬ (i : Int) = (j : Int) := by omega
      simp [go_sem, h1, setF, e1]
  · simpa [go_sem] using h.free o ho

/-- A book behind a step: it is that of b', and nothing else that was there has changed. -/
structure BookTo (w : World) (base : Nat) (S : Nat → Prop) (B : Nat) (b' : Bk) (w' : World) : Prop where
  at_ : ∃ dv, BookAt w' base (grow S w w') B dv b'
  kept : Kept S w w'

theorem BookAt.grow {w w' : World} {base B : Nat} {S : Nat → Prop} {dv : Value} {b : Bk} (h : BookAt w' base S B dv b) (hb : base ≤ w.heap.size) : BookAt w' base (grow S w w') B dv b :=
  ⟨fun k hs => hs.elim (h.lo k) (fun e => ⟨by omega, e.2⟩), .inl h.hB, h.cells, h.ownD, fun k e => ⟨.inl (h.dB k e).1, (h.dB k e).2⟩⟩

theorem BookAt.base_le {w : World} {base B : Nat} {S : Nat → Prop} {dv : Value} {b : Bk} (h : BookAt w base S B dv b) : base ≤ w.heap.size := by
  have := h.lo B h.hB
  omega

theorem BookAt.stay {w w' : World} {base B : Nat} {S : Nat → Prop} {dv : Value} {b : Bk} (h : BookAt w base S B dv b) (hb : Below w.heap.size w w') : BookTo w base S B b w' :=
  ⟨⟨dv, (h.below hb).grow h.base_le⟩, .of_below hb⟩

/-- Cells of the book's own block have been written. -/
theorem BookAt.wrote {w w' : World} {base B : Nat} {S : Nat → Prop} {dv : Value} {b b' : Bk} (h : BookAt w base S B dv b) (hk : Kept (fun k => k = B) w w') (hs : w'.heap.size = w.heap.size) (hc : BookC w' B dv b') (hd : b'.ds = b.ds) : BookTo w base S B b' w' := by
  have hblk : ∀ k, k ≠ B → w'.heap[k]? = w.heap[k]? := fun k hkB => by
    by_cases hlt : k < w.heap.size
    · exact hk.block k hlt hkB
    · rw [Array.getElem?_eq_none (by omega), Array.getElem?_eq_none (by omega)]
  refine ⟨⟨dv, (h.cells_of hblk hk.size hc hd).grow h.base_le⟩, ⟨hk.os, hk.tape, hk.output, hk.size, fun k hk' hS => hblk k (fun e => hS (by rw [e]; exact h.hB))⟩⟩

theorem kept_one (w : World) (B o : Nat) (u : Value) : Kept (fun k => k = B) w (w.setCell ⟨B, o, none⟩ u) := Kept.set (S := fun k => k = B) (Kept.refl _ w) (p := ⟨B, o, none⟩) rfl u

theorem kept_more {w w' : World} {B : Nat} (h : Kept (fun k => k = B) w w') (o : Nat) (u : Value) : Kept (fun k => k = B) w (w'.setCell ⟨B, o, none⟩ u) := Kept.set (S := fun k => k = B) h (p := ⟨B, o, none⟩) rfl u

theorem BookAt.mono {w : World} {base B : Nat} {S T : Nat → Prop} {dv : Value} {b : Bk} (h : BookAt w base S B dv b) (hT : ∀ k, S k → T k) (hl : ∀ k, T k → base ≤ k ∧ k < w.heap.size) : BookAt w base T B dv b :=
  ⟨hl, hT _ h.hB, h.cells, h.ownD, fun k e => ⟨hT k (h.dB k e).1, (h.dB k e).2⟩⟩

theorem BookTo.after {w w' w'' : World} {base B : Nat} {S : Nat → Prop} {b : Bk} (h : BookTo w base S B b w') (hb : Below w'.heap.size w' w'') : BookTo w base S B b w'' := by
  obtain ⟨⟨dv, hat⟩, hk⟩ := h
  have hlo := hat.lo
  refine ⟨⟨dv, (hat.below hb).mono (fun k hk => hk.elim .inl (fun e => .inr ⟨e.1, Nat.lt_of_lt_of_le e.2 hb.size⟩)) (fun k hk' => ?_)⟩, hk.after hb⟩
  rcases hk' with e | e
  · have := hlo k (.inl e)
    have := hb.size
    omega
  · have := hat.base_le
    have h1 := hk.size
    have h2 : base ≤ w.heap.size ∨ w.heap.size < base := by omega
    rcases h2 with h2 | h2
    · omega
    · by_cases h3 : k < w'.heap.size
      · have := hlo k (.inr ⟨e.1, h3⟩)
        omega
      · omega

theorem ret_two {a b a' b' : Int} (h : a = a') (h2 : b = b') : Ending.returned (.tuple #[.int .i64 a, .int .i64 b]) = .returned (.tuple #[.int .i64 a', .int .i64 b']) := by rw [h, h2]

theorem leave_codes (b : Bk) (n : Int) : (b.isHere n = true ∧ leaveC b n = 0) ∨ (b.isHere n = false ∧ leaveC b n = 5) := by
  unfold leaveC
  cases h : b.isHere n
  · exact .inr ⟨rfl, if_neg (by simp)⟩
  · exact .inl ⟨rfl, if_pos rfl⟩

theorem says_codes (b : Bk) (n seen : Int) : (b.isHere n = false ∧ saysC b n seen = 5) ∨ (b.isHere n = true ∧ seen < b.said n ∧ saysC b n seen = 8) ∨ (b.isHere n = true ∧ b.said n ≤ seen ∧ b.len < seen ∧ saysC b n seen = 8) ∨ (b.isHere n = true ∧ b.said n ≤ seen ∧ seen ≤ b.len ∧ saysC b n seen = 0) := by
  unfold saysC
  cases h : b.isHere n
  · exact .inl ⟨rfl, if_pos rfl⟩
  · rw [if_neg (by simp)]
    by_cases h1 : seen < b.said n
    · exact .inr (.inl ⟨rfl, h1, if_pos (.inl h1)⟩)
    · by_cases h2 : b.len < seen
      · exact .inr (.inr (.inl ⟨rfl, by omega, h2, if_pos (.inr h2)⟩))
      · exact .inr (.inr (.inr ⟨rfl, by omega, by omega, if_neg (by omega)⟩))

theorem join_codes (b : Bk) (n : Int) : (wrB n = false ∧ joinC b n = 1) ∨ (wrB n = true ∧ b.here n = true ∧ joinC b n = 6) ∨ (wrB n = true ∧ b.here n = false ∧ joinC b n = 0) := by
  unfold joinC
  cases h : wrB n
  · exact .inl ⟨rfl, if_pos rfl⟩
  · rw [if_neg (by simp)]
    cases h2 : b.here n
    · exact .inr (.inr ⟨rfl, rfl, if_neg (by simp)⟩)
    · exact .inr (.inl ⟨rfl, rfl, if_pos rfl⟩)

end Go.Proofs.Ytfpemdbiplfkgac

/-
  The document's own Book takes a deed: its contract.
-/
namespace Go.Proofs.Ytfpemdbiplfkgac
open Go.RowKit

/-- What Take answers, one way behind the other. -/
theorem comes_codes (b : Bk) (d : Dd) : (b.isHere d.by_ = false ∧ comesC b d = 5) ∨ (b.isHere d.by_ = true ∧ d.no ≠ b.last d.by_ + 1 ∧ comesC b d = 7)
    ∨ (b.isHere d.by_ = true ∧ d.no = b.last d.by_ + 1 ∧ d.seen < b.said d.by_ ∧ comesC b d = 8) ∨ (b.isHere d.by_ = true ∧ d.no = b.last d.by_ + 1 ∧ b.said d.by_ ≤ d.seen ∧ b.len < d.seen ∧ comesC b d = 8)
    ∨ (b.isHere d.by_ = true ∧ d.no = b.last d.by_ + 1 ∧ b.said d.by_ ≤ d.seen ∧ d.seen ≤ b.len ∧ 120 ≤ b.len ∧ comesC b d = 9)
    ∨ (b.isHere d.by_ = true ∧ d.no = b.last d.by_ + 1 ∧ b.said d.by_ ≤ d.seen ∧ d.seen ≤ b.len ∧ b.len < 120 ∧ comesC b d = doC b.chars d (b.len + 1)) := by
  unfold comesC
  cases hh : b.isHere d.by_
  · exact .inl ⟨rfl, if_pos rfl⟩
  · rw [if_neg (by simp)]
    by_cases h1 : d.no = b.last d.by_ + 1
    · rw [if_neg (fun e => e h1)]
      by_cases h2 : d.seen < b.said d.by_
      · exact .inr (.inr (.inl ⟨rfl, h1, h2, if_pos (.inl h2)⟩))
      · by_cases h3 : b.len < d.seen
        · exact .inr (.inr (.inr (.inl ⟨rfl, h1, by omega, h3, if_pos (.inr h3)⟩)))
        · rw [if_neg (by omega)]
          by_cases h4 : 120 ≤ b.len
          · exact .inr (.inr (.inr (.inr (.inl ⟨rfl, h1, by omega, by omega, h4, if_pos h4⟩))))
          · exact .inr (.inr (.inr (.inr (.inr ⟨rfl, h1, by omega, by omega, by omega, if_neg h4⟩))))
    · exact .inr (.inl ⟨rfl, h1, if_pos h1⟩)

theorem comes_none {b : Bk} {d : Dd} {c : Int} (h : comesC b d = c) (hc : c ≠ 0) : comesB b d = b ∧ comesN b d = 0 := by
  have : comesC b d ≠ 0 := by rw [h]; exact hc
  exact ⟨comes_no this, by rw [comesN, if_neg this]⟩

/-- A book, and a deed in a block of its own, in the middle of Take. -/
structure TB (w : World) (base : Nat) (S : Nat → Prop) (B : Nat) (dv : Value) (b : Bk) (d : Dd) (wk : World) : Prop where
  book : BookAt wk base S B dv b
  deed : DdAt wk w.heap.size 0 d
  below : Below w.heap.size w wk

theorem TB.after {w wk w' : World} {base B : Nat} {S : Nat → Prop} {dv : Value} {b : Bk} {d : Dd} (h : TB w base S B dv b d wk) (hb : Below wk.heap.size wk w') : TB w base S B dv b d w' := ⟨h.book.below hb, h.deed.below hb, below_after h.below hb⟩

theorem tb_start {w : World} {base B : Nat} {S : Nat → Prop} {dv : Value} {b : Bk} (h : BookAt w base S B dv b) (d : Dd) : TB w base S B dv b d (w.alloc (dObj d)) :=
  ⟨h.below ((Below.refl _ _).alloc (Nat.le_refl _) _), ddat_start w d, (Below.refl _ _).alloc (Nat.le_refl _) _⟩

theorem TB.stay {w wk : World} {base B : Nat} {S : Nat → Prop} {dv : Value} {b : Bk} {d : Dd} (h : TB w base S B dv b d wk) (h0 : BookAt w base S B dv b) : BookTo w base S B b wk := h0.stay h.below

/-- Take, where it is refused ahead of Do. -/
theorem ne_wrap {no m : Int} (h0 : -9223372036854775808 ≤ no) (h1 : no ≤ 9223372036854775807) (hm : 0 ≤ m) (hm2 : m ≤ 120) (h : no ≠ m + 1) : (wrap64 (no - 1) != m) = true := by
  rw [bne_iff_ne]
  unfold wrap64
  omega

end Go.Proofs.Ytfpemdbiplfkgac

/-
  The document's own Book takes a deed: the way through Do; all ways together.
-/
namespace Go.Proofs.Ytfpemdbiplfkgac
open Go.RowKit

/-- Behind the append: the book has one deed more. -/
structure TB2 (w : World) (base : Nat) (S : Nat → Prop) (B : Nat) (b : Bk) (d : Dd) (wk : World) : Prop where
  to : BookTo w base S B b wk
  deed : DdAt wk w.heap.size 0 d

theorem TB2.after {w wk w' : World} {base B : Nat} {S : Nat → Prop} {b : Bk} {d : Dd} (h : TB2 w base S B b d wk) (hb : Below wk.heap.size wk w') : TB2 w base S B b d w' := ⟨h.to.after hb, h.deed.below hb⟩

theorem drop_block {w6 w5 : World} {o : Obj} {row : Option Nat} (hg : (w5.drew.alloc o).grownBy w6 row) {k : Nat} (hk : k < w5.heap.size) (hr : row ≠ some k) : w6.heap[k]? = w5.heap[k]? := by
  rw [hg.block k (by simp; omega) (fun e => hr e.symm)]
  exact Below.heap_alloc _ _ _ hk

theorem DdAt.of_block {w w' : World} {E : Nat} {d : Dd} (h : DdAt w E 0 d) (hs : E < w'.heap.size) (hb : w'.heap[E]? = w.heap[E]?) : DdAt w' E 0 d := by
  have hc : ∀ o, w'.cell? ⟨E, o, none⟩ = w.cell? ⟨E, o, none⟩ := fun o => World.cell?_of_block (a := ⟨E, o, none⟩) hb
  obtain ⟨_, c0, c1, c2, c3, c4, c5, c6⟩ := h
  refine ⟨hs, ?_, ?_, ?_, ?_, ?_, ?_, ?_⟩ <;> rw [hc] <;> assumption

theorem tb2_append {w w5 w6 : World} {base B : Nat} {S : Nat → Prop} {dv v' : Value} {b : Bk} {d : Dd} {o : Obj} (h : TB w base S B dv b d w5) (h0 : BookAt w base S B dv b) (hg : (w5.drew.alloc o).grownBy w6 dv.ownBlock)
    (hown : OwnD w6 base v' (b.ds ++ [d])) (hv : ∀ k, v'.ownBlock = some k → dv.ownBlock = some k ∨ w5.heap.size ≤ k) : TB2 w base S B ⟨b.ds ++ [d], b.here, b.last, b.said⟩ d (w6.setCell ⟨B, 0, none⟩ v') := by
  have hBlt := h0.cells.lt
  have hs5 := h.below.size
  have hs6 : w5.heap.size + 1 ≤ w6.heap.size := by have := hg.size; simpa using this
  have hsz : (w6.setCell ⟨B, 0, none⟩ v').heap.size = w6.heap.size := by simp [World.setCell]
  have hdB : ∀ k, dv.ownBlock = some k → S k ∧ k ≠ B := h.book.dB
  have hdlt : ∀ k, dv.ownBlock = some k → k < w.heap.size := fun k e => (h0.lo k (hdB k e).1).2
  have hvlt : ∀ k, v'.ownBlock = some k → k < w6.heap.size := fun k e => (World.ownsRow.lt hown k e).2
  have hblk : ∀ k, k < w5.heap.size → dv.ownBlock ≠ some k → k ≠ B → (w6.setCell ⟨B, 0, none⟩ v').heap[k]? = w5.heap[k]? := fun k hk hr hB => by
    rw [Below.heap_setCell _ _ _ _ hB]
    exact drop_block hg hk hr
  have hB6 : w6.heap[B]? = w5.heap[B]? := drop_block hg (by omega) (fun e => (hdB B e).2 rfl)
  have hc6 := h.book.cells.kept (w' := w6) (by omega) hB6
  have hvB : ∀ k, v'.ownBlock = some k → k ≠ B := fun k e => by
    rcases hv k e with e | e
    · exact (hdB k e).2
    · omega
  refine ⟨⟨⟨v', ⟨fun k hk => ?_, .inl h0.hB, ⟨by rw [hsz]; omega, ?_, fun j hj => ?_, fun j hj => ?_, fun j hj => ?_, fun o ho => ?_⟩, owns_block hown (fun k e => Below.heap_setCell _ _ _ _ (hvB k e)), fun k e => ⟨?_, hvB k e⟩⟩⟩, ⟨?_, ?_, ?_, by rw [hsz]; omega, fun k hk hS => ?_⟩⟩, ?_⟩
  · rw [hsz]
    rcases hk with hk | ⟨hk, hk2⟩
    · have := h0.lo k hk
      omega
    · rw [hsz] at hk2
      have := h0.base_le
      omega
  · have := hc6.deeds
    simp [go_sem, this]
  · have := hc6.here j hj
    simp [go_sem, this]
  · have := hc6.last j hj
    simp [go_sem, this]
  · have := hc6.said j hj
    simp [go_sem, this]
  · have := hc6.free o ho
    simpa [go_sem] using this
  · rcases hv k e with e' | e'
    · exact .inl (hdB k e').1
    · exact .inr ⟨by omega, by rw [hsz]; exact hvlt k e⟩
  · exact hg.os.trans h.below.os
  · exact hg.tape.trans h.below.tape
  · exact hg.output.trans h.below.output
  · rw [hblk k (by omega) (fun e => hS (hdB k e).1) (fun e => hS (by rw [e]; exact h0.hB))]
    exact h.below.block k hk
  · exact h.deed.of_block (by rw [hsz]; omega) (hblk _ h.deed.lt (fun e => by have := hdlt _ e; omega) (by omega))

theorem TB2.setLast {w wk : World} {base B : Nat} {S : Nat → Prop} {b : Bk} {d : Dd} (h : TB2 w base S B b d wk) (hB : B < w.heap.size) (hSB : S B) {j : Nat} (hj : j < 4) (x : Int) : TB2 w base S B ⟨b.ds, b.here, setF b.last j x, b.said⟩ d (wk.setCell ⟨B, 5 + j, none⟩ (.int .i64 x)) := by
  obtain ⟨⟨⟨dv, hat⟩, hk⟩, hd⟩ := h
  have hsz : (wk.setCell ⟨B, 5 + j, none⟩ (.int .i64 x)).heap.size = wk.heap.size := by simp [World.setCell]
  have hne : ∀ k, k ≠ B → (wk.setCell ⟨B, 5 + j, none⟩ (.int .i64 x)).heap[k]? = wk.heap[k]? := fun k e => Below.heap_setCell _ _ _ _ e
  refine ⟨⟨⟨dv, ?_⟩, hk.set (p := ⟨B, 5 + j, none⟩) hSB _⟩, hd.of_block (by rw [hsz]; exact hd.lt) (hne _ (by omega))⟩
  have := hat.cells_of hne (by rw [hsz]; exact Nat.le_refl _) (hat.cells.setLast hj x) rfl
  have e : grow S w (wk.setCell ⟨B, 5 + j, none⟩ (.int .i64 x)) = grow S w wk := by unfold grow; rw [hsz]
  rw [e]
  exact this

theorem TB2.setSaid {w wk : World} {base B : Nat} {S : Nat → Prop} {b : Bk} {d : Dd} (h : TB2 w base S B b d wk) (hB : B < w.heap.size) (hSB : S B) {j : Nat} (hj : j < 4) (x : Int) : TB2 w base S B ⟨b.ds, b.here, b.last, setF b.said j x⟩ d (wk.setCell ⟨B, 9 + j, none⟩ (.int .i64 x)) := by
  obtain ⟨⟨⟨dv, hat⟩, hk⟩, hd⟩ := h
  have hsz : (wk.setCell ⟨B, 9 + j, none⟩ (.int .i64 x)).heap.size = wk.heap.size := by simp [World.setCell]
  have hne : ∀ k, k ≠ B → (wk.setCell ⟨B, 9 + j, none⟩ (.int .i64 x)).heap[k]? = wk.heap[k]? := fun k e => Below.heap_setCell _ _ _ _ e
  refine ⟨⟨⟨dv, ?_⟩, hk.set (p := ⟨B, 9 + j, none⟩) hSB _⟩, hd.of_block (by rw [hsz]; exact hd.lt) (hne _ (by omega))⟩
  have := hat.cells_of hne (by rw [hsz]; exact Nat.le_refl _) (hat.cells.setSaid hj x) rfl
  have e : grow S w (wk.setCell ⟨B, 9 + j, none⟩ (.int .i64 x)) = grow S w wk := by unfold grow; rw [hsz]
  rw [e]
  exact this

end Go.Proofs.Ytfpemdbiplfkgac
