/-
  A log and a book in memory: which blocks are theirs, and what a step on one of them leaves of the other one. No walk.
-/
import Derived.Test.YtnabhdfodckpdacLPlain
import Derived.Test.YtnabhdfodckpdacFind
import Derived.Test.YtnabhdfodckpdacFPlain
namespace Go.Proofs.Ytnabhdfodckpdac
open Go.RowKit

/-- Nothing that was there has changed but blocks of S. -/
structure Kept (S : Nat → Prop) (w w' : World) : Prop where
  os : w'.os = w.os
  tape : w'.tape = w.tape
  output : w'.output = w.output
  size : w.heap.size ≤ w'.heap.size
  block : ∀ k, k < w.heap.size → ¬ S k → w'.heap[k]? = w.heap[k]?

theorem Kept.refl (S : Nat → Prop) (w : World) : Kept S w w := ⟨rfl, rfl, rfl, Nat.le_refl _, fun _ _ _ => rfl⟩

theorem Kept.of_below {S : Nat → Prop} {w w' : World} (h : Below w.heap.size w w') : Kept S w w' := ⟨h.os, h.tape, h.output, h.size, fun k hk _ => h.block k hk⟩

/-- What a log owns behind a call: what it owned, and what is new. -/
def grow (S : Nat → Prop) (w w' : World) : Nat → Prop := fun k => S k ∨ (w.heap.size ≤ k ∧ k < w'.heap.size)

theorem Kept.trans {S : Nat → Prop} {a b c : World} (h : Kept S a b) (k : Kept (grow S a b) b c) : Kept S a c :=
  ⟨k.os.trans h.os, k.tape.trans h.tape, k.output.trans h.output, Nat.le_trans h.size k.size, fun i hi hs => (k.block i (Nat.lt_of_lt_of_le hi h.size) (fun e => e.elim hs (fun e => by omega))).trans (h.block i hi hs)⟩

theorem Kept.trans' {S : Nat → Prop} {a b c : World} (h : Kept S a b) (k : Kept S b c) : Kept S a c :=
  ⟨k.os.trans h.os, k.tape.trans h.tape, k.output.trans h.output, Nat.le_trans h.size k.size, fun i hi hs => (k.block i (Nat.lt_of_lt_of_le hi h.size) hs).trans (h.block i hi hs)⟩

theorem Kept.below {S : Nat → Prop} {base : Nat} {w w' : World} (h : Kept S w w') (hb : ∀ k, S k → base ≤ k) (hs : base ≤ w.heap.size) : Below base w w' :=
  ⟨h.os, h.tape, h.output, h.size, fun k hk => h.block k (by omega) (fun e => by have := hb k e; omega)⟩

theorem Kept.set {S : Nat → Prop} {w w' : World} (h : Kept S w w') {p : Addr} (hp : S p.block) (u : Value) : Kept S w (w'.setCell p u) :=
  ⟨h.os, h.tape, h.output, by simpa [World.setCell] using h.size, fun k hk hs => by
    rw [Below.heap_setCell w' p u k (fun e => hs (by rw [e]; exact hp))]
    exact h.block k hk hs⟩

theorem Kept.after {S : Nat → Prop} {a b c : World} (h : Kept S a b) (hb : Below b.heap.size b c) : Kept S a c := h.trans' (.of_below hb)

theorem Kept.drewN {S : Nat → Prop} {a b : World} (h : Kept S a b) (n : Nat) : Kept S a (b.drewN n) := h.after (below_drewN (Below.refl _ _) n)

theorem Kept.grown {S : Nat → Prop} {a b c : World} {row : Option Nat} (h : Kept S a b) (hg : b.grownBy c row) (hr : ∀ k, row = some k → S k ∨ a.heap.size ≤ k) : Kept S a c :=
  ⟨hg.os.trans h.os, hg.tape.trans h.tape, hg.output.trans h.output, Nat.le_trans h.size hg.size, fun k hk hs => by
    rw [hg.block k (Nat.lt_of_lt_of_le hk h.size) (fun e => by rcases hr k e.symm with x | x; exact hs x; omega)]
    exact h.block k hk hs⟩

/-- The cells of a log: seats, and where its deeds and its list are. -/
structure LogC (w : World) (G : Nat) (dv lv : Value) (b : Bk) : Prop where
  lt : G < w.heap.size
  here : ∀ j, j < 4 → w.cell? ⟨G, j * 3, none⟩ = some (.bool (b.here j))
  last : ∀ j, j < 4 → w.cell? ⟨G, j * 3 + 1, none⟩ = some (.int .i64 (b.last j))
  said : ∀ j, j < 4 → w.cell? ⟨G, j * 3 + 2, none⟩ = some (.int .i64 (b.said j))
  deeds : w.cell? ⟨G, 12, none⟩ = some dv
  list : w.cell? ⟨G, 13, none⟩ = some lv
  free : ∀ o, o < 14 → w.frozen? ⟨G, o, none⟩ = false

/-- A log in memory, in blocks of S. -/
structure LogAt (w : World) (base : Nat) (S : Nat → Prop) (G : Nat) (dv lv : Value) (b : Bk) : Prop where
  lo : ∀ k, S k → base ≤ k ∧ k < w.heap.size
  hG : S G
  cells : LogC w G dv lv b
  ownD : OwnD w base dv b.ds
  ownL : Own w base lv b.chars
  dB : ∀ k, dv.ownBlock = some k → S k ∧ k ≠ G
  lB : ∀ k, lv.ownBlock = some k → S k ∧ k ≠ G ∧ dv.ownBlock ≠ some k

theorem LogC.kept {w w' : World} {G : Nat} {dv lv : Value} {b : Bk} (h : LogC w G dv lv b) (hs : w.heap.size ≤ w'.heap.size) (hb : w'.heap[G]? = w.heap[G]?) : LogC w' G dv lv b := by
  have hc : ∀ o, w'.cell? ⟨G, o, none⟩ = w.cell? ⟨G, o, none⟩ := fun o => World.cell?_of_block (a := ⟨G, o, none⟩) hb
  have hf : ∀ o, w'.frozen? ⟨G, o, none⟩ = w.frozen? ⟨G, o, none⟩ := fun o => World.frozen?_of_block (a := ⟨G, o, none⟩) hb
  exact ⟨Nat.lt_of_lt_of_le h.lt hs, fun j hj => by rw [hc]; exact h.here j hj, fun j hj => by rw [hc]; exact h.last j hj, fun j hj => by rw [hc]; exact h.said j hj, by rw [hc]; exact h.deeds, by rw [hc]; exact h.list, fun o ho => by rw [hf]; exact h.free o ho⟩

theorem owns_block {w w' : World} {base : Nat} {e : TypeId} {size n : Nat} {v : Value} {xs : List Value} (h : w.ownsRow base e size v n xs) (hb : ∀ k, v.ownBlock = some k → w'.heap[k]? = w.heap[k]?) : w'.ownsRow base e size v n xs := by
  refine ⟨h.1, ?_⟩
  rcases h.2 with hn | ⟨g, cap, cur, rfl, hb', hgg, rest⟩
  · exact .inl hn
  · exact .inr ⟨g, cap, cur, rfl, hb', by rw [hb g rfl]; exact hgg, rest⟩

theorem LogAt.kept {w w' : World} {base G : Nat} {S T : Nat → Prop} {dv lv : Value} {b : Bk} (h : LogAt w base S G dv lv b) (hk : Kept T w w') (hd : ∀ k, S k → ¬ T k) : LogAt w' base S G dv lv b := by
  have hb : ∀ k, S k → w'.heap[k]? = w.heap[k]? := fun k hs => hk.block k (h.lo k hs).2 (hd k hs)
  exact ⟨fun k hs => ⟨(h.lo k hs).1, Nat.lt_of_lt_of_le (h.lo k hs).2 hk.size⟩, h.hG, h.cells.kept hk.size (hb G h.hG), owns_block h.ownD (fun k e => hb k (h.dB k e).1), owns_block h.ownL (fun k e => hb k (h.lB k e).1), h.dB, h.lB⟩

theorem LogAt.below {w w' : World} {base G : Nat} {S : Nat → Prop} {dv lv : Value} {b : Bk} (h : LogAt w base S G dv lv b) (hb : Below w.heap.size w w') : LogAt w' base S G dv lv b :=
  h.kept (T := fun _ => False) (.of_below hb) (fun _ _ e => e)

/-- The same cells, whatever the rest is: a seat that is written. -/
theorem LogAt.cells_of {w w' : World} {base G : Nat} {S : Nat → Prop} {dv lv : Value} {b b' : Bk} (h : LogAt w base S G dv lv b) (hk : ∀ k, k ≠ G → w'.heap[k]? = w.heap[k]?) (hs : w.heap.size ≤ w'.heap.size) (hc : LogC w' G dv lv b') (hd : b'.ds = b.ds) : LogAt w' base S G dv lv b' := by
  refine ⟨fun k hs' => ⟨(h.lo k hs').1, Nat.lt_of_lt_of_le (h.lo k hs').2 hs⟩, h.hG, hc, ?_, ?_, h.dB, h.lB⟩
  · rw [hd]; exact owns_block h.ownD (fun k e => hk k (h.dB k e).2)
  · rw [show b'.chars = b.chars by unfold Bk.chars; rw [hd]]; exact owns_block h.ownL (fun k e => hk k (h.lB k e).2.1)

theorem LogAt.grow {w w' : World} {base G : Nat} {S : Nat → Prop} {dv lv : Value} {b : Bk} (h : LogAt w' base S G dv lv b) (hb : base ≤ w.heap.size) : LogAt w' base (grow S w w') G dv lv b :=
  ⟨fun k hs => hs.elim (h.lo k) (fun e => ⟨by omega, e.2⟩), .inl h.hG, h.cells, h.ownD, h.ownL, fun k e => ⟨.inl (h.dB k e).1, (h.dB k e).2⟩, fun k e => ⟨.inl (h.lB k e).1, (h.lB k e).2⟩⟩

/-- The cells of a book. -/
structure BookC (w : World) (B : Nat) (dv : Value) (b : Bk) : Prop where
  lt : B < w.heap.size
  deeds : w.cell? ⟨B, 0, none⟩ = some dv
  here : ∀ j, j < 4 → w.cell? ⟨B, 1 + j, none⟩ = some (.bool (b.here j))
  last : ∀ j, j < 4 → w.cell? ⟨B, 5 + j, none⟩ = some (.int .i64 (b.last j))
  said : ∀ j, j < 4 → w.cell? ⟨B, 9 + j, none⟩ = some (.int .i64 (b.said j))
  free : ∀ o, o < 13 → w.frozen? ⟨B, o, none⟩ = false

structure BookAt (w : World) (base : Nat) (S : Nat → Prop) (B : Nat) (dv : Value) (b : Bk) : Prop where
  lo : ∀ k, S k → base ≤ k ∧ k < w.heap.size
  hB : S B
  cells : BookC w B dv b
  ownD : OwnD w base dv b.ds
  dB : ∀ k, dv.ownBlock = some k → S k ∧ k ≠ B

theorem BookC.kept {w w' : World} {B : Nat} {dv : Value} {b : Bk} (h : BookC w B dv b) (hs : w.heap.size ≤ w'.heap.size) (hb : w'.heap[B]? = w.heap[B]?) : BookC w' B dv b := by
  have hc : ∀ o, w'.cell? ⟨B, o, none⟩ = w.cell? ⟨B, o, none⟩ := fun o => World.cell?_of_block (a := ⟨B, o, none⟩) hb
  have hf : ∀ o, w'.frozen? ⟨B, o, none⟩ = w.frozen? ⟨B, o, none⟩ := fun o => World.frozen?_of_block (a := ⟨B, o, none⟩) hb
  exact ⟨Nat.lt_of_lt_of_le h.lt hs, by rw [hc]; exact h.deeds, fun j hj => by rw [hc]; exact h.here j hj, fun j hj => by rw [hc]; exact h.last j hj, fun j hj => by rw [hc]; exact h.said j hj, fun o ho => by rw [hf]; exact h.free o ho⟩

theorem BookAt.kept {w w' : World} {base B : Nat} {S T : Nat → Prop} {dv : Value} {b : Bk} (h : BookAt w base S B dv b) (hk : Kept T w w') (hd : ∀ k, S k → ¬ T k) : BookAt w' base S B dv b := by
  have hb : ∀ k, S k → w'.heap[k]? = w.heap[k]? := fun k hs => hk.block k (h.lo k hs).2 (hd k hs)
  exact ⟨fun k hs => ⟨(h.lo k hs).1, Nat.lt_of_lt_of_le (h.lo k hs).2 hk.size⟩, h.hB, h.cells.kept hk.size (hb B h.hB), owns_block h.ownD (fun k e => hb k (h.dB k e).1), h.dB⟩

theorem BookAt.below {w w' : World} {base B : Nat} {S : Nat → Prop} {dv : Value} {b : Bk} (h : BookAt w base S B dv b) (hb : Below w.heap.size w w') : BookAt w' base S B dv b :=
  h.kept (T := fun _ => False) (.of_below hb) (fun _ _ e => e)

theorem BookAt.cells_of {w w' : World} {base B : Nat} {S : Nat → Prop} {dv : Value} {b b' : Bk} (h : BookAt w base S B dv b) (hk : ∀ k, k ≠ B → w'.heap[k]? = w.heap[k]?) (hs : w.heap.size ≤ w'.heap.size) (hc : BookC w' B dv b') (hd : b'.ds = b.ds) : BookAt w' base S B dv b' := by
  refine ⟨fun k hs' => ⟨(h.lo k hs').1, Nat.lt_of_lt_of_le (h.lo k hs').2 hs⟩, h.hB, hc, ?_, h.dB⟩
  rw [hd]; exact owns_block h.ownD (fun k e => hk k (h.dB k e).2)

end Go.Proofs.Ytnabhdfodckpdac

/-
  Plain mathematics of what is done with: the list without it, marks, and how they slide. No walk.
-/
namespace Go.Proofs.Ytnabhdfodckpdac

def doneB (least : Int) (x : Ch) : Bool := decide (x.out ≠ 0 ∧ x.out ≤ least)
def ofL (least : Int) (l : List Ch) : List Ch := l.filter fun x => !doneB least x

theorem ofL_nil (least : Int) : ofL least [] = [] := rfl
theorem ofL_app (least : Int) (a b : List Ch) : ofL least (a ++ b) = ofL least a ++ ofL least b := List.filter_append ..
theorem ofL_one (least : Int) (x : Ch) : ofL least [x] = if doneB least x = true then [] else [x] := by
  cases h : doneB least x <;> simp [ofL, h]
theorem ofL_snoc (least : Int) (l : List Ch) (x : Ch) : ofL least (l ++ [x]) = ofL least l ++ if doneB least x = true then [] else [x] := by
  rw [ofL_app, ofL_one]
theorem ofL_le (least : Int) (l : List Ch) : (ofL least l).length ≤ l.length := List.length_filter_le ..

theorem ofL_take_succ (least : Int) (l : List Ch) (k : Nat) (h : k < l.length) : ofL least (l.take (k + 1)) = ofL least (l.take k) ++ if doneB least l[k] = true then [] else [l[k]] := by
  rw [take_snoc l k h, ofL_snoc]

/-- Cleared again nothing more goes; as far as less, and then as far as more, is as far as more. -/
theorem of_more {less more : Int} (h : less ≤ more) (l : List Ch) : ofL more (ofL less l) = ofL more l := by
  unfold ofL
  rw [List.filter_filter]
  congr 1
  funext x
  by_cases h1 : x.out ≠ 0 ∧ x.out ≤ less
  · have h2 : x.out ≠ 0 ∧ x.out ≤ more := ⟨h1.1, by omega⟩
    simp [doneB, h1, h2]
  · simp only [doneB, h1, decide_false, Bool.not_false, Bool.and_true]
theorem of_again (least : Int) (l : List Ch) : ofL least (ofL least l) = ofL least l := of_more (Int.le_refl _) l

/-- Who has seen the log as far sees none that is done. -/
theorem done_unseen {least seen by_ : Int} {x : Ch} (hs : least ≤ seen) (h : doneB least x = true) : seesC seen by_ x = false := by
  rw [doneB, decide_eq_true_eq] at h
  have h2 : x.out ≠ 0 ∧ x.out ≤ seen := ⟨h.1, by omega⟩
  simp [seesC, seesB, outB, h2]

theorem sees_of {least seen by_ : Int} (hs : least ≤ seen) (l : List Ch) : (ofL least l).filter (seesC seen by_) = l.filter (seesC seen by_) := by
  unfold ofL
  rw [List.filter_filter]
  congr 1
  funext x
  cases h : doneB least x
  · simp
  · simp [done_unseen hs h]
theorem vw_of {least seen : Int} (by_ : Int) (hs : least ≤ seen) (l : List Ch) : vw (ofL least l) seen by_ = vw l seen by_ := by
  unfold vw; rw [sees_of hs]
theorem cnt_of {least seen : Int} (by_ : Int) (hs : least ≤ seen) (l : List Ch) : cnt (ofL least l) seen by_ = cnt l seen by_ := by
  unfold cnt; rw [sees_of hs]

/-- Where a byte that is left stands then. -/
theorem of_split (least : Int) (l : List Ch) (k : Nat) : ofL least l = ofL least (l.take k) ++ ofL least (l.drop k) := by
  rw [← ofL_app, List.take_append_drop]
theorem of_get {least : Int} {l : List Ch} {k : Nat} (h : k < l.length) (hd : doneB least l[k] = false) :
    (ofL least (l.take k)).length < (ofL least l).length ∧ (ofL least l)[(ofL least (l.take k)).length]? = some l[k] ∧ (ofL least l).take ((ofL least (l.take k)).length + 1) = ofL least (l.take (k + 1)) := by
  have e : ofL least l = ofL least (l.take k) ++ l[k] :: ofL least (l.drop (k + 1)) := by
    have e1 : l.drop k = [l[k]] ++ l.drop (k + 1) := by rw [List.drop_eq_getElem_cons h]; rfl
    rw [of_split least l k, e1, ofL_app, ofL_one, hd]
    simp
  have e2 : ofL least (l.take (k + 1)) = ofL least (l.take k) ++ [l[k]] := by
    rw [ofL_take_succ least l k h, hd]; simp
  refine ⟨?_, ?_, ?_⟩
  · rw [e, List.length_append, List.length_cons]; omega
  · rw [e, List.getElem?_append_right (Nat.le_refl _), Nat.sub_self]; rfl
  · rw [e2, e, List.take_append, List.take_of_length_le (by omega)]
    simp

/-! The loop of ClearKeeps: how many of what is left stand ahead. -/

theorem of_take_len (least : Int) (l : List Ch) (k : Nat) : (ofL least (l.take k)).length ≤ (ofL least l).length := by
  rw [of_split least l k, List.length_append]; omega

/-! Marks. -/

structure Mk where
  start : Bool
  by_ : Int
  no : Int
  k : Int
deriving DecidableEq

/-- The mark right behind a byte. -/
def mkOf (x : Ch) : Mk := ⟨false, x.by_, x.no, x.k⟩
def mkStart : Mk := ⟨true, 0, 0, 0⟩
def mkZero : Mk := ⟨false, 0, 0, 0⟩
/-- The mark that stands at a place. -/
def atM (l : List Ch) : Nat → Mk
  | 0 => mkStart
  | p + 1 => match l[p]? with
    | some x => mkOf x
    | none => mkZero
/-- The byte that a mark names. -/
def namedBy (m : Mk) : Ch := ⟨0, m.by_, m.no, m.k, 0, 0, 0⟩
def hitM (m : Mk) (x : Ch) : Bool := decide (m = mkOf x)

/-- Where a mark stands. -/
def findM (m : Mk) (l : List Ch) : Option Nat := l.findIdx? (hitM m)
def placeM (l : List Ch) (m : Mk) : Int :=
  if m = mkStart then 0 else match findM m l with
    | some k => k + 1
    | none => -1

theorem place_bd (l : List Ch) (m : Mk) : -1 ≤ placeM l m ∧ placeM l m ≤ l.length := by
  unfold placeM
  by_cases hm : m = mkStart
  · simp [hm]
  · rw [if_neg hm]
    cases h : findM m l with
    | none => simp
    | some k =>
      have := (List.findIdx?_eq_some_iff_findIdx_eq.1 h).1
      simp; omega

theorem mkOf_start (x : Ch) : mkOf x ≠ mkStart := fun e => by simp [mkOf, mkStart] at e

/-- A place from which one slides ahead, as long as the byte ahead is done. -/
def slideN (least : Int) (l : List Ch) : Nat → Nat
  | 0 => 0
  | p + 1 => match l[p]? with
    | some x => if doneB least x = true then slideN least l p else p + 1
    | none => p + 1

theorem slide_le (least : Int) (l : List Ch) : ∀ p, slideN least l p ≤ p
  | 0 => Nat.le_refl _
  | p + 1 => by
    unfold slideN
    split
    · split
      · exact Nat.le_succ_of_le (slide_le least l p)
      · exact Nat.le_refl _
    · exact Nat.le_refl _

theorem slide_at {least : Int} {l : List Ch} {p : Nat} (h : p < l.length) : slideN least l (p + 1) = if doneB least l[p] = true then slideN least l p else p + 1 := by
  rw [slideN, List.getElem?_eq_getElem h]

/-- Where it comes to stand: at the start, or behind one that is not done. -/
theorem slide_end {least : Int} {l : List Ch} : ∀ {p : Nat}, p ≤ l.length → slideN least l p = 0 ∨ ∃ q, ∃ (hq : q < l.length), slideN least l p = q + 1 ∧ doneB least l[q] = false
  | 0, _ => .inl rfl
  | p + 1, h => by
    rw [slide_at h]
    cases hd : doneB least l[p]
    · exact .inr ⟨p, h, by simp, hd⟩
    · simpa using slide_end (p := p) (by omega)

/-- What is left of what stands ahead is the same. -/
theorem slide_of {least : Int} {l : List Ch} : ∀ {p : Nat}, p ≤ l.length → ofL least (l.take (slideN least l p)) = ofL least (l.take p)
  | 0, _ => rfl
  | p + 1, h => by
    rw [slide_at h, ofL_take_succ least l p h]
    cases hd : doneB least l[p]
    · simp [ofL_take_succ least l p h, hd]
    · simpa using slide_of (p := p) (by omega)

theorem slide_cnt {least seen : Int} (by_ : Int) {l : List Ch} {p : Nat} (hs : least ≤ seen) (h : p ≤ l.length) : cnt (l.take p) seen by_ = cnt (ofL least (l.take (slideN least l p))) seen by_ := by
  rw [slide_of h, cnt_of by_ hs]

/-- No byte stands twice. -/
def Apart (l : List Ch) : Prop := l.Pairwise fun x y => ¬ (x.by_ = y.by_ ∧ x.no = y.no ∧ x.k = y.k)

theorem Apart.of {l : List Ch} (h : Apart l) (least : Int) : Apart (ofL least l) := List.Pairwise.filter _ h

theorem find_at {l : List Ch} (ha : Apart l) {k : Nat} (h : k < l.length) : findM (mkOf l[k]) l = some k := by
  unfold findM
  rw [List.findIdx?_eq_some_iff_getElem]
  refine ⟨h, by simp [hitM], fun j hj => ?_⟩
  have := List.pairwise_iff_getElem.1 ha j k (by omega) h hj
  intro e
  have e' : mkOf l[k] = mkOf l[j] := of_decide_eq_true e
  simp only [mkOf, Mk.mk.injEq, true_and] at e'
  exact this ⟨e'.1.symm, e'.2.1.symm, e'.2.2.symm⟩

theorem place_at {l : List Ch} (ha : Apart l) {p : Nat} (h : p ≤ l.length) : placeM l (atM l p) = p := by
  cases p with
  | zero => simp [placeM, atM]
  | succ p =>
    rw [atM, List.getElem?_eq_getElem h]
    show placeM l (mkOf l[p]) = _
    rw [placeM, if_neg (mkOf_start _), find_at ha h]
    simp

/-- A MARK KEEPS ITS PLACE: slid, it stands in what is left, and has as many bytes ahead that one sees. -/
theorem slide_keeps {least seen : Int} (by_ : Int) {l : List Ch} (ha : Apart l) (hs : least ≤ seen) {p : Nat} (h : p ≤ l.length) :
    ∃ t : Nat, t ≤ (ofL least l).length ∧ placeM (ofL least l) (atM l (slideN least l p)) = t ∧ cnt (l.take p) seen by_ = cnt ((ofL least l).take t) seen by_ := by
  rcases slide_end (least := least) h with e | ⟨q, hq, e, hd⟩
  · refine ⟨0, Nat.zero_le _, by rw [e]; simp [placeM, atM], ?_⟩
    rw [slide_cnt by_ hs h, e]
    rfl
  · obtain ⟨g1, g2, g3⟩ := of_get hq hd
    refine ⟨(ofL least (l.take q)).length + 1, g1, ?_, ?_⟩
    · rw [e, atM, List.getElem?_eq_getElem hq]
      have h3 := find_at (ha.of least) g1
      rw [List.getElem?_eq_getElem g1, Option.some.injEq] at g2
      rw [g2] at h3
      show placeM (ofL least l) (mkOf l[q]) = _
      rw [placeM, if_neg (mkOf_start _), h3]
      simp
    · rw [slide_cnt by_ hs h, e, g3]

/-- The law's own look at a list: found at its own place, each stands once. -/
theorem apart_of {l : List Ch} (h : ∀ k (hk : k < l.length), FindIs l l[k] k) : Apart l := by
  unfold Apart
  rw [List.pairwise_iff_getElem]
  intro i j hi hj hij hs
  rcases h j hj with ⟨k, hk, hno, _, e⟩ | ⟨_, e⟩
  · obtain rfl : j = k := by omega
    have := hno i hij
    rw [sameAt, List.getElem?_eq_getElem hi] at this
    simp [sameB, hs.1, hs.2.1, hs.2.2] at this
  · omega

end Go.Proofs.Ytnabhdfodckpdac
