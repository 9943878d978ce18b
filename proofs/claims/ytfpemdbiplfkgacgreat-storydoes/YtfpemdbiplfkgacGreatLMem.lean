/-
  A log and a book in memory: which blocks are theirs, and what a step on one of them leaves of the other one. No walk.
-/
import Derived.Test.YtfpemdbiplfkgacGreatFDeeds
import Derived.Test.YtfpemdbiplfkgacGreatLPlain
namespace Go.Proofs.YtfpemdbiplfkgacGreat
open Go.RowKit

/-- Nothing that was there has changed but blocks of S. -/
structure Kept (S : Nat → Prop) (w w' : World) : Prop where
  os : w'.os = w.os
  tape : w'.tape = w.tape
  output : w'.output = w.output
  size : w.heap.size ≤ w'.heap.size
  block : ∀ k, k < w.heap.size → ¬ S k → w'.heap[k]? = w.heap[k]?

theorem Kept.refl (S : Nat → Prop) (w : World) : Kept S w w := ⟨rfl, rfl, rfl, Nat.le_refl _, fun _ _ _ => rfl⟩

theorem Kept.of_below {S : Nat → Prop} {w w' : World} (h : Below w.heap.size w w') : Kept S w w' := ⟨h.os, h.tape, h.output, h.size, fun k hk _ => h.block k hk⟩

/-- What a log owns behind a call: what it owned, and what is new. -/
def grow (S : Nat → Prop) (w w' : World) : Nat → Prop := fun k => S k ∨ (w.heap.size ≤ k ∧ k < w'.heap.size)

theorem Kept.trans {S : Nat → Prop} {a b c : World} (h : Kept S a b) (k : Kept (grow S a b) b c) : Kept S a c :=
  ⟨k.os.trans h.os, k.tape.trans h.tape, k.output.trans h.output, Nat.le_trans h.size k.size, fun i hi hs => (k.block i (Nat.lt_of_lt_of_le hi h.size) (fun e => e.elim hs (fun e => by omega))).trans (h.block i hi hs)⟩

theorem Kept.trans' {S : Nat → Prop} {a b c : World} (h : Kept S a b) (k : Kept S b c) : Kept S a c :=
  ⟨k.os.trans h.os, k.tape.trans h.tape, k.output.trans h.output, Nat.le_trans h.size k.size, fun i hi hs => (k.block i (Nat.lt_of_lt_of_le hi h.size) hs).trans (h.block i hi hs)⟩

theorem Kept.below {S : Nat → Prop} {base : Nat} {w w' : World} (h : Kept S w w') (hb : ∀ k, S k → base ≤ k) (hs : base ≤ w.heap.size) : Below base w w' :=
  ⟨h.os, h.tape, h.output, h.size, fun k hk => h.block k (by omega) (fun e => by have := hb k e; omega)⟩

theorem Kept.set {S : Nat → Prop} {w w' : World} (h : Kept S w w') {p : Addr} (hp : S p.block) (u : Value) : Kept S w (w'.setCell p u) :=
  ⟨h.os, h.tape, h.output, by simpa [World.setCell] using h.size, fun k hk hs => by
    rw [Below.heap_setCell w' p u k (fun e => hs (by rw [e]; exact hp))]
    exact h.block k hk hs⟩

theorem Kept.after {S : Nat → Prop} {a b c : World} (h : Kept S a b) (hb : Below b.heap.size b c) : Kept S a c := h.trans' (.of_below hb)

theorem Kept.drewN {S : Nat → Prop} {a b : World} (h : Kept S a b) (n : Nat) : Kept S a (b.drewN n) := h.after (below_drewN (Below.refl _ _) n)

theorem Kept.grown {S : Nat → Prop} {a b c : World} {row : Option Nat} (h : Kept S a b) (hg : b.grownBy c row) (hr : ∀ k, row = some k → S k ∨ a.heap.size ≤ k) : Kept S a c :=
  ⟨hg.os.trans h.os, hg.tape.trans h.tape, hg.output.trans h.output, Nat.le_trans h.size hg.size, fun k hk hs => by
    rw [hg.block k (Nat.lt_of_lt_of_le hk h.size) (fun e => by rcases hr k e.symm with x | x; exact hs x; omega)]
    exact h.block k hk hs⟩

/-- The cells of a log: seats, and where its deeds and its list are. -/
structure LogC (w : World) (G : Nat) (dv lv : Value) (b : Bk) : Prop where
  lt : G < w.heap.size
  here : ∀ j, j < 4 → w.cell? ⟨G, j * 3, none⟩ = some (.bool (b.here j))
  last : ∀ j, j < 4 → w.cell? ⟨G, j * 3 + 1, none⟩ = some (.int .i64 (b.last j))
  said : ∀ j, j < 4 → w.cell? ⟨G, j * 3 + 2, none⟩ = some (.int .i64 (b.said j))
  deeds : w.cell? ⟨G, 12, none⟩ = some dv
  list : w.cell? ⟨G, 13, none⟩ = some lv
  free : ∀ o, o < 14 → w.frozen? ⟨G, o, none⟩ = false

/-- A log in memory, in blocks of S. -/
structure LogAt (w : World) (base : Nat) (S : Nat → Prop) (G : Nat) (dv lv : Value) (b : Bk) : Prop where
  lo : ∀ k, S k → base ≤ k ∧ k < w.heap.size
  hG : S G
  cells : LogC w G dv lv b
  ownD : OwnD w base dv b.ds
  ownL : Own w base lv b.chars
  dB : ∀ k, dv.ownBlock = some k → S k ∧ k ≠ G
  lB : ∀ k, lv.ownBlock = some k → S k ∧ k ≠ G ∧ dv.ownBlock ≠ some k

theorem LogC.kept {w w' : World} {G : Nat} {dv lv : Value} {b : Bk} (h : LogC w G dv lv b) (hs : w.heap.size ≤ w'.heap.size) (hb : w'.heap[G]? = w.heap[G]?) : LogC w' G dv lv b := by
  have hc : ∀ o, w'.cell? ⟨G, o, none⟩ = w.cell? ⟨G, o, none⟩ := fun o => World.cell?_of_block (a := ⟨G, o, none⟩) hb
  have hf : ∀ o, w'.frozen? ⟨G, o, none⟩ = w.frozen? ⟨G, o, none⟩ := fun o => World.frozen?_of_block (a := ⟨G, o, none⟩) hb
  exact ⟨Nat.lt_of_lt_of_le h.lt hs, fun j hj => by rw [hc]; exact h.here j hj, fun j hj => by rw [hc]; exact h.last j hj, fun j hj => by rw [hc]; exact h.said j hj, by rw [hc]; exact h.deeds, by rw [hc]; exact h.list, fun o ho => by rw [hf]; exact h.free o ho⟩

theorem owns_block {w w' : World} {base : Nat} {e : TypeId} {size n : Nat} {v : Value} {xs : List Value} (h : w.ownsRow base e size v n xs) (hb : ∀ k, v.ownBlock = some k → w'.heap[k]? = w.heap[k]?) : w'.ownsRow base e size v n xs := by
  refine ⟨h.1, ?_⟩
  rcases h.2 with hn | ⟨g, cap, cur, rfl, hb', hgg, rest⟩
  · exact .inl hn
  · exact .inr ⟨g, cap, cur, rfl, hb', by rw [hb g rfl]; exact hgg, rest⟩

theorem LogAt.kept {w w' : World} {base G : Nat} {S T : Nat → Prop} {dv lv : Value} {b : Bk} (h : LogAt w base S G dv lv b) (hk : Kept T w w') (hd : ∀ k, S k → ¬ T k) : LogAt w' base S G dv lv b := by
  have hb : ∀ k, S k → w'.heap[k]? = w.heap[k]? := fun k hs => hk.block k (h.lo k hs).2 (hd k hs)
  exact ⟨fun k hs => ⟨(h.lo k hs).1, Nat.lt_of_lt_of_le (h.lo k hs).2 hk.size⟩, h.hG, h.cells.kept hk.size (hb G h.hG), owns_block h.ownD (fun k e => hb k (h.dB k e).1), owns_block h.ownL (fun k e => hb k (h.lB k e).1), h.dB, h.lB⟩

theorem LogAt.below {w w' : World} {base G : Nat} {S : Nat → Prop} {dv lv : Value} {b : Bk} (h : LogAt w base S G dv lv b) (hb : Below w.heap.size w w') : LogAt w' base S G dv lv b :=
  h.kept (T := fun _ => False) (.of_below hb) (fun _ _ e => e)

/-- The same cells, whatever the rest is: a seat that is written. -/
theorem LogAt.cells_of {w w' : World} {base G : Nat} {S : Nat → Prop} {dv lv : Value} {b b' : Bk} (h : LogAt w base S G dv lv b) (hk : ∀ k, k ≠ G → w'.heap[k]? = w.heap[k]?) (hs : w.heap.size ≤ w'.heap.size) (hc : LogC w' G dv lv b') (hd : b'.ds = b.ds) : LogAt w' base S G dv lv b' := by
  refine ⟨fun k hs' => ⟨(h.lo k hs').1, Nat.lt_of_lt_of_le (h.lo k hs').2 hs⟩, h.hG, hc, ?_, ?_, h.dB, h.lB⟩
  · rw [hd]; exact owns_block h.ownD (fun k e => hk k (h.dB k e).2)
  · rw [show b'.chars = b.chars by unfold Bk.chars; rw [hd]]; exact owns_block h.ownL (fun k e => hk k (h.lB k e).2.1)

theorem LogAt.grow {w w' : World} {base G : Nat} {S : Nat → Prop} {dv lv : Value} {b : Bk} (h : LogAt w' base S G dv lv b) (hb : base ≤ w.heap.size) : LogAt w' base (grow S w w') G dv lv b :=
  ⟨fun k hs => hs.elim (h.lo k) (fun e => ⟨by omega, e.2⟩), .inl h.hG, h.cells, h.ownD, h.ownL, fun k e => ⟨.inl (h.dB k e).1, (h.dB k e).2⟩, fun k e => ⟨.inl (h.lB k e).1, (h.lB k e).2⟩⟩

/-- The cells of a book. -/
structure BookC (w : World) (B : Nat) (dv : Value) (b : Bk) : Prop where
  lt : B < w.heap.size
  deeds : w.cell? ⟨B, 0, none⟩ = some dv
  here : ∀ j, j < 4 → w.cell? ⟨B, 1 + j, none⟩ = some (.bool (b.here j))
  last : ∀ j, j < 4 → w.cell? ⟨B, 5 + j, none⟩ = some (.int .i64 (b.last j))
  said : ∀ j, j < 4 → w.cell? ⟨B, 9 + j, none⟩ = some (.int .i64 (b.said j))
  free : ∀ o, o < 13 → w.frozen? ⟨B, o, none⟩ = false

structure BookAt (w : World) (base : Nat) (S : Nat → Prop) (B : Nat) (dv : Value) (b : Bk) : Prop where
  lo : ∀ k, S k → base ≤ k ∧ k < w.heap.size
  hB : S B
  cells : BookC w B dv b
  ownD : OwnD w base dv b.ds
  dB : ∀ k, dv.ownBlock = some k → S k ∧ k ≠ B

theorem BookC.kept {w w' : World} {B : Nat} {dv : Value} {b : Bk} (h : BookC w B dv b) (hs : w.heap.size ≤ w'.heap.size) (hb : w'.heap[B]? = w.heap[B]?) : BookC w' B dv b := by
  have hc : ∀ o, w'.cell? ⟨B, o, none⟩ = w.cell? ⟨B, o, none⟩ := fun o => World.cell?_of_block (a := ⟨B, o, none⟩) hb
  have hf : ∀ o, w'.frozen? ⟨B, o, none⟩ = w.frozen? ⟨B, o, none⟩ := fun o => World.frozen?_of_block (a := ⟨B, o, none⟩) hb
  exact ⟨Nat.lt_of_lt_of_le h.lt hs, by rw [hc]; exact h.deeds, fun j hj => by rw [hc]; exact h.here j hj, fun j hj => by rw [hc]; exact h.last j hj, fun j hj => by rw [hc]; exact h.said j hj, fun o ho => by rw [hf]; exact h.free o ho⟩

theorem BookAt.kept {w w' : World} {base B : Nat} {S T : Nat → Prop} {dv : Value} {b : Bk} (h : BookAt w base S B dv b) (hk : Kept T w w') (hd : ∀ k, S k → ¬ T k) : BookAt w' base S B dv b := by
  have hb : ∀ k, S k → w'.heap[k]? = w.heap[k]? := fun k hs => hk.block k (h.lo k hs).2 (hd k hs)
  exact ⟨fun k hs => ⟨(h.lo k hs).1, Nat.lt_of_lt_of_le (h.lo k hs).2 hk.size⟩, h.hB, h.cells.kept hk.size (hb B h.hB), owns_block h.ownD (fun k e => hb k (h.dB k e).1), h.dB⟩

theorem BookAt.below {w w' : World} {base B : Nat} {S : Nat → Prop} {dv : Value} {b : Bk} (h : BookAt w base S B dv b) (hb : Below w.heap.size w w') : BookAt w' base S B dv b :=
  h.kept (T := fun _ => False) (.of_below hb) (fun _ _ e => e)

theorem BookAt.cells_of {w w' : World} {base B : Nat} {S : Nat → Prop} {dv : Value} {b b' : Bk} (h : BookAt w base S B dv b) (hk : ∀ k, k ≠ B → w'.heap[k]? = w.heap[k]?) (hs : w.heap.size ≤ w'.heap.size) (hc : BookC w' B dv b') (hd : b'.ds = b.ds) : BookAt w' base S B dv b' := by
  refine ⟨fun k hs' => ⟨(h.lo k hs').1, Nat.lt_of_lt_of_le (h.lo k hs').2 hs⟩, h.hB, hc, ?_, h.dB⟩
  rw [hd]; exact owns_block h.ownD (fun k e => hk k (h.dB k e).2)

end Go.Proofs.YtfpemdbiplfkgacGreat
