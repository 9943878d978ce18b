/-
  A room: a log, writers that speak to it, and the same by the document; which blocks are whose. No walk.
-/
import Derived.Test.YtfpemdbiplfkgacWScC
import Derived.Test.YtfpemdbiplfkgacLgT
import Derived.Test.YtfpemdbiplfkgacTRel
import Derived.Deep.QuietTactic
import Derived.Deep.Cut
namespace Go.Proofs.Ytfpemdbiplfkgac
open Go.RowKit

/-- A room: the log, the writers with what they keep, and the writers by the document. -/
structure Rm where
  b : Bk
  p : Nat → Option (Wr × List (List Ch))
  s : Nat → Option Wr

def setP {α : Type} (f : Nat → Option α) (k : Nat) (x : Option α) : Nat → Option α := fun j => if j = k then x else f j
theorem setP_same {α : Type} (f : Nat → Option α) (k : Nat) (x : Option α) : setP f k x k = x := by simp [setP]
theorem setP_other {α : Type} (f : Nat → Option α) {j k : Nat} (x : Option α) (h : j ≠ k) : setP f k x j = f j := by simp [setP, h]

/-- The cells of a room. -/
structure RmC (w : World) (R G : Nat) (pw sc : Nat → Nat) (bare : Bool) (hp hs : Nat → Bool) : Prop where
  lt : R < w.heap.size
  log : w.cell? ⟨R, 0, none⟩ = some (.pointer (some ⟨G, 0, none⟩))
  wr : ∀ k, k < 4 → w.cell? ⟨R, 1 + k, none⟩ = some (ptrOf (hp k) (pw k))
  sc : ∀ k, k < 4 → w.cell? ⟨R, 5 + k, none⟩ = some (ptrOf (hs k) (sc k))
  bare : w.cell? ⟨R, 9, none⟩ = some (.bool bare)
  free : ∀ o, o < 10 → w.frozen? ⟨R, o, none⟩ = false

theorem RmC.kept {w w' : World} {R G : Nat} {pw sc : Nat → Nat} {bare : Bool} {hp hs : Nat → Bool} (h : RmC w R G pw sc bare hp hs) (hz : w.heap.size ≤ w'.heap.size) (hb : w'.heap[R]? = w.heap[R]?) : RmC w' R G pw sc bare hp hs := by
  have hc : ∀ o, w'.cell? ⟨R, o, none⟩ = w.cell? ⟨R, o, none⟩ := fun o => World.cell?_of_block (a := ⟨R, o, none⟩) hb
  have hf : ∀ o, w'.frozen? ⟨R, o, none⟩ = w.frozen? ⟨R, o, none⟩ := fun o => World.frozen?_of_block (a := ⟨R, o, none⟩) hb
  exact ⟨Nat.lt_of_lt_of_le h.lt hz, by rw [hc]; exact h.log, fun k hk => by rw [hc]; exact h.wr k hk, fun k hk => by rw [hc]; exact h.sc k hk, by rw [hc]; exact h.bare, fun o ho => by rw [hf]; exact h.free o ho⟩

/-- Whose a block is: 1 the log's, 2 + k and 6 + k a writer's, 10 the room's own. -/
def Of (ow : Nat → Nat) (i : Nat) (k : Nat) : Prop := ow k = i

structure RoomAt (w : World) (base R : Nat) (ow : Nat → Nat) (G : Nat) (pw sc : Nat → Nat) (bare : Bool) (m : Rm) : Prop where
  cells : RmC w R G pw sc bare (fun k => (m.p k).isSome) (fun k => (m.s k).isSome)
  own : ow R = 10
  lo : ∀ k, ow k ≠ 0 → base ≤ k ∧ k < w.heap.size
  log : ∃ dv lv, LogAt w base (Of ow 1) G dv lv m.b
  wr : ∀ k, k < 4 → ∀ r ts, m.p k = some (r, ts) → ∃ lv ov tvs, PwAt w base (Of ow (2 + k)) (pw k) lv ov tvs r.list r.opens ts r.me r.next r.seen r.sent
  sr : ∀ k, k < 4 → ∀ r, m.s k = some r → ∃ bv ov, ScAt w base (Of ow (6 + k)) (sc k) bv ov r.base r.opens r.me r.seen r.next r.sent

theorem RoomAt.base_le {w : World} {base R : Nat} {ow : Nat → Nat} {G : Nat} {pw sc : Nat → Nat} {bare : Bool} {m : Rm} (h : RoomAt w base R ow G pw sc bare m) : base ≤ w.heap.size := by
  have := h.lo R (by rw [h.own]; omega)
  omega

/-- Where nothing that was has turned. -/
theorem RoomAt.below {w w' : World} {base R : Nat} {ow : Nat → Nat} {G : Nat} {pw sc : Nat → Nat} {bare : Bool} {m : Rm} (h : RoomAt w base R ow G pw sc bare m) (hb : Below w.heap.size w w') : RoomAt w' base R ow G pw sc bare m := by
  refine ⟨h.cells.kept hb.size (hb.block _ h.cells.lt), h.own, fun k hk => ⟨(h.lo k hk).1, Nat.lt_of_lt_of_le (h.lo k hk).2 hb.size⟩, ?_, fun k hk r ts e => ?_, fun k hk r e => ?_⟩
  · obtain ⟨dv, lv, hl⟩ := h.log
    exact ⟨dv, lv, hl.below hb⟩
  · obtain ⟨lv, ov, tvs, hl⟩ := h.wr k hk r ts e
    exact ⟨lv, ov, tvs, hl.below hb⟩
  · obtain ⟨bv, ov, hl⟩ := h.sr k hk r e
    exact ⟨bv, ov, hl.below hb⟩

/-- What is new belongs to one of them. -/
def more (ow : Nat → Nat) (i : Nat) (w w' : World) : Nat → Nat := fun k => if k < w.heap.size then ow k else if k < w'.heap.size then i else 0

theorem more_of {ow : Nat → Nat} {i : Nat} {w w' : World} (hi : i ≠ 0) (hlo : ∀ k, ow k ≠ 0 → k < w.heap.size) (k : Nat) : grow (Of ow i) w w' k ↔ Of (more ow i w w') i k := by
  unfold grow Of more
  by_cases h1 : k < w.heap.size
  · rw [if_pos h1]
    constructor
    · rintro (h | h)
      · exact h
      · omega
    · intro h; exact .inl h
  · rw [if_neg h1]
    by_cases h2 : k < w'.heap.size
    · rw [if_pos h2]
      constructor
      · intro _; rfl
      · intro _; exact .inr ⟨by omega, h2⟩
    · rw [if_neg h2]
      constructor
      · rintro (h | h)
        · have := hlo k (by rw [h]; exact hi); omega
        · omega
      · intro h; exact absurd h.symm hi

theorem more_other {ow : Nat → Nat} {i j : Nat} {w w' : World} (hj : j ≠ 0) (hij : j ≠ i) (hlo : ∀ k, ow k ≠ 0 → k < w.heap.size) (k : Nat) : Of ow j k ↔ Of (more ow i w w') j k := by
  unfold Of more
  by_cases h1 : k < w.heap.size
  · rw [if_pos h1]
  · rw [if_neg h1]
    constructor
    · intro h
      have := hlo k (by rw [h]; exact hj); omega
    · intro h
      by_cases h2 : k < w'.heap.size
      · rw [if_pos h2] at h; exact absurd h.symm hij
      · rw [if_neg h2] at h; exact absurd h.symm hj

theorem more_lo {ow : Nat → Nat} {i base : Nat} {w w' : World} (hb : base ≤ w.heap.size) (hs : w.heap.size ≤ w'.heap.size) (hlo : ∀ k, ow k ≠ 0 → base ≤ k ∧ k < w.heap.size) : ∀ k, more ow i w w' k ≠ 0 → base ≤ k ∧ k < w'.heap.size := by
  intro k hk
  unfold more at hk
  by_cases h1 : k < w.heap.size
  · rw [if_pos h1] at hk
    have := hlo k hk; omega
  · rw [if_neg h1] at hk
    by_cases h2 : k < w'.heap.size
    · omega
    · rw [if_neg h2] at hk; exact absurd rfl hk

/-- What one of them did leaves all others. -/
theorem RoomAt.others {w w' : World} {base R : Nat} {ow : Nat → Nat} {G : Nat} {pw sc : Nat → Nat} {bare : Bool} {m : Rm} (h : RoomAt w base R ow G pw sc bare m) {i : Nat} (hi10 : i ≠ 10) (hk : Kept (Of ow i) w w') :
    RmC w' R G pw sc bare (fun k => (m.p k).isSome) (fun k => (m.s k).isSome) ∧ more ow i w w' R = 10 ∧ (∀ k, more ow i w w' k ≠ 0 → base ≤ k ∧ k < w'.heap.size) ∧
    (i ≠ 1 → ∃ dv lv, LogAt w' base (Of (more ow i w w') 1) G dv lv m.b) ∧
    (∀ k, k < 4 → i ≠ 2 + k → ∀ r ts, m.p k = some (r, ts) → ∃ lv ov tvs, PwAt w' base (Of (more ow i w w') (2 + k)) (pw k) lv ov tvs r.list r.opens ts r.me r.next r.seen r.sent) ∧
    (∀ k, k < 4 → i ≠ 6 + k → ∀ r, m.s k = some r → ∃ bv ov, ScAt w' base (Of (more ow i w w') (6 + k)) (sc k) bv ov r.base r.opens r.me r.seen r.next r.sent) := by
  have hlo' : ∀ k, ow k ≠ 0 → k < w.heap.size := fun k e => (h.lo k e).2
  have hml := more_lo (i := i) h.base_le hk.size h.lo
  have hdis : ∀ j, j ≠ i → ∀ k, Of ow j k → ¬ Of ow i k := fun j hj k e e' => hj (by unfold Of at e e'; rw [← e, e'])
  have hR := h.cells.lt
  refine ⟨h.cells.kept hk.size (hk.block R hR (fun e => by unfold Of at e; rw [h.own] at e; exact hi10 e.symm)), ?_, hml, fun h1 => ?_, fun k hk4 hne r ts e => ?_, fun k hk4 hne r e => ?_⟩
  · unfold more; rw [if_pos hR]; exact h.own
  · obtain ⟨dv, lv, hl⟩ := h.log
    exact ⟨dv, lv, (hl.kept hk (hdis 1 (Ne.symm h1))).mono (fun k e => (more_other (by omega) (Ne.symm h1) hlo' k).1 e) (fun k e => hml k (by unfold Of at e; rw [e]; omega))⟩
  · obtain ⟨lv, ov, tvs, hl⟩ := h.wr k hk4 r ts e
    exact ⟨lv, ov, tvs, (hl.kept hk (hdis _ (Ne.symm hne))).mono (fun j e => (more_other (by omega) (Ne.symm hne) hlo' j).1 e) (fun j e => hml j (by unfold Of at e; rw [e]; omega))⟩
  · obtain ⟨bv, ov, hl⟩ := h.sr k hk4 r e
    exact ⟨bv, ov, (hl.kept hk (hdis _ (Ne.symm hne))).mono (fun j e => (more_other (by omega) (Ne.symm hne) hlo' j).1 e) (fun j e => hml j (by unfold Of at e; rw [e]; omega))⟩

theorem RoomAt.logged {w w' : World} {base R : Nat} {ow : Nat → Nat} {G : Nat} {pw sc : Nat → Nat} {bare : Bool} {m : Rm} (h : RoomAt w base R ow G pw sc bare m) {b' : Bk} (ht : LogTo w base (Of ow 1) G b' w') : RoomAt w' base R (more ow 1 w w') G pw sc bare ⟨b', m.p, m.s⟩ := by
  obtain ⟨a1, a2, a3, _, a5, a6⟩ := h.others (i := 1) (by omega) ht.kept
  obtain ⟨dv, lv, hl⟩ := ht.at_
  exact ⟨a1, a2, a3, ⟨dv, lv, hl.mono (fun k e => (more_of (by omega) (fun k e => (h.lo k e).2) k).1 e) (fun k e => a3 k (by unfold Of at e; rw [e]; omega))⟩, fun k hk r ts e => a5 k hk (by omega) r ts e, fun k hk r e => a6 k hk (by omega) r e⟩

theorem RoomAt.wrote {w w' : World} {base R : Nat} {ow : Nat → Nat} {G : Nat} {pw sc : Nat → Nat} {bare : Bool} {m : Rm} (h : RoomAt w base R ow G pw sc bare m) {k : Nat} (hk : k < 4) {r r' : Wr} {ts ts' : List (List Ch)} (he : m.p k = some (r, ts)) (ht : PwTo w base (Of ow (2 + k)) (pw k) r'.list r'.opens ts' r'.me r'.next r'.seen r'.sent w') :
    RoomAt w' base R (more ow (2 + k) w w') G pw sc bare ⟨m.b, setP m.p k (some (r', ts')), m.s⟩ := by
  obtain ⟨a1, a2, a3, a4, a5, a6⟩ := h.others (i := 2 + k) (by omega) ht.kept
  obtain ⟨lv, ov, tvs, hl⟩ := ht.at_
  have hsome : (fun j => (setP m.p k (some (r', ts')) j).isSome) = fun j => (m.p j).isSome := by
    funext j
    by_cases hj : j = k
    · subst hj; rw [setP_same, he]; rfl
    · rw [setP_other _ _ hj]
  refine ⟨by show RmC w' R G pw sc bare (fun j => (setP m.p k (some (r', ts')) j).isSome) _; rw [hsome]; exact a1, a2, a3, a4 (by omega), fun j hj r0 ts0 e => ?_, fun j hj r0 e => a6 j hj (by omega) r0 e⟩
  by_cases hjk : j = k
  · subst hjk
    have e' : setP m.p j (some (r', ts')) j = some (r0, ts0) := e
    rw [setP_same] at e'
    obtain ⟨rfl, rfl⟩ := Prod.mk.inj (Option.some.inj e')
    exact ⟨lv, ov, tvs, hl.mono (fun i e => (more_of (by omega) (fun k e => (h.lo k e).2) i).1 e) (fun i e => a3 i (by unfold Of at e; rw [e]; omega))⟩
  · have e' : setP m.p k (some (r', ts')) j = some (r0, ts0) := e
    rw [setP_other _ _ hjk] at e'
    exact a5 j hj (by omega) r0 ts0 e'

theorem RoomAt.scribed {w w' : World} {base R : Nat} {ow : Nat → Nat} {G : Nat} {pw sc : Nat → Nat} {bare : Bool} {m : Rm} (h : RoomAt w base R ow G pw sc bare m) {k : Nat} (hk : k < 4) {r r' : Wr} (he : m.s k = some r) (ht : ScTo w base (Of ow (6 + k)) (sc k) r'.base r'.opens r'.me r'.seen r'.next r'.sent w') :
    RoomAt w' base R (more ow (6 + k) w w') G pw sc bare ⟨m.b, m.p, setP m.s k (some r')⟩ := by
  obtain ⟨a1, a2, a3, a4, a5, a6⟩ := h.others (i := 6 + k) (by omega) ht.kept
  obtain ⟨bv, ov, hl⟩ := ht.at_
  have hsome : (fun j => (setP m.s k (some r') j).isSome) = fun j => (m.s j).isSome := by
    funext j
    by_cases hj : j = k
    · subst hj; rw [setP_same, he]; rfl
    · rw [setP_other _ _ hj]
  refine ⟨by show RmC w' R G pw sc bare _ (fun j => (setP m.s k (some r') j).isSome); rw [hsome]; exact a1, a2, a3, a4 (by omega), fun j hj r0 ts0 e => a5 j hj (by omega) r0 ts0 e, fun j hj r0 e => ?_⟩
  by_cases hjk : j = k
  · subst hjk
    have e' : setP m.s j (some r') j = some r0 := e
    rw [setP_same] at e'
    obtain rfl := Option.some.inj e'
    exact ⟨bv, ov, hl.mono (fun i e => (more_of (by omega) (fun k e => (h.lo k e).2) i).1 e) (fun i e => a3 i (by unfold Of at e; rw [e]; omega))⟩
  · have e' : setP m.s k (some r') j = some r0 := e
    rw [setP_other _ _ hjk] at e'
    exact a6 j hj (by omega) r0 e'

/-! What always holds. -/

structure RmI (bare : Bool) (m : Rm) : Prop where
  good : Good m.b
  both : ∀ k, k < 4 → m.s k = (m.p k).map (·.1)
  none : ∀ k, k < 4 → m.p k = none → m.b.here k = false
  some : ∀ k, k < 4 → ∀ r ts, m.p k = some (r, ts) → r.me = k ∧ Rel r ts ∧ ∃ c, WI m.b c r ∧ (bare = true → c = 0)


end Go.Proofs.Ytfpemdbiplfkgac

/-
  A room with blocks that are nobody's; a step in memory; what a step makes of a room. No walk.
-/
namespace Go.Proofs.Ytfpemdbiplfkgac
open Go.RowKit

theorem more_old {ow : Nat → Nat} {i : Nat} {w w' : World} {k : Nat} (h : k < w.heap.size) : more ow i w w' k = ow k := by unfold more; rw [if_pos h]
theorem more_new {ow : Nat → Nat} {i : Nat} {w w' : World} {k : Nat} (h : w.heap.size ≤ k ∧ k < w'.heap.size) : more ow i w w' k = i := by unfold more; rw [if_neg (by omega), if_pos h.2]

def Room (base R G : Nat) (pw sc : Nat → Nat) (bare : Bool) (K : Nat → Prop) (m : Rm) (w : World) : Prop :=
  ∃ ow, RoomAt w base R ow G pw sc bare m ∧ ∀ k, K k → ow k = 11

section
variable {base R G : Nat} {pw sc : Nat → Nat} {bare : Bool} {K : Nat → Prop} {m : Rm} {w w' : World}

theorem Room.kl (h : Room base R G pw sc bare K m w) {k : Nat} (hk : K k) : base ≤ k ∧ k < w.heap.size := by
  obtain ⟨ow, h1, h2⟩ := h
  exact h1.lo k (by rw [h2 k hk]; omega)
theorem Room.base_le (h : Room base R G pw sc bare K m w) : base ≤ w.heap.size := by
  obtain ⟨ow, h1, h2⟩ := h
  exact h1.base_le
theorem Room.cells (h : Room base R G pw sc bare K m w) : RmC w R G pw sc bare (fun k => (m.p k).isSome) (fun k => (m.s k).isSome) := by
  obtain ⟨ow, h1, h2⟩ := h
  exact h1.cells
theorem Room.hR (h : Room base R G pw sc bare K m w) : base ≤ R ∧ ¬ K R := by
  obtain ⟨ow, h1, h2⟩ := h
  exact ⟨(h1.lo R (by rw [h1.own]; omega)).1, fun e => by have := h2 R e; rw [h1.own] at this; omega⟩
theorem Room.after (h : Room base R G pw sc bare K m w) (hb : Below w.heap.size w w') : Room base R G pw sc bare K m w' := by
  obtain ⟨ow, h1, h2⟩ := h
  exact ⟨ow, h1.below hb, h2⟩

theorem RoomAt.turn {ow : Nat → Nat} (h : RoomAt w base R ow G pw sc bare m) (hk : Kept (Of ow 11) w w') : RoomAt w' base R (more ow 11 w w') G pw sc bare m := by
  obtain ⟨a1, a2, a3, a4, a5, a6⟩ := h.others (i := 11) (by omega) hk
  exact ⟨a1, a2, a3, a4 (by omega), fun k hk4 r ts e => a5 k hk4 (by omega) r ts e, fun k hk4 r e => a6 k hk4 (by omega) r e⟩

theorem Room.add {K' : Nat → Prop} (h : Room base R G pw sc bare K m w) (hb : Below w.heap.size w w') (hK : ∀ k, K' k → K k ∨ (w.heap.size ≤ k ∧ k < w'.heap.size)) : Room base R G pw sc bare K' m w' := by
  have hkl := fun k e => (h.kl (k := k) e).2
  obtain ⟨ow, h1, h2⟩ := h
  refine ⟨more ow 11 w w', h1.turn (.of_below hb), fun k e => ?_⟩
  rcases hK k e with e | e
  · rw [more_old (hkl k e)]; exact h2 k e
  · exact more_new e

theorem Room.less {K' : Nat → Prop} (h : Room base R G pw sc bare K m w) (hK : ∀ k, K' k → K k) : Room base R G pw sc bare K' m w := by
  obtain ⟨ow, h1, h2⟩ := h
  exact ⟨ow, h1, fun k e => h2 k (hK k e)⟩

theorem Room.wrote (h : Room base R G pw sc bare K m w) {p : Addr} (hp : K p.block) (u : Value) : Room base R G pw sc bare K m (w.setCell p u) := by
  have hkl := fun k e => (h.kl (k := k) e).2
  obtain ⟨ow, h1, h2⟩ := h
  exact ⟨_, h1.turn (Kept.set (S := Of ow 11) (Kept.refl _ w) (p := p) (h2 _ hp) u), fun k e => by rw [more_old (hkl k e)]; exact h2 k e⟩

theorem kept_stay {ow : Nat → Nat} {i : Nat} (hi : i ≠ 11) (h2 : ∀ k, K k → ow k = 11) (hlo : ∀ k, ow k ≠ 0 → base ≤ k ∧ k < w.heap.size) (hb : base ≤ w.heap.size) (hk : Kept (Of ow i) w w') (h0 : i ≠ 0) : (∀ k, K k → w'.heap[k]? = w.heap[k]?) ∧ Below base w w' ∧ ∀ k, K k → more ow i w w' k = 11 := by
  have hkl : ∀ k, K k → k < w.heap.size := fun k e => (hlo k (by rw [h2 k e]; omega)).2
  exact ⟨fun k e => hk.block k (hkl k e) (fun e' => hi (by unfold Of at e'; rw [← e', h2 k e])), hk.below (fun k e => (hlo k (by unfold Of at e; rw [e]; exact h0)).1) hb, fun k e => by rw [more_old (hkl k e)]; exact h2 k e⟩

theorem Room.log (h : Room base R G pw sc bare K m w) : ∃ S dv lv, LogAt w base S G dv lv m.b ∧ ∀ b' w', LogTo w base S G b' w' → Room base R G pw sc bare K ⟨b', m.p, m.s⟩ w' ∧ (∀ k, K k → w'.heap[k]? = w.heap[k]?) ∧ Below base w w' := by
  obtain ⟨ow, h1, h2⟩ := h
  obtain ⟨dv, lv, hl⟩ := h1.log
  refine ⟨_, dv, lv, hl, fun b' w' ht => ?_⟩
  obtain ⟨k1, k2, k3⟩ := kept_stay (by omega) h2 h1.lo h1.base_le ht.kept (by omega)
  exact ⟨⟨_, h1.logged ht, k3⟩, k1, k2⟩

theorem Room.wr (h : Room base R G pw sc bare K m w) {k : Nat} (hk : k < 4) {r : Wr} {ts : List (List Ch)} (he : m.p k = some (r, ts)) :
    ∃ S lv ov tvs, PwAt w base S (pw k) lv ov tvs r.list r.opens ts r.me r.next r.seen r.sent ∧ ∀ (r' : Wr) ts' w', PwTo w base S (pw k) r'.list r'.opens ts' r'.me r'.next r'.seen r'.sent w' → Room base R G pw sc bare K ⟨m.b, setP m.p k (some (r', ts')), m.s⟩ w' ∧ (∀ k, K k → w'.heap[k]? = w.heap[k]?) ∧ Below base w w' := by
  obtain ⟨ow, h1, h2⟩ := h
  obtain ⟨lv, ov, tvs, hl⟩ := h1.wr k hk r ts he
  refine ⟨_, lv, ov, tvs, hl, fun r' ts' w' ht => ?_⟩
  obtain ⟨k1, k2, k3⟩ := kept_stay (by omega) h2 h1.lo h1.base_le ht.kept (by omega)
  exact ⟨⟨_, h1.wrote hk he ht, k3⟩, k1, k2⟩

theorem Room.scr (h : Room base R G pw sc bare K m w) {k : Nat} (hk : k < 4) {r : Wr} (he : m.s k = some r) :
    ∃ S bv ov, ScAt w base S (sc k) bv ov r.base r.opens r.me r.seen r.next r.sent ∧ ∀ (r' : Wr) w', ScTo w base S (sc k) r'.base r'.opens r'.me r'.seen r'.next r'.sent w' → Room base R G pw sc bare K ⟨m.b, m.p, setP m.s k (some r')⟩ w' ∧ (∀ k, K k → w'.heap[k]? = w.heap[k]?) ∧ Below base w w' := by
  obtain ⟨ow, h1, h2⟩ := h
  obtain ⟨bv, ov, hl⟩ := h1.sr k hk r he
  refine ⟨_, bv, ov, hl, fun r' w' ht => ?_⟩
  obtain ⟨k1, k2, k3⟩ := kept_stay (by omega) h2 h1.lo h1.base_le ht.kept (by omega)
  exact ⟨⟨_, h1.scribed hk he ht, k3⟩, k1, k2⟩

end

/-! One that comes. -/

theorem RmC.setW {w : World} {R G : Nat} {pw sc : Nat → Nat} {bare : Bool} {hp hs : Nat → Bool} (h : RmC w R G pw sc bare hp hs) {k : Nat} (hk : k < 4) (P : Nat) : RmC (w.setCell ⟨R, 1 + k, none⟩ (.pointer (some ⟨P, 0, none⟩))) R G (setN pw k P) sc bare (setH hp k) hs := by
  have hl := h.log
  have hb := h.bare
  refine ⟨by simpa using h.lt, ?_, fun j hj => ?_, fun j hj => ?_, ?_, fun o ho => ?_⟩
  · simp [go_sem, hl]
  · have h1 := h.wr j hj
    by_cases e : j = k
    · subst e
      simp [go_sem, h1, setN, setH, ptrOf]
    · simp [go_sem, h1, setN, setH, e]
  · have h1 := h.sc j hj
    simp [go_sem, h1]
  · simp [go_sem, hb]
  · simpa [go_sem] using h.free o ho

theorem RmC.setS {w : World} {R G : Nat} {pw sc : Nat → Nat} {bare : Bool} {hp hs : Nat → Bool} (h : RmC w R G pw sc bare hp hs) {k : Nat} (hk : k < 4) (P : Nat) : RmC (w.setCell ⟨R, 5 + k, none⟩ (.pointer (some ⟨P, 0, none⟩))) R G pw (setN sc k P) bare hp (setH hs k) := by
  have hl := h.log
  have hb := h.bare
  refine ⟨by simpa using h.lt, ?_, fun j hj => ?_, fun j hj => ?_, ?_, fun o ho => ?_⟩
  · simp [go_sem, hl]
  · have h1 := h.wr j hj
    simp [go_sem, h1]
  · have h1 := h.sc j hj
    by_cases e : j = k
    · subst e
      simp [go_sem, h1, setN, setH, ptrOf]
    · simp [go_sem, h1, setN, setH, e]
  · simp [go_sem, hb]
  · simpa [go_sem] using h.free o ho

theorem setP_some {α : Type} (f : Nat → Option α) (k : Nat) (x : α) : (fun j => (setP f k (some x) j).isSome) = setH (fun j => (f j).isSome) k := by
  funext j
  unfold setP setH
  by_cases e : j = k
  · rw [if_pos e, if_pos e]; rfl
  · rw [if_neg e, if_neg e]

section
variable {base R G : Nat} {pw sc : Nat → Nat} {bare : Bool} {K : Nat → Prop} {m : Rm} {w w' : World}

theorem ScAt.lower {base base' Q : Nat} {S : Nat → Prop} {bv ov : Value} {l : List Ch} {me seen next sent : Int} (h : ScAt w base S Q bv ov l [] me seen next sent) (hb : base' ≤ base) (ho : OwnD w base' ov []) : ScAt w base' S Q bv ov l [] me seen next sent :=
  ⟨fun k e => ⟨by have := (h.lo k e).1; omega, (h.lo k e).2⟩, h.hQ, h.cells, h.ownB.mono hb, ho, h.bB, h.oB⟩

/-- The room's own cells are written. -/
theorem RoomAt.rest {ow : Nat → Nat} (h : RoomAt w base R ow G pw sc bare m) (o : Nat) (u : Value) :
    (∃ dv lv, LogAt (w.setCell ⟨R, o, none⟩ u) base (Of ow 1) G dv lv m.b) ∧ (∀ k, k < 4 → ∀ r ts, m.p k = some (r, ts) → ∃ lv ov tvs, PwAt (w.setCell ⟨R, o, none⟩ u) base (Of ow (2 + k)) (pw k) lv ov tvs r.list r.opens ts r.me r.next r.seen r.sent) ∧
    (∀ k, k < 4 → ∀ r, m.s k = some r → ∃ bv ov, ScAt (w.setCell ⟨R, o, none⟩ u) base (Of ow (6 + k)) (sc k) bv ov r.base r.opens r.me r.seen r.next r.sent) := by
  have hk : Kept (fun k => k = R) w (w.setCell ⟨R, o, none⟩ u) := Kept.set (S := fun k => k = R) (Kept.refl _ w) (p := ⟨R, o, none⟩) rfl u
  have hd : ∀ i, i ≠ 10 → ∀ k, Of ow i k → ¬ k = R := fun i hi k e e' => hi (by unfold Of at e; rw [← e, e', h.own])
  refine ⟨?_, fun k hk4 r ts e => ?_, fun k hk4 r e => ?_⟩
  · obtain ⟨dv, lv, hl⟩ := h.log
    exact ⟨dv, lv, hl.kept hk (hd _ (by omega))⟩
  · obtain ⟨lv, ov, tvs, hl⟩ := h.wr k hk4 r ts e
    exact ⟨lv, ov, tvs, hl.kept hk (hd _ (by omega))⟩
  · obtain ⟨bv, ov, hl⟩ := h.sr k hk4 r e
    exact ⟨bv, ov, hl.kept hk (hd _ (by omega))⟩

theorem Room.newW (h : Room base R G pw sc bare K m w) (hb : Below w.heap.size w w') {k : Nat} (hk : k < 4) {P : Nat} {v1 : Value} {r : Wr} (hr : r.opens = []) (hs : r.sent = 0) (hat : PwAt w' w.heap.size (fun k => w.heap.size ≤ k ∧ k < w'.heap.size) P v1 (.slice none 0 0) [] r.base [] [] r.me r.next r.seen 0) (hn : m.p k = none) :
    Room base R G (setN pw k P) sc bare K ⟨m.b, setP m.p k (some (r, [])), m.s⟩ (w'.setCell ⟨R, 1 + k, none⟩ (.pointer (some ⟨P, 0, none⟩))) := by
  obtain ⟨ow, h1, h2⟩ := h
  obtain ⟨a1, a2, a3, a4, a5, a6⟩ := h1.others (i := 2 + k) (by omega) (.of_below hb)
  obtain ⟨k1, k2, k3⟩ := kept_stay (by omega) h2 h1.lo h1.base_le (.of_below (S := Of ow (2 + k)) hb) (by omega)
  have hrl : r.list = r.base := by unfold Wr.list; rw [hr]; rfl
  have hat' : PwAt w' base (Of (more ow (2 + k) w w') (2 + k)) P v1 (.slice none 0 0) [] r.list r.opens [] r.me r.next r.seen r.sent := by
    rw [hrl, hr, hs]
    exact (hat.lower rfl rfl h1.base_le).mono (fun j e => more_new e) (fun j e => a3 j (by unfold Of at e; rw [e]; omega))
  have hat2 : PwAt w' base (Of (more ow (2 + k) w w') (2 + k)) (setN pw k P k) v1 (.slice none 0 0) [] r.list r.opens [] r.me r.next r.seen r.sent := by
    unfold setN; rw [if_pos rfl]; exact hat'
  have hall : RoomAt w' base R (more ow (2 + k) w w') G pw sc bare m := by
    refine ⟨a1, a2, a3, a4 (by omega), fun j hj r0 ts0 e => ?_, fun j hj r0 e => a6 j hj (by omega) r0 e⟩
    by_cases hjk : j = k
    · subst hjk; rw [hn] at e; cases e
    · exact a5 j hj (by omega) r0 ts0 e
  obtain ⟨q1, q2, q3⟩ := hall.rest (1 + k) (.pointer (some ⟨P, 0, none⟩))
  refine ⟨more ow (2 + k) w w', ⟨?_, a2, fun j e => by simpa [World.setCell] using a3 j e, q1, fun j hj r0 ts0 e => ?_, fun j hj r0 e => q3 j hj r0 e⟩, k3⟩
  · show RmC _ R G (setN pw k P) sc bare (fun j => (setP m.p k (some (r, [])) j).isSome) _
    rw [setP_some]
    exact a1.setW hk P
  · have e' : setP m.p k (some (r, [])) j = some (r0, ts0) := e
    by_cases hjk : j = k
    · subst hjk
      rw [setP_same] at e'
      obtain ⟨rfl, rfl⟩ := Prod.mk.inj (Option.some.inj e')
      have hkp : Kept (fun i => i = R) w' (w'.setCell ⟨R, 1 + j, none⟩ (.pointer (some ⟨P, 0, none⟩))) := Kept.set (S := fun i => i = R) (Kept.refl _ w') (p := ⟨R, 1 + j, none⟩) rfl _
      exact ⟨_, _, _, hat2.kept hkp (fun i e e' => by unfold Of at e; rw [e', a2] at e; omega)⟩
    · rw [setP_other _ _ hjk] at e'
      obtain ⟨lv, ov, tvs, hl⟩ := q2 j hj r0 ts0 e'
      exact ⟨lv, ov, tvs, by unfold setN; rw [if_neg hjk]; exact hl⟩

theorem Room.newS (h : Room base R G pw sc bare K m w) (hb : Below w.heap.size w w') {k : Nat} (hk : k < 4) {Q : Nat} {v1 : Value} {r : Wr} (hr : r.opens = []) (hs : r.sent = 0) (hat : ScAt w' w.heap.size (fun k => w.heap.size ≤ k ∧ k < w'.heap.size) Q v1 (.slice none 0 0) r.base [] r.me r.seen r.next 0) (hn : m.s k = none) :
    Room base R G pw (setN sc k Q) bare K ⟨m.b, m.p, setP m.s k (some r)⟩ (w'.setCell ⟨R, 5 + k, none⟩ (.pointer (some ⟨Q, 0, none⟩))) := by
  obtain ⟨ow, h1, h2⟩ := h
  obtain ⟨a1, a2, a3, a4, a5, a6⟩ := h1.others (i := 6 + k) (by omega) (.of_below hb)
  obtain ⟨k1, k2, k3⟩ := kept_stay (by omega) h2 h1.lo h1.base_le (.of_below (S := Of ow (6 + k)) hb) (by omega)
  have hat' : ScAt w' base (Of (more ow (6 + k) w w') (6 + k)) Q v1 (.slice none 0 0) r.base r.opens r.me r.seen r.next r.sent := by
    rw [hr, hs]
    exact (hat.lower h1.base_le (World.ownsRow_nil _ _ _ _)).mono (fun j e => more_new e) (fun j e => a3 j (by unfold Of at e; rw [e]; omega))
  have hat2 : ScAt w' base (Of (more ow (6 + k) w w') (6 + k)) (setN sc k Q k) v1 (.slice none 0 0) r.base r.opens r.me r.seen r.next r.sent := by
    unfold setN; rw [if_pos rfl]; exact hat'
  have hall : RoomAt w' base R (more ow (6 + k) w w') G pw sc bare m := by
    refine ⟨a1, a2, a3, a4 (by omega), fun j hj r0 ts0 e => a5 j hj (by omega) r0 ts0 e, fun j hj r0 e => ?_⟩
    by_cases hjk : j = k
    · subst hjk; rw [hn] at e; cases e
    · exact a6 j hj (by omega) r0 e
  obtain ⟨q1, q2, q3⟩ := hall.rest (5 + k) (.pointer (some ⟨Q, 0, none⟩))
  refine ⟨more ow (6 + k) w w', ⟨?_, a2, fun j e => by simpa [World.setCell] using a3 j e, q1, fun j hj r0 ts0 e => q2 j hj r0 ts0 e, fun j hj r0 e => ?_⟩, k3⟩
  · show RmC _ R G pw (setN sc k Q) bare _ (fun j => (setP m.s k (some r) j).isSome)
    rw [setP_some]
    exact a1.setS hk Q
  · have e' : setP m.s k (some r) j = some r0 := e
    by_cases hjk : j = k
    · subst hjk
      rw [setP_same] at e'
      obtain rfl := Option.some.inj e'
      have hkp : Kept (fun i => i = R) w' (w'.setCell ⟨R, 5 + j, none⟩ (.pointer (some ⟨Q, 0, none⟩))) := Kept.set (S := fun i => i = R) (Kept.refl _ w') (p := ⟨R, 5 + j, none⟩) rfl _
      exact ⟨_, _, hat2.kept hkp (fun i e e' => by unfold Of at e; rw [e', a2] at e; omega)⟩
    · rw [setP_other _ _ hjk] at e'
      obtain ⟨bv, ov, hl⟩ := q3 j hj r0 e'
      exact ⟨bv, ov, by unfold setN; rw [if_neg hjk]; exact hl⟩

end

/-! A step, in memory. -/

structure RStep where
  do_ : Int
  w : Int
  at_ : Int
  many : Int
  text : ByteArray

structure RsAt (w : World) (B o : Nat) (x : RStep) : Prop where
  lt : B < w.heap.size
  c0 : w.cell? ⟨B, o, none⟩ = some (.int .i64 x.do_)
  c1 : w.cell? ⟨B, o + 1, none⟩ = some (.int .i64 x.w)
  c2 : w.cell? ⟨B, o + 2, none⟩ = some (.int .i64 x.at_)
  c3 : w.cell? ⟨B, o + 3, none⟩ = some (.int .i64 x.many)
  c4 : w.cell? ⟨B, o + 4, none⟩ = some (.string x.text)

abbrev rsCells (x : RStep) : Array Value := #[.int .i64 x.do_, .int .i64 x.w, .int .i64 x.at_, .int .i64 x.many, .string x.text]
abbrev rsV (x : RStep) : Value := .agg (rsCells x)

theorem rsat_start (w : World) (x : RStep) : RsAt (w.alloc (.cells (rsCells x) 28)) w.heap.size 0 x := by
  refine ⟨by simp, ?_, ?_, ?_, ?_, ?_⟩ <;> simp [go_sem]

theorem RsAt.of_block {w w' : World} {B o : Nat} {x : RStep} (h : RsAt w B o x) (hs : B < w'.heap.size) (hb : w'.heap[B]? = w.heap[B]?) : RsAt w' B o x := by
  have hc : ∀ o, w'.cell? ⟨B, o, none⟩ = w.cell? ⟨B, o, none⟩ := fun o => World.cell?_of_block (a := ⟨B, o, none⟩) hb
  obtain ⟨_, c0, c1, c2, c3, c4⟩ := h
  refine ⟨hs, ?_, ?_, ?_, ?_, ?_⟩ <;> rw [hc] <;> assumption

theorem RsAt.below {w w' : World} {B o : Nat} {x : RStep} (h : RsAt w B o x) (hb : Below w.heap.size w w') : RsAt w' B o x := h.of_block (Nat.lt_of_lt_of_le h.lt hb.size) (hb.block _ h.lt)

/-! In the middle of a step: the room, the step in its box, and deeds in theirs. -/

def Kb (w : World) (K : Nat → Prop) (bx : List (Nat × Dd)) : Nat → Prop := fun k => K k ∨ k = w.heap.size ∨ ∃ p ∈ bx, p.1 = k

structure RIn (w : World) (base R G : Nat) (pw sc : Nat → Nat) (bare : Bool) (K : Nat → Prop) (m : Rm) (x : RStep) (bx : List (Nat × Dd)) (wk : World) : Prop where
  room : Room base R G pw sc bare (Kb w K bx) m wk
  step : RsAt wk w.heap.size 0 x
  deeds : ∀ p ∈ bx, DdAt wk p.1 0 p.2
  below : Below base w wk
  stay : ∀ k, K k → wk.heap[k]? = w.heap[k]?

section
variable {base R G : Nat} {pw sc : Nat → Nat} {bare : Bool} {K : Nat → Prop} {m : Rm} {w wk w' : World} {x : RStep} {bx : List (Nat × Dd)}

theorem rin_start (h : Room base R G pw sc bare K m w) (x : RStep) : RIn w base R G pw sc bare K m x [] (w.alloc (.cells (rsCells x) 28)) := by
  refine ⟨h.add (below1 _ _) (fun k e => ?_), rsat_start w x, fun p hp => (by cases hp), (below1 _ _).mono h.base_le, fun k e => (below1 _ _).block k (h.kl e).2⟩
  rcases e with e | e | ⟨p, hp, _⟩
  · exact .inl e
  · exact .inr ⟨by omega, by simp; omega⟩
  · cases hp

theorem RIn.after (h : RIn w base R G pw sc bare K m x bx wk) (hb : Below wk.heap.size wk w') : RIn w base R G pw sc bare K m x bx w' :=
  ⟨h.room.after hb, h.step.below hb, fun p hp => (h.deeds p hp).below hb, h.below.trans (hb.mono h.room.base_le), fun k e => by rw [hb.block k (h.room.kl (.inl e)).2]; exact h.stay k e⟩

theorem RIn.box (h : RIn w base R G pw sc bare K m x bx wk) (hb : Below wk.heap.size wk w') {d : Dd} (hd : DdAt w' wk.heap.size 0 d) : RIn w base R G pw sc bare K m x ((wk.heap.size, d) :: bx) w' := by
  have ha := h.after hb
  refine ⟨h.room.add hb (fun k e => ?_), ha.step, fun p hp => ?_, ha.below, ha.stay⟩
  · rcases e with e | e | ⟨p, hp, e⟩
    · exact .inl (.inl e)
    · exact .inl (.inr (.inl e))
    · rcases List.mem_cons.1 hp with rfl | hp
      · exact .inr ⟨by simp at e; omega, by have := hd.lt; simp at e; omega⟩
      · exact .inl (.inr (.inr ⟨p, hp, e⟩))
  · rcases List.mem_cons.1 hp with rfl | hp
    · exact hd
    · exact ha.deeds p hp

/-- A turn of the room. -/
theorem RIn.turned {pw' sc' : Nat → Nat} {m' : Rm} (h : RIn w base R G pw sc bare K m x bx wk) (ht : Room base R G pw' sc' bare (Kb w K bx) m' w' ∧ (∀ k, Kb w K bx k → w'.heap[k]? = wk.heap[k]?) ∧ Below base wk w') : RIn w base R G pw' sc' bare K m' x bx w' :=
  ⟨ht.1, h.step.of_block (ht.1.kl (.inr (.inl rfl))).2 (ht.2.1 _ (.inr (.inl rfl))), fun p hp => (h.deeds p hp).of_block (ht.1.kl (.inr (.inr ⟨p, hp, rfl⟩))).2 (ht.2.1 _ (.inr (.inr ⟨p, hp, rfl⟩))), h.below.trans ht.2.2, fun k e => (ht.2.1 k (.inl e)).trans (h.stay k e)⟩

theorem RIn.log (h : RIn w base R G pw sc bare K m x bx wk) : ∃ S dv lv, LogAt wk base S G dv lv m.b ∧ ∀ b' w', LogTo wk base S G b' w' → RIn w base R G pw sc bare K ⟨b', m.p, m.s⟩ x bx w' := by
  obtain ⟨S, dv, lv, h1, h2⟩ := h.room.log
  exact ⟨S, dv, lv, h1, fun b' w' ht => h.turned (h2 b' w' ht)⟩

theorem RIn.wr (h : RIn w base R G pw sc bare K m x bx wk) {k : Nat} (hk : k < 4) {r : Wr} {ts : List (List Ch)} (he : m.p k = some (r, ts)) :
    ∃ S lv ov tvs, PwAt wk base S (pw k) lv ov tvs r.list r.opens ts r.me r.next r.seen r.sent ∧ ∀ (r' : Wr) ts' w', PwTo wk base S (pw k) r'.list r'.opens ts' r'.me r'.next r'.seen r'.sent w' → RIn w base R G pw sc bare K ⟨m.b, setP m.p k (some (r', ts')), m.s⟩ x bx w' := by
  obtain ⟨S, lv, ov, tvs, h1, h2⟩ := h.room.wr hk he
  exact ⟨S, lv, ov, tvs, h1, fun r' ts' w' ht => h.turned (h2 r' ts' w' ht)⟩

theorem RIn.scr (h : RIn w base R G pw sc bare K m x bx wk) {k : Nat} (hk : k < 4) {r : Wr} (he : m.s k = some r) :
    ∃ S bv ov, ScAt wk base S (sc k) bv ov r.base r.opens r.me r.seen r.next r.sent ∧ ∀ (r' : Wr) w', ScTo wk base S (sc k) r'.base r'.opens r'.me r'.seen r'.next r'.sent w' → RIn w base R G pw sc bare K ⟨m.b, m.p, setP m.s k (some r')⟩ x bx w' := by
  obtain ⟨S, bv, ov, h1, h2⟩ := h.room.scr hk he
  exact ⟨S, bv, ov, h1, fun r' w' ht => h.turned (h2 r' w' ht)⟩

theorem RIn.newW (h : RIn w base R G pw sc bare K m x bx wk) (hb : Below wk.heap.size wk w') {k : Nat} (hk : k < 4) {P : Nat} {v1 : Value} {r : Wr} (hr : r.opens = []) (hs : r.sent = 0) (hat : PwAt w' wk.heap.size (fun k => wk.heap.size ≤ k ∧ k < w'.heap.size) P v1 (.slice none 0 0) [] r.base [] [] r.me r.next r.seen 0) (hn : m.p k = none) :
    RIn w base R G (setN pw k P) sc bare K ⟨m.b, setP m.p k (some (r, [])), m.s⟩ x bx (w'.setCell ⟨R, 1 + k, none⟩ (.pointer (some ⟨P, 0, none⟩))) := by
  have hR := h.room.hR
  refine h.turned ⟨h.room.newW hb hk hr hs hat hn, fun j e => ?_, (hb.mono h.room.base_le).trans ((Below.refl _ _).setCell (p := ⟨R, 1 + k, none⟩) hR.1 _)⟩
  rw [Below.heap_setCell _ _ _ _ (fun e' : j = R => hR.2 (e' ▸ e))]
  exact hb.block j (h.room.kl e).2

theorem RIn.newS (h : RIn w base R G pw sc bare K m x bx wk) (hb : Below wk.heap.size wk w') {k : Nat} (hk : k < 4) {Q : Nat} {v1 : Value} {r : Wr} (hr : r.opens = []) (hs : r.sent = 0) (hat : ScAt w' wk.heap.size (fun k => wk.heap.size ≤ k ∧ k < w'.heap.size) Q v1 (.slice none 0 0) r.base [] r.me r.seen r.next 0) (hn : m.s k = none) :
    RIn w base R G pw (setN sc k Q) bare K ⟨m.b, m.p, setP m.s k (some r)⟩ x bx (w'.setCell ⟨R, 5 + k, none⟩ (.pointer (some ⟨Q, 0, none⟩))) := by
  have hR := h.room.hR
  refine h.turned ⟨h.room.newS hb hk hr hs hat hn, fun j e => ?_, (hb.mono h.room.base_le).trans ((Below.refl _ _).setCell (p := ⟨R, 5 + k, none⟩) hR.1 _)⟩
  rw [Below.heap_setCell _ _ _ _ (fun e' : j = R => hR.2 (e' ▸ e))]
  exact hb.block j (h.room.kl e).2

/-- A step is over. -/
structure RStepped (w : World) (base R G : Nat) (bare : Bool) (K : Nat → Prop) (m' : Rm) (w' : World) : Prop where
  room : ∃ pw sc, Room base R G pw sc bare K m' w'
  below : Below base w w'
  stay : ∀ k, K k → w'.heap[k]? = w.heap[k]?

theorem RIn.done (h : RIn w base R G pw sc bare K m x bx wk) : RStepped w base R G bare K m wk := ⟨⟨pw, sc, h.room.less (fun _ e => .inl e)⟩, h.below, h.stay⟩

end

/-! What a step makes of a room. -/

def doM (m : Rm) (k : Nat) (r : Wr) (ts : List (List Ch)) (d : Dd) : Rm :=
  if doC r.list d openN = 0 then ⟨m.b, setP m.p k (some (⟨r.me, r.seen, r.next + 1, r.base, r.opens ++ [d], r.sent⟩, ts ++ [tookL r.list d])), setP m.s k (some ⟨r.me, r.seen, r.next + 1, r.base, r.opens ++ [d], r.sent⟩)⟩ else m

def putD (r : Wr) (x : RStep) : Dd := ⟨1, r.me, r.next, r.seen, x.at_, 0, x.text⟩
def takeD (r : Wr) (x : RStep) : Dd := ⟨2, r.me, r.next, r.seen, x.at_, x.many, ⟨#[]⟩⟩

/-- How far one clears. -/
def leastM (b : Bk) (seen : Nat) : Int := (b.ds.drop seen).foldl (fun l d => min l d.seen) (leastL b)

def hearM (m : Rm) (k : Nat) (r : Wr) (ts : List (List Ch)) : Rm :=
  if h : r.seen < m.b.ds.length then
    let d := m.b.ds[r.seen]
    let n := (r.seen : Int) + 1
    let o := decide (d.by_ = r.me)
    let r' : Wr := ⟨r.me, r.seen + 1, r.next, doL r.base d n, if o then r.opens.tail else r.opens, if o then r.sent - 1 else r.sent⟩
    let ts' := if o then ts.tail.map (fun u => u.map (numF d.no n)) else ts
    ⟨saysB m.b k r'.least, setP m.p k (some (r', ts')), setP m.s k (some r')⟩
  else m

def sendM (m : Rm) (k : Nat) (r : Wr) (ts : List (List Ch)) : Rm := match r.opens[r.sent]? with
  | none => m
  | some d => ⟨comesB m.b d, setP m.p k (some (⟨r.me, r.seen, r.next, r.base, r.opens, r.sent + 1⟩, ts)), setP m.s k (some ⟨r.me, r.seen, r.next, r.base, r.opens, r.sent + 1⟩)⟩

def clearM (m : Rm) (k : Nat) (r : Wr) (ts : List (List Ch)) : Rm :=
  ⟨m.b, setP m.p k (some (⟨r.me, r.seen, r.next, ofL (leastM m.b r.seen) r.base, r.opens, r.sent⟩, ts)), setP m.s k (some ⟨r.me, r.seen, r.next, ofL (leastM m.b r.seen) r.base, r.opens, r.sent⟩)⟩

def joinM (m : Rm) (k : Nat) : Rm :=
  ⟨joinB m.b k, setP m.p k (some (⟨k, m.b.ds.length, m.b.last k + 1, m.b.chars, [], 0⟩, [])), setP m.s k (some ⟨k, m.b.ds.length, m.b.last k + 1, m.b.chars, [], 0⟩)⟩

def stepRm (bare : Bool) (m : Rm) (x : RStep) : Rm :=
  if wrB x.w = true then
    match m.p x.w.toNat with
    | none => if x.do_ = 0 then joinM m x.w.toNat else m
    | some (r, ts) =>
      if x.do_ = 1 then doM m x.w.toNat r ts (putD r x)
      else if x.do_ = 2 then doM m x.w.toNat r ts (takeD r x)
      else if x.do_ = 3 then sendM m x.w.toNat r ts
      else if x.do_ = 4 then hearM m x.w.toNat r ts
      else if x.do_ = 5 then (if bare = true then m else clearM m x.w.toNat r ts)
      else m
  else m

/-- Is the room over? -/
def overRm (m : Rm) (x : RStep) : Bool :=
  if wrB x.w = true then
    match m.p x.w.toNat with
    | none => false
    | some (r, _) =>
      if x.do_ = 3 then (match r.opens[r.sent]? with
        | none => false
        | some d => decide (comesC m.b d ≠ 0))
      else if x.do_ = 4 then (if h : r.seen < m.b.ds.length then decide (m.b.ds[r.seen].by_ ≠ r.me ∧ doC r.list m.b.ds[r.seen] ((r.seen : Int) + 1) ≠ 0) else false)
      else false
  else false

end Go.Proofs.Ytfpemdbiplfkgac

/-
  Steps of staged walks in a large frame, as FBig's, with a class of its own for the spine.
-/
namespace Go.Proofs.Ytfpemdbiplfkgac
open Go Go.RowKit

section
variable {base R G : Nat} {pw sc : Nat → Nat} {bare : Bool} {K : Nat → Prop} {m : Rm} {w wk w' : World} {x : RStep} {bx : List (Nat × Dd)}

theorem RIn.boxed (h : RIn w base R G pw sc bare K m x bx wk) (d : Dd) : RIn w base R G pw sc bare K m x ((wk.heap.size, d) :: bx) (wk.alloc (dObj d)) := h.box (below1 _ _) (ddat_start wk d)

/-- Whatever room it is. -/
def RAny (w : World) (base R G : Nat) (bare : Bool) (K : Nat → Prop) (x : RStep) (bx : List (Nat × Dd)) (wk : World) : Prop := ∃ pw sc m, RIn w base R G pw sc bare K m x bx wk
theorem RIn.any (h : RIn w base R G pw sc bare K m x bx wk) : RAny w base R G bare K x bx wk := ⟨pw, sc, m, h⟩
theorem RAny.log (h : RAny w base R G bare K x bx wk) : wk.cell? ⟨R, 0, none⟩ = some (.pointer (some ⟨G, 0, none⟩)) := by
  obtain ⟨_, _, m, h⟩ := h
  exact h.room.cells.log
theorem RAny.lt (h : RAny w base R G bare K x bx wk) : R < wk.heap.size := by
  obtain ⟨_, _, m, h⟩ := h
  exact h.room.cells.lt
theorem RAny.bares (h : RAny w base R G bare K x bx wk) : wk.cell? ⟨R, 9, none⟩ = some (.bool bare) := by
  obtain ⟨_, _, m, h⟩ := h
  exact h.room.cells.bare
theorem RAny.step (h : RAny w base R G bare K x bx wk) : RsAt wk w.heap.size 0 x := by
  obtain ⟨_, _, m, h⟩ := h
  exact h.step
theorem RAny.deed (h : RAny w base R G bare K x bx wk) {p : Nat × Dd} (hp : p ∈ bx) : DdAt wk p.1 0 p.2 := by
  obtain ⟨_, _, m, h⟩ := h
  exact h.deeds p hp

end

theorem rmi_wok {bare : Bool} {m : Rm} (h : RmI bare m) {k : Nat} (hk : k < 4) {r : Wr} {ts : List (List Ch)} (he : m.p k = some (r, ts)) : WOk r ts := by
  obtain ⟨_, hr, c, hw, _⟩ := h.some k hk r ts he
  have hg := h.good
  have h1 := hw.small hg
  exact ⟨hw.full, hw.fits hg, hw.few hr hg, hr.n1, hr.n2, hw.topOk hg, (hw.ok hg).2, tame_of hw hg, hr.took_len hw.full (hw.list_eq hg).1, by omega, tkTop_len hr.tk⟩

end Go.Proofs.Ytfpemdbiplfkgac
