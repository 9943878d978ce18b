/-
  A room: a log, writers that speak to it, and the same by the document; which blocks are whose. No walk.
-/
import Derived.Test.YtdlmlhmdjfbdiacGreatWScC
import Derived.Test.YtdlmlhmdjfbdiacGreatLgT
namespace Go.Proofs.YtdlmlhmdjfbdiacGreat
open Go.RowKit

/-- A room: the log, the writers with what they keep, and the writers by the document. -/
structure Rm where
  b : Bk
  p : Nat → Option (Wr × List (List Ch))
  s : Nat → Option Wr

def setP {α : Type} (f : Nat → Option α) (k : Nat) (x : Option α) : Nat → Option α := fun j => if j = k then x else f j
theorem setP_same {α : Type} (f : Nat → Option α) (k : Nat) (x : Option α) : setP f k x k = x := by simp [setP]
theorem setP_other {α : Type} (f : Nat → Option α) {j k : Nat} (x : Option α) (h : j ≠ k) : setP f k x j = f j := by simp [setP, h]

def ptrOf (o : Bool) (P : Nat) : Value := if o = true then .pointer (some ⟨P, 0, none⟩) else .pointer none

/-- The cells of a room. -/
structure RmC (w : World) (R G : Nat) (pw sc : Nat → Nat) (bare : Bool) (hp hs : Nat → Bool) : Prop where
  lt : R < w.heap.size
  log : w.cell? ⟨R, 0, none⟩ = some (.pointer (some ⟨G, 0, none⟩))
  wr : ∀ k, k < 4 → w.cell? ⟨R, 1 + k, none⟩ = some (ptrOf (hp k) (pw k))
  sc : ∀ k, k < 4 → w.cell? ⟨R, 5 + k, none⟩ = some (ptrOf (hs k) (sc k))
  bare : w.cell? ⟨R, 9, none⟩ = some (.bool bare)
  free : ∀ o, o < 10 → w.frozen? ⟨R, o, none⟩ = false

theorem RmC.kept {w w' : World} {R G : Nat} {pw sc : Nat → Nat} {bare : Bool} {hp hs : Nat → Bool} (h : RmC w R G pw sc bare hp hs) (hz : w.heap.size ≤ w'.heap.size) (hb : w'.heap[R]? = w.heap[R]?) : RmC w' R G pw sc bare hp hs := by
  have hc : ∀ o, w'.cell? ⟨R, o, none⟩ = w.cell? ⟨R, o, none⟩ := fun o => World.cell?_of_block (a := ⟨R, o, none⟩) hb
  have hf : ∀ o, w'.frozen? ⟨R, o, none⟩ = w.frozen? ⟨R, o, none⟩ := fun o => World.frozen?_of_block (a := ⟨R, o, none⟩) hb
  exact ⟨Nat.lt_of_lt_of_le h.lt hz, by rw [hc]; exact h.log, fun k hk => by rw [hc]; exact h.wr k hk, fun k hk => by rw [hc]; exact h.sc k hk, by rw [hc]; exact h.bare, fun o ho => by rw [hf]; exact h.free o ho⟩

/-- Whose a block is: 1 the log's, 2 + k and 6 + k a writer's, 10 the room's own. -/
def Of (ow : Nat → Nat) (i : Nat) (k : Nat) : Prop := ow k = i

structure RoomAt (w : World) (base R : Nat) (ow : Nat → Nat) (G : Nat) (pw sc : Nat → Nat) (bare : Bool) (m : Rm) : Prop where
  cells : RmC w R G pw sc bare (fun k => (m.p k).isSome) (fun k => (m.s k).isSome)
  own : ow R = 10
  lo : ∀ k, ow k ≠ 0 → base ≤ k ∧ k < w.heap.size
  log : ∃ dv lv, LogAt w base (Of ow 1) G dv lv m.b
  wr : ∀ k, k < 4 → ∀ r ts, m.p k = some (r, ts) → ∃ lv ov tvs, PwAt w base (Of ow (2 + k)) (pw k) lv ov tvs r.list r.opens ts r.me r.next r.seen r.sent
  sr : ∀ k, k < 4 → ∀ r, m.s k = some r → ∃ bv ov, ScAt w base (Of ow (6 + k)) (sc k) bv ov r.base r.opens r.me r.seen r.next r.sent

theorem RoomAt.base_le {w : World} {base R : Nat} {ow : Nat → Nat} {G : Nat} {pw sc : Nat → Nat} {bare : Bool} {m : Rm} (h : RoomAt w base R ow G pw sc bare m) : base ≤ w.heap.size := by
  have := h.lo R (by rw [h.own]; omega)
  omega

/-- Where nothing that was has turned. -/
theorem RoomAt.below {w w' : World} {base R : Nat} {ow : Nat → Nat} {G : Nat} {pw sc : Nat → Nat} {bare : Bool} {m : Rm} (h : RoomAt w base R ow G pw sc bare m) (hb : Below w.heap.size w w') : RoomAt w' base R ow G pw sc bare m := by
  refine ⟨h.cells.kept hb.size (hb.block _ h.cells.lt), h.own, fun k hk => ⟨(h.lo k hk).1, Nat.lt_of_lt_of_le (h.lo k hk).2 hb.size⟩, ?_, fun k hk r ts e => ?_, fun k hk r e => ?_⟩
  · obtain ⟨dv, lv, hl⟩ := h.log
    exact ⟨dv, lv, hl.below hb⟩
  · obtain ⟨lv, ov, tvs, hl⟩ := h.wr k hk r ts e
    exact ⟨lv, ov, tvs, hl.below hb⟩
  · obtain ⟨bv, ov, hl⟩ := h.sr k hk r e
    exact ⟨bv, ov, hl.below hb⟩

/-- What is new belongs to one of them. -/
def more (ow : Nat → Nat) (i : Nat) (w w' : World) : Nat → Nat := fun k => if k < w.heap.size then ow k else if k < w'.heap.size then i else 0

theorem more_of {ow : Nat → Nat} {i : Nat} {w w' : World} (hi : i ≠ 0) (hlo : ∀ k, ow k ≠ 0 → k < w.heap.size) (k : Nat) : grow (Of ow i) w w' k ↔ Of (more ow i w w') i k := by
  unfold grow Of more
  by_cases h1 : k < w.heap.size
  · rw [if_pos h1]
    constructor
    · rintro (h | h)
      · exact h
      · omega
    · intro h; exact .inl h
  · rw [if_neg h1]
    by_cases h2 : k < w'.heap.size
    · rw [if_pos h2]
      constructor
      · intro _; rfl
      · intro _; exact .inr ⟨by omega, h2⟩
    · rw [if_neg h2]
      constructor
      · rintro (h | h)
        · have := hlo k (by rw [h]; exact hi); omega
        · omega
      · intro h; exact absurd h.symm hi

theorem more_other {ow : Nat → Nat} {i j : Nat} {w w' : World} (hj : j ≠ 0) (hij : j ≠ i) (hlo : ∀ k, ow k ≠ 0 → k < w.heap.size) (k : Nat) : Of ow j k ↔ Of (more ow i w w') j k := by
  unfold Of more
  by_cases h1 : k < w.heap.size
  · rw [if_pos h1]
  · rw [if_neg h1]
    constructor
    · intro h
      have := hlo k (by rw [h]; exact hj); omega
    · intro h
      by_cases h2 : k < w'.heap.size
      · rw [if_pos h2] at h; exact absurd h.symm hij
      · rw [if_neg h2] at h; exact absurd h.symm hj

theorem more_lo {ow : Nat → Nat} {i base : Nat} {w w' : World} (hb : base ≤ w.heap.size) (hs : w.heap.size ≤ w'.heap.size) (hlo : ∀ k, ow k ≠ 0 → base ≤ k ∧ k < w.heap.size) : ∀ k, more ow i w w' k ≠ 0 → base ≤ k ∧ k < w'.heap.size := by
  intro k hk
  unfold more at hk
  by_cases h1 : k < w.heap.size
  · rw [if_pos h1] at hk
    have := hlo k hk; omega
  · rw [if_neg h1] at hk
    by_cases h2 : k < w'.heap.size
    · omega
    · rw [if_neg h2] at hk; exact absurd rfl hk

/-- What one of them did leaves all others. -/
theorem RoomAt.others {w w' : World} {base R : Nat} {ow : Nat → Nat} {G : Nat} {pw sc : Nat → Nat} {bare : Bool} {m : Rm} (h : RoomAt w base R ow G pw sc bare m) {i : Nat} (hi10 : i ≠ 10) (hk : Kept (Of ow i) w w') :
    RmC w' R G pw sc bare (fun k => (m.p k).isSome) (fun k => (m.s k).isSome) ∧ more ow i w w' R = 10 ∧ (∀ k, more ow i w w' k ≠ 0 → base ≤ k ∧ k < w'.heap.size) ∧
    (i ≠ 1 → ∃ dv lv, LogAt w' base (Of (more ow i w w') 1) G dv lv m.b) ∧
    (∀ k, k < 4 → i ≠ 2 + k → ∀ r ts, m.p k = some (r, ts) → ∃ lv ov tvs, PwAt w' base (Of (more ow i w w') (2 + k)) (pw k) lv ov tvs r.list r.opens ts r.me r.next r.seen r.sent) ∧
    (∀ k, k < 4 → i ≠ 6 + k → ∀ r, m.s k = some r → ∃ bv ov, ScAt w' base (Of (more ow i w w') (6 + k)) (sc k) bv ov r.base r.opens r.me r.seen r.next r.sent) := by
  have hlo' : ∀ k, ow k ≠ 0 → k < w.heap.size := fun k e => (h.lo k e).2
  have hml := more_lo (i := i) h.base_le hk.size h.lo
  have hdis : ∀ j, j ≠ i → ∀ k, Of ow j k → ¬ Of ow i k := fun j hj k e e' => hj (by unfold Of at e e'; rw [← e, e'])
  have hR := h.cells.lt
  refine ⟨h.cells.kept hk.size (hk.block R hR (fun e => by unfold Of at e; rw [h.own] at e; exact hi10 e.symm)), ?_, hml, fun h1 => ?_, fun k hk4 hne r ts e => ?_, fun k hk4 hne r e => ?_⟩
  · unfold more; rw [if_pos hR]; exact h.own
  · obtain ⟨dv, lv, hl⟩ := h.log
    exact ⟨dv, lv, (hl.kept hk (hdis 1 (Ne.symm h1))).mono (fun k e => (more_other (by omega) (Ne.symm h1) hlo' k).1 e) (fun k e => hml k (by unfold Of at e; rw [e]; omega))⟩
  · obtain ⟨lv, ov, tvs, hl⟩ := h.wr k hk4 r ts e
    exact ⟨lv, ov, tvs, (hl.kept hk (hdis _ (Ne.symm hne))).mono (fun j e => (more_other (by omega) (Ne.symm hne) hlo' j).1 e) (fun j e => hml j (by unfold Of at e; rw [e]; omega))⟩
  · obtain ⟨bv, ov, hl⟩ := h.sr k hk4 r e
    exact ⟨bv, ov, (hl.kept hk (hdis _ (Ne.symm hne))).mono (fun j e => (more_other (by omega) (Ne.symm hne) hlo' j).1 e) (fun j e => hml j (by unfold Of at e; rw [e]; omega))⟩

theorem RoomAt.logged {w w' : World} {base R : Nat} {ow : Nat → Nat} {G : Nat} {pw sc : Nat → Nat} {bare : Bool} {m : Rm} (h : RoomAt w base R ow G pw sc bare m) {b' : Bk} (ht : LogTo w base (Of ow 1) G b' w') : RoomAt w' base R (more ow 1 w w') G pw sc bare ⟨b', m.p, m.s⟩ := by
  obtain ⟨a1, a2, a3, _, a5, a6⟩ := h.others (i := 1) (by omega) ht.kept
  obtain ⟨dv, lv, hl⟩ := ht.at_
  exact ⟨a1, a2, a3, ⟨dv, lv, hl.mono (fun k e => (more_of (by omega) (fun k e => (h.lo k e).2) k).1 e) (fun k e => a3 k (by unfold Of at e; rw [e]; omega))⟩, fun k hk r ts e => a5 k hk (by omega) r ts e, fun k hk r e => a6 k hk (by omega) r e⟩

theorem RoomAt.wrote {w w' : World} {base R : Nat} {ow : Nat → Nat} {G : Nat} {pw sc : Nat → Nat} {bare : Bool} {m : Rm} (h : RoomAt w base R ow G pw sc bare m) {k : Nat} (hk : k < 4) {r r' : Wr} {ts ts' : List (List Ch)} (he : m.p k = some (r, ts)) (ht : PwTo w base (Of ow (2 + k)) (pw k) r'.list r'.opens ts' r'.me r'.next r'.seen r'.sent w') :
    RoomAt w' base R (more ow (2 + k) w w') G pw sc bare ⟨m.b, setP m.p k (some (r', ts')), m.s⟩ := by
  obtain ⟨a1, a2, a3, a4, a5, a6⟩ := h.others (i := 2 + k) (by omega) ht.kept
  obtain ⟨lv, ov, tvs, hl⟩ := ht.at_
  have hsome : (fun j => (setP m.p k (some (r', ts')) j).isSome) = fun j => (m.p j).isSome := by
    funext j
    by_cases hj : j = k
    · subst hj; rw [setP_same, he]; rfl
    · rw [setP_other _ _ hj]
  refine ⟨by show RmC w' R G pw sc bare (fun j => (setP m.p k (some (r', ts')) j).isSome) _; rw [hsome]; exact a1, a2, a3, a4 (by omega), fun j hj r0 ts0 e => ?_, fun j hj r0 e => a6 j hj (by omega) r0 e⟩
  by_cases hjk : j = k
  · subst hjk
    have e' : setP m.p j (some (r', ts')) j = some (r0, ts0) := e
    rw [setP_same] at e'
    obtain ⟨rfl, rfl⟩ := Prod.mk.inj (Option.some.inj e')
    exact ⟨lv, ov, tvs, hl.mono (fun i e => (more_of (by omega) (fun k e => (h.lo k e).2) i).1 e) (fun i e => a3 i (by unfold Of at e; rw [e]; omega))⟩
  · have e' : setP m.p k (some (r', ts')) j = some (r0, ts0) := e
    rw [setP_other _ _ hjk] at e'
    exact a5 j hj (by omega) r0 ts0 e'

theorem RoomAt.scribed {w w' : World} {base R : Nat} {ow : Nat → Nat} {G : Nat} {pw sc : Nat → Nat} {bare : Bool} {m : Rm} (h : RoomAt w base R ow G pw sc bare m) {k : Nat} (hk : k < 4) {r r' : Wr} (he : m.s k = some r) (ht : ScTo w base (Of ow (6 + k)) (sc k) r'.base r'.opens r'.me r'.seen r'.next r'.sent w') :
    RoomAt w' base R (more ow (6 + k) w w') G pw sc bare ⟨m.b, m.p, setP m.s k (some r')⟩ := by
  obtain ⟨a1, a2, a3, a4, a5, a6⟩ := h.others (i := 6 + k) (by omega) ht.kept
  obtain ⟨bv, ov, hl⟩ := ht.at_
  have hsome : (fun j => (setP m.s k (some r') j).isSome) = fun j => (m.s j).isSome := by
    funext j
    by_cases hj : j = k
    · subst hj; rw [setP_same, he]; rfl
    · rw [setP_other _ _ hj]
  refine ⟨by show RmC w' R G pw sc bare _ (fun j => (setP m.s k (some r') j).isSome); rw [hsome]; exact a1, a2, a3, a4 (by omega), fun j hj r0 ts0 e => a5 j hj (by omega) r0 ts0 e, fun j hj r0 e => ?_⟩
  by_cases hjk : j = k
  · subst hjk
    have e' : setP m.s j (some r') j = some r0 := e
    rw [setP_same] at e'
    obtain rfl := Option.some.inj e'
    exact ⟨bv, ov, hl.mono (fun i e => (more_of (by omega) (fun k e => (h.lo k e).2) i).1 e) (fun i e => a3 i (by unfold Of at e; rw [e]; omega))⟩
  · have e' : setP m.s k (some r') j = some r0 := e
    rw [setP_other _ _ hjk] at e'
    exact a6 j hj (by omega) r0 e'

/-! What always holds. -/

structure RmI (bare : Bool) (m : Rm) : Prop where
  good : Good m.b
  both : ∀ k, k < 4 → m.s k = (m.p k).map (·.1)
  none : ∀ k, k < 4 → m.p k = none → m.b.here k = false
  some : ∀ k, k < 4 → ∀ r ts, m.p k = some (r, ts) → r.me = k ∧ Rel r ts ∧ ∃ c, WI m.b c r ∧ (bare = true → c = 0)

theorem tame_of {b : Bk} {c : Int} {r : Wr} (h : WI b c r) (hg : Good b) : Tame r.base := fun x hx => by have := h.no_open hg x hx; omega

/-- Its open deeds can be done in their turn. -/
theorem WI.topOk {b : Bk} {c : Int} {r : Wr} (h : WI b c r) (hg : Good b) : TopOk r.base r.opens := by
  obtain ⟨hok, hbl⟩ := h.ok hg
  have ht := tame_of h hg
  have key : ∀ (es : List Dd) (l : List Ch), okTop l es → Tame l → l.length ≤ 200 → (∀ k (hk : k < es.length), doC (onTop l (es.take k)) es[k] openN = 0) ∧ ∀ k, k ≤ es.length → Tame (onTop l (es.take k)) ∧ (onTop l (es.take k)).length ≤ 200 := by
    intro es
    induction es with
    | nil => intro l _ ht hl; exact ⟨fun k hk => absurd hk (Nat.not_lt_zero _), fun k _ => by simpa [onTop] using ⟨ht, hl⟩⟩
    | cons e es ih =>
      intro l ho ht hl
      have hz := doC_zero ho.1
      have hlen := doL_len (l := l) (number := openN) (check_parts hz.1).2.2.2.2.2.2.2.2.2.2.2
      obtain ⟨i1, i2⟩ := ih (doL l e openN) ho.2 (tame_any ht hz.1 (by decide)) (by omega)
      refine ⟨fun k hk => ?_, fun k hk => ?_⟩
      · cases k with
        | zero => exact ho.1
        | succ k => exact i1 k (by simpa using hk)
      · cases k with
        | zero => exact ⟨ht, hl⟩
        | succ k => exact i2 k (by simpa using hk)
  obtain ⟨k1, k2⟩ := key r.opens r.base hok ht hbl
  exact ⟨k1, fun k hk => ⟨(k2 k hk).1, by have := (k2 k hk).2; omega⟩⟩

theorem Rel.took_len {r : Wr} {ts : List (List Ch)} (h : Rel r ts) (hl : r.list.length ≤ 200) (hf : fitTop r.base r.opens) : ∀ t ∈ ts, t.length ≤ 1000 := by
  have key : ∀ (es : List Dd) (ts : List (List Ch)) (l : List Ch), tkTop l es ts → fitTop l es → (onTop l es).length ≤ 200 → ∀ t ∈ ts, t.length ≤ 200 := by
    intro es
    induction es with
    | nil => intro ts l h _ _ t ht; cases ts with
      | nil => cases ht
      | cons _ _ => exact h.elim
    | cons e es ih =>
      intro ts l h hf hl t ht
      cases ts with
      | nil => exact h.elim
      | cons t0 ts =>
        rcases List.mem_cons.1 ht with rfl | ht
        · have h1 := congrArg List.length h.1
          rw [List.length_map, List.length_map] at h1
          have h2 : (tookL l e).length ≤ l.length := by
            unfold tookL
            rw [List.length_take, List.length_drop]
            have := List.length_filter_le (seesC e.seen e.by_) l
            omega
          obtain ⟨_, h3⟩ := fitTop_ok (e :: es) l hf hl
          omega
        · exact ih ts _ h.2 hf.2 hl t ht
  intro t ht
  have := key r.opens ts r.base h.tk hf hl t ht
  omega

end Go.Proofs.YtdlmlhmdjfbdiacGreat
