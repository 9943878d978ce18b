/-
  For the law WriterTells: what a step does to the numbers of a writer's deeds. No walk.
-/
import Derived.Test.YtdlmlhmdjfbdiacWAck
namespace Go.Proofs.Ytdlmlhmdjfbdiac
open Go Go.RowKit

def nxN (m : Rm) (k : Nat) : Int := match m.p k with
  | none => 0
  | some (r, _) => r.next - 1

/-- The two arrays, held against a room. -/
structure TT (m : Rm) (dn st : Nat → Int) : Prop where
  dn : ∀ k, k < 4 → dn k = nxN m k
  st : ∀ k, k < 4 → st k = m.b.last k
  no : ∀ k, k < 4 → m.p k = none → m.b.last k = 0

def setI (f : Nat → Int) (k : Nat) (x : Int) : Nat → Int := fun j => if j = k then x else f j
theorem setI_same (f : Nat → Int) (k : Nat) (x : Int) : setI f k x k = x := if_pos rfl
theorem setI_other (f : Nat → Int) {j k : Nat} (x : Int) (h : j ≠ k) : setI f k x j = f j := if_neg h

theorem tt0 : TT rm0 (fun _ => 0) (fun _ => 0) := ⟨fun _ _ => rfl, fun _ _ => rfl, fun _ _ _ => rfl⟩

section
variable {bare : Bool} {m : Rm} {x : RStep} {k : Nat} {r : Wr} {ts : List (List Ch)} {dn st : Nat → Int}

theorem tl_off (hw : wrB x.w = false) : stepRm bare m x = m := by rw [stepRm, if_neg (by rw [hw]; simp)]

theorem tl_at (hk : k < 4) (hxw : x.w = k) : wrB x.w = true ∧ x.w.toNat = k := ⟨by rw [hxw]; simp [wrB]; omega, by omega⟩

theorem tl_none (hk : k < 4) (hxw : x.w = k) (hp : m.p k = none) (hd : x.do_ ≠ 0) : stepRm bare m x = m := by
  obtain ⟨h1, h2⟩ := tl_at hk hxw
  rw [stepRm, if_pos h1, h2, hp]
  simp only
  rw [if_neg hd]

theorem join_ds (b : Bk) (v : Int) : (joinB b v).ds = b.ds ∧ (joinB b v).last = b.last := by
  unfold joinB
  split <;> exact ⟨rfl, rfl⟩
theorem says_ds (b : Bk) (v n : Int) : (saysB b v n).ds = b.ds ∧ (saysB b v n).last = b.last := by
  unfold saysB
  split <;> exact ⟨rfl, rfl⟩

/-- One that comes. -/
theorem tl_join (hk : k < 4) (hxw : x.w = k) (hp : m.p k = none) (hd : x.do_ = 0) (h : TT m dn st) :
    ((stepRm bare m x).p k).isSome = true ∧ (stepRm bare m x).b.ds = m.b.ds ∧ TT (stepRm bare m x) dn st := by
  obtain ⟨h1, h2⟩ := tl_at hk hxw
  have hs : stepRm bare m x = joinM m k := by
    rw [stepRm, if_pos h1, h2, hp]
    simp only
    rw [if_pos hd]
  rw [hs]
  obtain ⟨j1, j2⟩ := join_ds m.b k
  refine ⟨by show (setP m.p k _ k).isSome = true; rw [setP_same]; rfl, j1, fun j hj => ?_, fun j hj => ?_, fun j hj e => ?_⟩
  · by_cases e : j = k
    · subst e
      rw [h.dn j hj]
      have h0 := h.no j hj hp
      have e1 : nxN m j = 0 := by unfold nxN; rw [hp]
      have e2 : nxN (joinM m j) j = m.b.last j + 1 - 1 := by unfold nxN joinM; simp only; rw [setP_same]
      rw [e1, e2, h0]; omega
    · have e2 : nxN (joinM m k) j = nxN m j := by unfold nxN joinM; simp only; rw [setP_other _ _ e]
      rw [e2]; exact h.dn j hj
  · show st j = (joinB m.b k).last j
    rw [j2]; exact h.st j hj
  · show (joinB m.b k).last j = 0
    rw [j2]
    by_cases e' : j = k
    · subst e'; exact h.no j hj hp
    · have : setP m.p k (some ((⟨k, m.b.ds.length, m.b.last k + 1, m.b.chars, [], 0⟩ : Wr), ([] : List (List Ch)))) j = none := e
      rw [setP_other _ _ e'] at this
      exact h.no j hj this

/-- What leaves the log's deeds, and a writer's number. -/
theorem tt_turn {m' : Rm} {r' : Wr} {ts' : List (List Ch)} (h : TT m dn st) (hp : m.p k = some (r, ts)) (hp' : m'.p = setP m.p k (some (r', ts'))) (hb : m'.b.last = m.b.last) (y : Int) (hy : r'.next - 1 = y) : TT m' (setI dn k y) st := by
  refine ⟨fun j hj => ?_, fun j hj => by rw [hb]; exact h.st j hj, fun j hj e => ?_⟩
  · by_cases e : j = k
    · subst e
      rw [setI_same]
      unfold nxN
      rw [hp', setP_same]
      exact hy.symm
    · rw [setI_other _ _ e, h.dn j hj]
      unfold nxN
      rw [hp', setP_other _ _ e]
  · rw [hb]
    by_cases e' : j = k
    · subst e'; rw [hp', setP_same] at e; cases e
    · rw [hp', setP_other _ _ e'] at e
      exact h.no j hj e

theorem setI_id (hd : ∀ j, j < 4 → dn j = nxN m j) : TT m (setI dn k (dn k)) st → TT m dn st := fun h => ⟨hd, h.st, h.no⟩

theorem tt_self (h : TT m dn st) {m' : Rm} {r' : Wr} {ts' : List (List Ch)} (hk : k < 4) (hp : m.p k = some (r, ts)) (hp' : m'.p = setP m.p k (some (r', ts'))) (hb : m'.b.last = m.b.last) (hn : r'.next = r.next) : TT m' dn st := by
  have hd := h.dn k hk
  have e : nxN m k = r.next - 1 := by unfold nxN; rw [hp]
  have h1 := tt_turn h hp hp' hb (dn k) (by rw [hd, e, hn])
  refine ⟨fun j hj => ?_, h1.st, h1.no⟩
  by_cases ej : j = k
  · subst ej
    have := h1.dn j hj
    rw [setI_same] at this
    exact this
  · have := h1.dn j hj
    rw [setI_other _ _ ej] at this
    exact this

/-- One that does. -/
theorem tl_does (hk : k < 4) (hxw : x.w = k) (hp : m.p k = some (r, ts)) (hd : x.do_ = 1 ∨ x.do_ = 2) (h : TT m dn st) :
    ∃ r' ts', (stepRm bare m x).p k = some (r', ts') ∧ (stepRm bare m x).b.ds = m.b.ds ∧ TT (stepRm bare m x) (setI dn k (dn k + ((r'.opens.length : Int) - r.opens.length))) st := by
  obtain ⟨h1, h2⟩ := tl_at hk hxw
  have hdn := h.dn k hk
  have e : nxN m k = r.next - 1 := by unfold nxN; rw [hp]
  obtain ⟨d, hs⟩ : ∃ d, stepRm bare m x = doM m k r ts d := by
    rw [stepRm, if_pos h1, h2, hp]
    simp only
    rcases hd with hd | hd
    · rw [if_pos hd]; exact ⟨_, rfl⟩
    · rw [if_neg (by omega), if_pos hd]; exact ⟨_, rfl⟩
  rw [hs]
  unfold doM
  split
  · refine ⟨_, _, setP_same _ _ _, rfl, ?_⟩
    exact tt_turn h hp (by exact rfl) (by exact rfl) _ (by simp only [List.length_append, List.length_singleton]; omega)
  · refine ⟨r, ts, hp, rfl, ?_⟩
    have e0 : dn k + ((r.opens.length : Int) - r.opens.length) = dn k := by omega
    rw [e0]
    refine ⟨fun j hj => ?_, h.st, h.no⟩
    by_cases ej : j = k
    · subst ej; rw [setI_same]; exact hdn
    · rw [setI_other _ _ ej]; exact h.dn j hj

/-- One that sends. -/
theorem tl_sends (hi : RmI bare m) (hk : k < 4) (hxw : x.w = k) (hp : m.p k = some (r, ts)) (hd : x.do_ = 3) {d : Dd} (he : r.opens[r.sent]? = some d) (ho : overRm m x = false) (h : TT m dn st) :
    ((stepRm bare m x).p k).isSome = true ∧ (stepRm bare m x).b.ds = m.b.ds ++ [d] ∧ d.by_ = k ∧ d.no = st k + 1 ∧ d.no ≤ dn k ∧ (1 ≤ d.no ∧ d.no ≤ 120) ∧ TT (stepRm bare m x) dn (setI st k d.no) := by
  obtain ⟨h1, h2⟩ := tl_at hk hxw
  obtain ⟨m1, m2, c, m3, m4⟩ := hi.some k hk r ts hp
  have hs : stepRm bare m x = sendM m k r ts := by
    rw [stepRm, if_pos h1, h2, hp]
    simp only
    rw [if_neg (by omega), if_neg (by omega), if_pos hd]
  have hc : comesC m.b d = 0 := by
    rw [overRm, if_pos h1, h2, hp] at ho
    simp only at ho
    rw [if_pos hd, he] at ho
    have := of_decide_eq_false ho
    exact Classical.byContradiction this
  have hcz := hc
  have hw := m3.own d (List.mem_of_getElem? he)
  have hno := m3.no r.sent d he
  have hla := m3.last
  have hlt := (List.getElem?_eq_some_iff.1 he).1
  have hme : r.me = (k : Int) := m1
  have hby : d.by_ = k := by rw [hw.1]; exact hme
  have hst := h.st k hk
  have hdn := h.dn k hk
  have e1 : nxN m k = r.next - 1 := by unfold nxN; rw [hp]
  rw [hme] at hla
  have hck : checkC d = 0 := by
    unfold comesC at hc
    split at hc
    · exact absurd hc (by decide)
    · split at hc
      · exact absurd hc (by decide)
      · split at hc
        · exact absurd hc (by decide)
        · split at hc
          · exact absurd hc (by decide)
          · exact (doC_zero hc).1
  have hcp := check_parts hck
  have hc' : comesC m.b d = 0 := hcz
  rw [hs, sendM, he]
  simp only
  refine ⟨by rw [setP_same]; rfl, by rw [comes_eq hc'], hby, by omega, by omega, ⟨hcp.2.2.1, hcp.2.2.2.1⟩, ?_⟩
  have hl : (comesB m.b d).last = setF m.b.last k d.no := by rw [comes_eq hc', hby]
  refine ⟨fun j hj => ?_, fun j hj => ?_, fun j hj e => ?_⟩
  · rw [h.dn j hj]
    unfold nxN
    simp only
    by_cases ej : j = k
    · subst ej; rw [setP_same, hp]
    · rw [setP_other _ _ ej]
  · show setI st k d.no j = (comesB m.b d).last j
    rw [hl]
    by_cases ej : j = k
    · subst ej; rw [setI_same, setF_same]
    · rw [setI_other _ _ ej, setF_other _ _ (by omega)]
      exact h.st j hj
  · show (comesB m.b d).last j = 0
    by_cases ej : j = k
    · subst ej
      have : setP m.p j _ j = none := e
      rw [setP_same] at this
      cases this
    · have : setP m.p k _ j = none := e
      rw [setP_other _ _ ej] at this
      rw [hl, setF_other _ _ (by omega)]
      exact h.no j hj this

/-- All else. -/
theorem tl_else (hk : k < 4) (hxw : x.w = k) (hp : m.p k = some (r, ts)) (h1' : x.do_ ≠ 1) (h2' : x.do_ ≠ 2) (h3' : x.do_ = 3 → r.opens[r.sent]? = none) (h : TT m dn st) :
    ((stepRm bare m x).p k).isSome = true ∧ (stepRm bare m x).b.ds = m.b.ds ∧ TT (stepRm bare m x) dn st := by
  obtain ⟨h1, h2⟩ := tl_at hk hxw
  have hsame : (m.p k).isSome = true ∧ m.b.ds = m.b.ds ∧ TT m dn st := ⟨by rw [hp]; rfl, rfl, h⟩
  rw [stepRm, if_pos h1, h2, hp]
  simp only
  rw [if_neg h1', if_neg h2']
  by_cases e3 : x.do_ = 3
  · rw [if_pos e3, sendM, h3' e3]
    exact hsame
  · rw [if_neg e3]
    by_cases e4 : x.do_ = 4
    · rw [if_pos e4]
      unfold hearM
      split
      · exact ⟨by simp only; rw [setP_same]; rfl, (says_ds _ _ _).1, by exact tt_self h hk hp (by exact rfl) (says_ds _ _ _).2 (by exact rfl)⟩
      · exact hsame
    · rw [if_neg e4]
      by_cases e5 : x.do_ = 5
      · rw [if_pos e5]
        split
        · exact hsame
        · exact ⟨by show (setP m.p k _ k).isSome = true; rw [setP_same]; rfl, rfl, by exact tt_self h hk hp (by exact rfl) (by exact rfl) (by exact rfl)⟩
      · rw [if_neg e5]
        exact hsame

end

end Go.Proofs.Ytdlmlhmdjfbdiac

/-
  For the law WriterTells: two arrays of four numbers beside a room, a step in its box, and deeds in theirs. No walk.
-/
namespace Go.Proofs.Ytdlmlhmdjfbdiac
open Go Go.RowKit

/-- Four numbers in a block of their own. -/
structure Four (w : World) (B : Nat) (f : Nat → Int) : Prop where
  lt : B < w.heap.size
  at_ : ∀ k, k < 4 → w.cell? ⟨B, k, none⟩ = some (.int .i64 (f k))
  free : ∀ k, k < 4 → w.frozen? ⟨B, k, none⟩ = false

theorem Four.of_block {w w' : World} {B : Nat} {f : Nat → Int} (h : Four w B f) (hs : B < w'.heap.size) (hb : w'.heap[B]? = w.heap[B]?) : Four w' B f :=
  ⟨hs, fun k hk => (World.cell?_of_block (a := ⟨B, k, none⟩) hb).trans (h.at_ k hk), fun k hk => (World.frozen?_of_block (a := ⟨B, k, none⟩) hb).trans (h.free k hk)⟩

theorem Four.below {w w' : World} {B : Nat} {f : Nat → Int} (h : Four w B f) (hb : Below w.heap.size w w') : Four w' B f := h.of_block (Nat.lt_of_lt_of_le h.lt hb.size) (hb.block _ h.lt)

theorem Four.put {w : World} {B : Nat} {f : Nat → Int} (h : Four w B f) {k : Nat} (hk : k < 4) (y : Int) : Four (w.setCell ⟨B, k, none⟩ (.int .i64 y)) B (setI f k y) := by
  refine ⟨by simpa [World.setCell] using h.lt, fun j hj => ?_, fun j hj => by simpa [go_sem] using h.free j hj⟩
  have h1 := h.at_ j hj
  by_cases e : j = k
  · subst e
    rw [setI_same]
    simp [go_sem, h1]
  · rw [setI_other _ _ e]
    have h2 : (w.setCell ⟨B, k, none⟩ (.int .i64 y)).cell? ⟨B, j, none⟩ = w.cell? ⟨B, j, none⟩ := by simp [go_sem]
    rw [h2]
    exact h1

abbrev fourZ : Array Value := #[.int .i64 0, .int .i64 0, .int .i64 0, .int .i64 0]
theorem four_start (w : World) (ty : TypeId) : Four (w.alloc (.cells fourZ ty)) w.heap.size (fun _ => 0) := by
  refine ⟨by simp, fun k hk => ?_, fun k hk => ?_⟩ <;> rcases (show k = 0 ∨ k = 1 ∨ k = 2 ∨ k = 3 by omega) with rfl | rfl | rfl | rfl <;> simp [go_sem]

/-- A room behind some steps, and the two arrays. -/
structure RT (w : World) (R G D S : Nat) (m : Rm) (dn st : Nat → Int) (wk : World) : Prop where
  room : ∃ pw sc, Room w.heap.size R G pw sc false (fun k => k = D ∨ k = S) m wk
  inv : RmI false m
  below : Below w.heap.size w wk
  ne : D ≠ S
  tt : TT m dn st
  dn : Four wk D dn
  st : Four wk S st

theorem rt_start {w wk : World} {R G : Nat} (h : RR w R G false rm0 wk) (t1 t2 : TypeId) : RT w R G wk.heap.size (wk.heap.size + 1) rm0 (fun _ => 0) (fun _ => 0) ((wk.alloc (.cells fourZ t1)).alloc (.cells fourZ t2)) := by
  obtain ⟨pw, sc, hr⟩ := h.room
  have e1 : (wk.alloc (.cells fourZ t1)).heap.size = wk.heap.size + 1 := by simp
  have hf := four_start (wk.alloc (.cells fourZ t1)) t2
  rw [e1] at hf
  refine ⟨⟨pw, sc, hr.add (below2 _ _ _) (fun k e => ?_)⟩, h.inv, below_after h.below (below2 _ _ _), by omega, tt0, (four_start wk t1).below (below1 _ _), hf⟩
  refine .inr ?_
  have : ((wk.alloc (.cells fourZ t1)).alloc (.cells fourZ t2)).heap.size = wk.heap.size + 2 := by simp
  rw [this]
  rcases e with e | e <;> omega

/-- In the middle of a round. -/
structure TQ (w : World) (base R G D S X : Nat) (pw sc : Nat → Nat) (m : Rm) (x : RStep) (dn st : Nat → Int) (bx : List (Nat × Dd)) (wk : World) : Prop where
  room : Room base R G pw sc false (fun k => k = D ∨ k = S ∨ k = X ∨ ∃ p ∈ bx, p.1 = k) m wk
  step : RsAt wk X 0 x
  dn : Four wk D dn
  st : Four wk S st
  deeds : ∀ p ∈ bx, DdAt wk p.1 0 p.2
  below : Below base w wk
  ne : D ≠ S ∧ D ≠ X ∧ S ≠ X
  ap : ∀ p ∈ bx, p.1 ≠ D ∧ p.1 ≠ S ∧ p.1 ≠ X

section
variable {w wk w' : World} {base R G D S X : Nat} {pw sc : Nat → Nat} {m : Rm} {x : RStep} {dn st : Nat → Int} {bx : List (Nat × Dd)}

theorem TQ.after (h : TQ w base R G D S X pw sc m x dn st bx wk) (hb : Below wk.heap.size wk w') : TQ w base R G D S X pw sc m x dn st bx w' :=
  ⟨h.room.after hb, h.step.below hb, h.dn.below hb, h.st.below hb, fun p hp => (h.deeds p hp).below hb, h.below.trans (hb.mono h.room.base_le), h.ne, h.ap⟩
theorem TQ.shut : Shut (fun wk => TQ w base R G D S X pw sc m x dn st bx wk) := fun _ _ h hb => h.after hb

theorem tq_start {w0 : World} (h : RT w0 R G D S m dn st w) {pw sc : Nat → Nat} (hr : Room w0.heap.size R G pw sc false (fun k => k = D ∨ k = S) m w) (x : RStep) : TQ w w0.heap.size R G D S w.heap.size pw sc m x dn st [] (w.alloc (.cells (rsCells x) 28)) := by
  have h1 := h.dn.lt
  have h2 := h.st.lt
  refine ⟨hr.add (below1 _ _) (fun k e => ?_), rsat_start w x, h.dn.below (below1 _ _), h.st.below (below1 _ _), fun p hp => (by cases hp), (below1 _ _).mono hr.base_le, ⟨h.ne, by omega, by omega⟩, fun p hp => (by cases hp)⟩
  rcases e with e | e | e | ⟨p, hp, _⟩
  · exact .inl (.inl e)
  · exact .inl (.inr e)
  · exact .inr ⟨by omega, by simp; omega⟩
  · cases hp

theorem TQ.stepped (h : TQ w base R G D S X pw sc m x dn st bx wk) (hi : RmI false m) (y : RStep) :
    Calls Try.prog 14 #[.pointer (some ⟨R, 0, none⟩), rsV y] wk fun e w' => e = .returned (.tuple #[.bool true, .bool (overRm m y)]) ∧ (overRm m y = false → ∃ pw' sc', TQ w base R G D S X pw' sc' (stepRm false m y) x dn st bx w' ∧ RmI false (stepRm false m y)) ∧ Below base w w' := by
  refine (step_room h.room hi y).mono fun e w' ⟨he, ht, hb⟩ => ⟨he, fun ho => ?_, h.below.trans hb⟩
  obtain ⟨h1, h2⟩ := ht ho
  obtain ⟨pw', sc', hr⟩ := h1.room
  have hs := hb.size
  exact ⟨pw', sc', ⟨hr, h.step.of_block (Nat.lt_of_lt_of_le h.step.lt hs) (h1.stay _ (.inr (.inr (.inl rfl)))), h.dn.of_block (Nat.lt_of_lt_of_le h.dn.lt hs) (h1.stay _ (.inl rfl)), h.st.of_block (Nat.lt_of_lt_of_le h.st.lt hs) (h1.stay _ (.inr (.inl rfl))), fun p hp => (h.deeds p hp).of_block (Nat.lt_of_lt_of_le (h.deeds p hp).lt hs) (h1.stay _ (.inr (.inr (.inr ⟨p, hp, rfl⟩)))), h.below.trans hb, h.ne, h.ap⟩, h2⟩

theorem tq_size (u : Value) (p : Addr) : (wk.setCell p u).heap.size = wk.heap.size := by simp [World.setCell]

/-- The first array is written. -/
theorem TQ.putD (h : TQ w base R G D S X pw sc m x dn st bx wk) {k : Nat} (hk : k < 4) (y : Int) : TQ w base R G D S X pw sc m x (setI dn k y) st bx (wk.setCell ⟨D, k, none⟩ (.int .i64 y)) := by
  have hne : ∀ j, j ≠ D → (wk.setCell ⟨D, k, none⟩ (.int .i64 y)).heap[j]? = wk.heap[j]? := fun j e => Below.heap_setCell _ _ _ _ e
  have hz : (wk.setCell ⟨D, k, none⟩ (.int .i64 y)).heap.size = wk.heap.size := tq_size _ _
  have hD := (h.room.kl (k := D) (.inl rfl)).1
  exact ⟨h.room.wrote (p := ⟨D, k, none⟩) (.inl rfl) _, h.step.of_block (by rw [hz]; exact h.step.lt) (hne _ (Ne.symm h.ne.2.1)), h.dn.put hk y, h.st.of_block (by rw [hz]; exact h.st.lt) (hne _ (Ne.symm h.ne.1)), fun p hp => (h.deeds p hp).of_block (by rw [hz]; exact (h.deeds p hp).lt) (hne _ (h.ap p hp).1), h.below.setCell (p := ⟨D, k, none⟩) hD _, h.ne, h.ap⟩

/-- The second array is written. -/
theorem TQ.putS (h : TQ w base R G D S X pw sc m x dn st bx wk) {k : Nat} (hk : k < 4) (y : Int) : TQ w base R G D S X pw sc m x dn (setI st k y) bx (wk.setCell ⟨S, k, none⟩ (.int .i64 y)) := by
  have hne : ∀ j, j ≠ S → (wk.setCell ⟨S, k, none⟩ (.int .i64 y)).heap[j]? = wk.heap[j]? := fun j e => Below.heap_setCell _ _ _ _ e
  have hz : (wk.setCell ⟨S, k, none⟩ (.int .i64 y)).heap.size = wk.heap.size := tq_size _ _
  have hD := (h.room.kl (k := S) (.inr (.inl rfl))).1
  exact ⟨h.room.wrote (p := ⟨S, k, none⟩) (.inr (.inl rfl)) _, h.step.of_block (by rw [hz]; exact h.step.lt) (hne _ (Ne.symm h.ne.2.2)), h.dn.of_block (by rw [hz]; exact h.dn.lt) (hne _ h.ne.1), h.st.put hk y, fun p hp => (h.deeds p hp).of_block (by rw [hz]; exact (h.deeds p hp).lt) (hne _ (h.ap p hp).2.1), h.below.setCell (p := ⟨S, k, none⟩) hD _, h.ne, h.ap⟩

/-- A box for a deed. -/
theorem TQ.boxed (h : TQ w base R G D S X pw sc m x dn st bx wk) (d : Dd) : TQ w base R G D S X pw sc m x dn st ((wk.heap.size, d) :: bx) (wk.alloc (dObj d)) := by
  have hb := below1 wk (dObj d)
  have hdd := ddat_start wk d
  refine ⟨h.room.add hb (fun k e => ?_), h.step.below hb, h.dn.below hb, h.st.below hb, fun p hp => ?_, h.below.trans (hb.mono h.room.base_le), h.ne, fun p hp => ?_⟩
  · rcases e with e | e | e | ⟨p, hp, e⟩
    · exact .inl (.inl e)
    · exact .inl (.inr (.inl e))
    · exact .inl (.inr (.inr (.inl e)))
    · rcases List.mem_cons.1 hp with rfl | hp
      · exact .inr ⟨by simp at e; omega, by have := hdd.lt; simp at e; omega⟩
      · exact .inl (.inr (.inr (.inr ⟨p, hp, e⟩)))
  · rcases List.mem_cons.1 hp with rfl | hp
    · exact hdd
    · exact (h.deeds p hp).below hb
  · rcases List.mem_cons.1 hp with rfl | hp
    · have h1 := h.dn.lt
      have h2 := h.st.lt
      have h3 := h.step.lt
      simp only
      omega
    · exact h.ap p hp

/-- The end of a round. -/
theorem rt_of {w0 : World} (h0 : Below w0.heap.size w0 w) (h : TQ w w0.heap.size R G D S X pw sc m x dn st bx wk) (hi : RmI false m) (ht : TT m dn st) : RT w0 R G D S m dn st wk :=
  ⟨⟨pw, sc, h.room.less (fun k e => by rcases e with e | e; exact .inl e; exact .inr (.inl e))⟩, hi, h0.trans h.below, h.ne.1, ht, h.dn, h.st⟩

end

end Go.Proofs.Ytdlmlhmdjfbdiac
