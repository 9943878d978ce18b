/-
  Plain mathematics of the story: from one text to the next; a byte stands at one place, and never comes back. No walk.
-/
import Derived.Test.YtfpemdbiplfkgacGreatTSettle
namespace Go.Proofs.YtfpemdbiplfkgacGreat

/-- The bytes of the text of the first n deeds. -/
def visL (ds : List Dd) (n : Nat) : List Ch := (charsTo ds n).filter textB

theorem visL_pre {ds es : List Dd} {n : Nat} (h : n ≤ ds.length) : visL (ds ++ es) n = visL ds n := by
  unfold visL; rw [chars_pre h]

/-- Steps only make the log longer. -/
theorem tDo_ds (t : Twn) (s : Tst) : ∃ es, (tDo t s).2.b.ds = t.b.ds ++ es := by
  have same : ∀ {u : Twn}, u.b.ds = t.b.ds → ∃ es, u.b.ds = t.b.ds ++ es := fun h => ⟨[], by rw [h, List.append_nil]⟩
  unfold tDo
  split
  · exact same rfl
  · split
    · unfold joinT
      show ∃ es, (if joinC t.b s.w = 0 then (⟨joinB t.b s.w, _⟩ : Twn) else t).b.ds = _
      split
      · rename_i hc
        exact ⟨[], by show (joinB t.b s.w).ds = _; rw [joinB, if_pos hc, List.append_nil]⟩
      · exact same rfl
    · cases t.ws s.w with
      | none => exact same rfl
      | some w =>
        show ∃ es, (if s.kind = 2 ∨ s.kind = 3 then ownT t s.w w s else if s.kind = 4 then sendT t s.w w else if s.kind = 5 then hearT t s.w w
          else if s.kind = 6 then (0, ⟨t.b, setF t.ws s.w (some (clearW w (leastFor t.b w.seen)))⟩) else (0, dropT t s.w)).2.b.ds = _
        split
        · unfold ownT
          show ∃ es, (if doC w.list (ownD w s) openN = 0 then (⟨t.b, _⟩ : Twn) else t).b.ds = _
          split
          · exact same rfl
          · exact same rfl
        · split
          · unfold sendT
            cases w.opens[w.sent]? with
            | none => exact same rfl
            | some d =>
              show ∃ es, (if comesC t.b d = 0 then (⟨comesB t.b d, _⟩ : Twn) else dropT t s.w).b.ds = _
              split
              · rename_i hc
                exact ⟨[d], by show (comesB t.b d).ds = _; rw [comes_eq hc]⟩
              · exact same (leave_ds _ _)
          · split
            · exact same (hear_ds _ _ _)
            · split
              · exact same rfl
              · exact same (leave_ds _ _)

theorem text_out {b : Bk} (hg : Good b) {n : Nat} (hn : n ≤ b.ds.length) {x : Ch} (hx : x ∈ charsTo b.ds n) : textB x = decide (x.out = 0) := by
  obtain ⟨hm, _⟩ := chars_made hg n hn
  have h1 := hm.inn x hx
  have h2 := hm.out x hx
  have hs := hg.small
  have e1 : x.inn ≠ 1073741824 := by omega
  have e2 : x.out ≠ 1073741824 := by omega
  unfold textB goneB
  by_cases ho : x.out = 0
  · simp [ho, e1]
  · simp [ho, e1, e2]

theorem sees_text {b : Bk} (hg : Good b) {n : Nat} (hn : n ≤ b.ds.length) {s : Int} (hs : (n : Int) ≤ s) {x : Ch} (hx : x ∈ charsTo b.ds n) : seesC s (-1) x = textB x := by
  rw [text_out hg hn hx]
  obtain ⟨hm, _⟩ := chars_made hg n hn
  have h1 := hm.inn x hx
  have h2 := hm.out x hx
  have hw : wrB (-1) = false := by decide
  have e1 : inB x.inn x.by_ s (-1) = true := by rw [inB, decide_eq_true_eq]; exact .inl (by omega)
  unfold seesC seesB outB
  rw [e1, tookB, hw]
  by_cases ho : x.out = 0
  · simp [ho]
  · have : x.out ≠ 0 ∧ x.out ≤ s := ⟨ho, by omega⟩
    simp [ho, this]

theorem vis_cnt {b : Bk} (hg : Good b) {n : Nat} (hn : n ≤ b.ds.length) {s : Int} (hs : (n : Int) ≤ s) : cnt (charsTo b.ds n) s (-1) = (visL b.ds n).length := by
  unfold cnt visL
  rw [List.filter_congr (fun x hx => sees_text hg hn hs hx)]

/-- A text more at one place. -/
theorem vis_put {b : Bk} (hg : Good b) {n : Nat} (hn : n < b.ds.length) (hk : b.ds[n].kind = 1) : ∃ p r, visL b.ds n = p ++ r ∧ visL b.ds (n + 1) = p ++ (newL b.ds[n] ((n : Int) + 1) ++ r) := by
  obtain ⟨_, s2⟩ := chars_step hg hn
  have hs := hg.small
  refine ⟨((charsTo b.ds n).take (placeL (charsTo b.ds n) b.ds[n])).filter textB, ((charsTo b.ds n).drop (placeL (charsTo b.ds n) b.ds[n])).filter textB, ?_, ?_⟩
  · rw [← List.filter_append, List.take_append_drop]; rfl
  · unfold visL
    rw [s2, doL_put hk, ins, List.filter_append, List.filter_append]
    congr 2
    rw [List.filter_eq_self]
    intro x hx
    obtain ⟨h1, _, h3, _⟩ := new_parts hx
    have e1 : x.inn ≠ 1073741824 := by omega
    simp [textB, goneB, h3, e1]

/-- At most as many bytes less. -/
theorem vis_take {b : Bk} (hg : Good b) {n : Nat} (hn : n < b.ds.length) (hk : b.ds[n].kind ≠ 1) : (visL b.ds (n + 1)).length ≤ (visL b.ds n).length ∧ ((visL b.ds n).length : Int) - b.ds[n].many ≤ (visL b.ds (n + 1)).length := by
  obtain ⟨s1, s2⟩ := chars_step hg hn
  have hp := check_parts (doC_zero s1).1
  have hw := hp.2.1
  have hm := hp.2.2.2.2.2.2.2.2.1
  have hv : (-1 : Int) ≠ b.ds[n].by_ := fun e => by rw [← e] at hw; revert hw; decide
  have h := takeL_near (number := (n : Int) + 1) (seen := (n : Int) + 1) hw hm hv (by omega) (Int.le_refl _) (charsTo b.ds n) 0
  rw [← doL_take hk, ← s2, vis_cnt hg (Nat.le_of_lt hn) (by omega), vis_cnt (n := n + 1) hg hn (by omega)] at h
  have hr : room b.ds[n] 0 ≤ b.ds[n].many := by
    have ha := hp.2.2.2.2.2.2.1
    unfold room
    split
    · omega
    · split <;> omega
  omega

/-- Their common beginning, and their common end behind it. -/
theorem greedy {α : Type} {p t r : List α} {i j : Nat} (hi : i ≤ (p ++ r).length) (hib : i ≤ (p ++ (t ++ r)).length) (stopi : i = (p ++ r).length ∨ i = (p ++ (t ++ r)).length ∨ (p ++ r)[i]? ≠ (p ++ (t ++ r))[i]?)
    (hj : j ≤ (p ++ r).length - i) (stopj : j = (p ++ r).length - i ∨ j = (p ++ (t ++ r)).length - i ∨ (p ++ r)[(p ++ r).length - 1 - j]? ≠ (p ++ (t ++ r))[(p ++ (t ++ r)).length - 1 - j]?) : i + j = (p ++ r).length := by
  have l1 : (p ++ r).length = p.length + r.length := List.length_append
  have l2 : (p ++ (t ++ r)).length = p.length + (t.length + r.length) := by rw [List.length_append, List.length_append]
  have hpi : p.length ≤ i := by
    by_cases c : p.length ≤ i
    · exact c
    · exfalso
      rcases stopi with e | e | e
      · omega
      · omega
      · rw [List.getElem?_append_left (by omega), List.getElem?_append_left (by omega)] at e
        exact e rfl
  rcases stopj with e | e | e
  · omega
  · omega
  · by_cases c : j = (p ++ r).length - i
    · omega
    · exfalso
      have hjr : j < r.length := by omega
      have e1 : (p ++ r)[(p ++ r).length - 1 - j]? = r[r.length - 1 - j]? := by
        rw [List.getElem?_append_right (by omega)]
        congr 1; omega
      have e2 : (p ++ (t ++ r))[(p ++ (t ++ r)).length - 1 - j]? = r[r.length - 1 - j]? := by
        rw [List.getElem?_append_right (by omega), List.getElem?_append_right (by omega)]
        congr 1; omega
      rw [e1, e2] at e
      exact e rfl

/-! A byte stands at one place, and never comes back. -/

theorem mem_takeL {d : Dd} {number : Int} {x : Ch} : ∀ {l : List Ch} {k : Int}, x ∈ l → ∃ j, tk d number j x ∈ takeL d number k l
  | [], _, h => absurd h (by simp)
  | y :: l, k, h => by
    rw [takeL_cons]
    rcases List.mem_cons.1 h with rfl | h
    · exact ⟨k, List.mem_cons_self ..⟩
    · obtain ⟨j, hj⟩ := mem_takeL (d := d) (number := number) (k := nx d k y) h
      exact ⟨j, List.mem_cons_of_mem _ hj⟩

theorem byte_next {b : Bk} (hg : Good b) {n : Nat} (hn : n < b.ds.length) {x : Ch} (hx : x ∈ charsTo b.ds n) : ∃ y ∈ charsTo b.ds (n + 1), y.by_ = x.by_ ∧ y.no = x.no ∧ y.k = x.k ∧ (x.out ≠ 0 → y.out ≠ 0) := by
  obtain ⟨_, s2⟩ := chars_step hg hn
  rw [s2]
  by_cases hk : b.ds[n].kind = 1
  · rw [doL_put hk]
    exact ⟨x, ins_mem.2 (.inr hx), rfl, rfl, rfl, fun h => h⟩
  · rw [doL_take hk]
    obtain ⟨j, hj⟩ := mem_takeL (d := b.ds[n]) (number := (n : Int) + 1) (k := 0) hx
    refine ⟨_, hj, (tk_parts ..).2.1, (tk_parts ..).2.2.2.1, (tk_parts ..).2.2.2.2, fun h => ?_⟩
    unfold tk
    split
    · show markOut ((n : Int) + 1) x.out ≠ 0
      unfold markOut
      split
      · omega
      · exact h
    · exact h

theorem byte_later {b : Bk} (hg : Good b) {x : Ch} {n : Nat} : ∀ (m : Nat), n + m ≤ b.ds.length → x ∈ charsTo b.ds n → ∃ y ∈ charsTo b.ds (n + m), y.by_ = x.by_ ∧ y.no = x.no ∧ y.k = x.k ∧ (x.out ≠ 0 → y.out ≠ 0)
  | 0, _, hx => ⟨x, hx, rfl, rfl, rfl, fun h => h⟩
  | m + 1, hm, hx => by
    obtain ⟨y, hy, h1, h2, h3, h4⟩ := byte_later hg m (by omega) hx
    obtain ⟨z, hz, g1, g2, g3, g4⟩ := byte_next hg (n := n + m) (by omega) hy
    exact ⟨z, hz, g1.trans h1, g2.trans h2, g3.trans h3, fun h => g4 (h4 h)⟩

/-- Is a byte in the text of the first n deeds? -/
def There (ds : List Dd) (n : Nat) (m : Ch) : Prop := ∃ y ∈ visL ds n, y.by_ = m.by_ ∧ y.no = m.no ∧ y.k = m.k

theorem one_byte {b : Bk} (hg : Good b) {n : Nat} (hn : n ≤ b.ds.length) {x y : Ch} (hx : x ∈ charsTo b.ds n) (hy : y ∈ charsTo b.ds n) (h1 : y.by_ = x.by_) (h2 : y.no = x.no) (h3 : y.k = x.k) : x = y := by
  obtain ⟨hm, _⟩ := chars_made hg n hn
  obtain ⟨i, hi, rfl⟩ := List.mem_iff_getElem.1 hx
  obtain ⟨j, hj, rfl⟩ := List.mem_iff_getElem.1 hy
  have hp := List.pairwise_iff_getElem.1 hm.one
  by_cases c : i = j
  · subst c; rfl
  · exfalso
    by_cases l : i < j
    · exact hp i j hi hj l ⟨h1.symm, h2.symm, h3.symm⟩
    · exact hp j i hj hi (by omega) ⟨h1, h2, h3⟩

/-- NEVER AGAIN: who came, and was gone, comes no more. -/
theorem never_again {b : Bk} (hg : Good b) {x : Ch} {n i j : Nat} (hj : n + i + j ≤ b.ds.length) (h1 : There b.ds n x) (h2 : ¬ There b.ds (n + i) x) : ¬ There b.ds (n + i + j) x := by
  rintro ⟨z, hz, g1, g2, g3⟩
  obtain ⟨y, hy, e1, e2, e3⟩ := h1
  unfold visL at hy hz
  rw [List.mem_filter] at hy hz
  obtain ⟨u, hu, u1, u2, u3, _⟩ := byte_later hg i (by omega) hy.1
  have hout : u.out ≠ 0 := by
    intro ho
    refine h2 ⟨u, ?_, u1.trans e1, u2.trans e2, u3.trans e3⟩
    unfold visL
    rw [List.mem_filter]
    refine ⟨hu, ?_⟩
    rw [text_out hg (by omega) hu]
    simpa using ho
  obtain ⟨v, hv, v1, v2, v3, v4⟩ := byte_later hg j hj hu
  have hvz := one_byte hg hj hz.1 hv (by rw [v1, u1, e1, g1]) (by rw [v2, u2, e2, g2]) (by rw [v3, u3, e3, g3])
  subst hvz
  have := hz.2
  rw [text_out hg hj hz.1, decide_eq_true_eq] at this
  exact v4 hout this

end Go.Proofs.YtfpemdbiplfkgacGreat

/-
  Plain mathematics of the story: the list behind all deeds tells each text ahead. No walk.
-/
namespace Go.Proofs.YtfpemdbiplfkgacGreat

/-- What the story tells of a byte. -/
def keyS (x : Ch) : Int × Int × Int × Int := (x.c, x.by_, x.no, x.k)
/-- The bytes that one sees who is no writer. -/
def thenL (l : List Ch) (n : Int) : List Ch := l.filter (seesC n (-1))

theorem thenL_snoc (l : List Ch) (x : Ch) (n : Int) : thenL (l ++ [x]) n = thenL l n ++ if seesC n (-1) x = true then [x] else [] := by
  unfold thenL
  rw [List.filter_append]
  by_cases h : seesC n (-1) x = true <;> simp [h]

theorem thenL_le (l : List Ch) (n : Int) : (thenL l n).length ≤ l.length := List.length_filter_le _ _

theorem sees_none (x : Ch) (n : Int) : seesC n (-1) x = (decide (x.inn ≤ n ∨ x.by_ = -1) && !decide (x.out ≠ 0 ∧ x.out ≤ n)) := by
  have hw : wrB (-1) = false := by decide
  unfold seesC seesB inB outB tookB
  rw [hw]
  simp

theorem then_new {d : Dd} {number n : Int} (hn : n < number) (hb : d.by_ ≠ -1) : thenL (newL d number) n = [] := by
  unfold thenL
  rw [List.filter_eq_nil_iff]
  intro x hx
  obtain ⟨h1, h2, _⟩ := new_parts hx
  rw [sees_none, h1, h2]
  have : ¬ (number ≤ n ∨ d.by_ = -1) := by rintro (h | h); omega; exact hb h
  simp [this]

theorem then_ins {l x : List Ch} {p : Nat} {n : Int} (h : thenL x n = []) : thenL (ins p x l) n = thenL l n := by
  unfold thenL at *
  rw [ins, List.filter_append, List.filter_append, h, List.nil_append, ← List.filter_append, List.take_append_drop]

theorem tk_sees (d : Dd) {number n : Int} (hn : n < number) (h0 : 0 ≤ n) (k : Int) (x : Ch) : seesC n (-1) (tk d number k x) = seesC n (-1) x := by
  obtain ⟨h1, h2, _⟩ := tk_parts d number k x
  rw [sees_none, sees_none, h1, h2]
  congr 2
  rw [decide_eq_decide]
  unfold tk
  split
  · show (markOut number x.out ≠ 0 ∧ markOut number x.out ≤ n) ↔ _
    unfold markOut
    split
    · rename_i h
      constructor
      · rintro ⟨_, h'⟩; omega
      · rintro ⟨h3, h4⟩; omega
    · exact Iff.rfl
  · exact Iff.rfl

theorem then_take (d : Dd) {number n : Int} (hn : n < number) (h0 : 0 ≤ n) : ∀ (l : List Ch) (k : Int), (thenL (takeL d number k l) n).map keyS = (thenL l n).map keyS
  | [], _ => rfl
  | x :: l, k => by
    have ih := then_take d hn h0 l (nx d k x)
    unfold thenL at *
    rw [takeL_cons, List.filter_cons, List.filter_cons, tk_sees d hn h0]
    obtain ⟨h1, h2, h3, h4, h5⟩ := tk_parts d number k x
    by_cases h : seesC n (-1) x = true
    · rw [if_pos h, if_pos h, List.map_cons, List.map_cons, ih]
      congr 1
      unfold keyS
      rw [h2, h3, h4, h5]
    · rw [if_neg h, if_neg h, ih]

theorem then_keys {b : Bk} (hg : Good b) {n : Nat} : ∀ (m : Nat), n + m ≤ b.ds.length → (thenL (charsTo b.ds (n + m)) n).map keyS = (visL b.ds n).map keyS
  | 0, hm => by
    unfold thenL visL
    rw [Nat.add_zero, List.filter_congr (fun x hx => sees_text hg (by omega) (Int.le_refl _) hx)]
  | m + 1, hm => by
    have ih := then_keys hg (n := n) m (by omega)
    obtain ⟨s1, s2⟩ := chars_step hg (i := n + m) (by omega)
    rw [← Nat.add_assoc, s2, ← ih]
    have hw := (check_parts (doC_zero s1).1).2.1
    by_cases hk : b.ds[n + m].kind = 1
    · rw [doL_put hk, then_ins (then_new (by omega) (fun e => by rw [e] at hw; revert hw; decide))]
    · rw [doL_take hk, then_take _ (by omega) (by omega)]

/-- The list behind all deeds tells each text ahead. -/
theorem story_keys {b : Bk} (hg : Good b) {n : Nat} (hn : n ≤ b.ds.length) : (thenL b.chars n).map keyS = (visL b.ds n).map keyS := by
  have h := then_keys hg (n := n) (b.ds.length - n) (by omega)
  rw [show n + (b.ds.length - n) = b.ds.length by omega, chars_all] at h
  exact h

theorem keys_map {α : Type} (f : Int × Int × Int × Int → α) {a b : List Ch} (h : a.map keyS = b.map keyS) : a.map (fun x => f (keyS x)) = b.map (fun x => f (keyS x)) := by
  have := congrArg (List.map f) h
  rw [List.map_map, List.map_map] at this
  exact this

/-- The text of the first n deeds; who put its bytes in. -/
def txS (b : Bk) (n : Int) : List Int := (thenL b.chars n).map (·.c)
def byS (b : Bk) (n : Int) : List Int := (thenL b.chars n).map (·.by_)

theorem story_tx {b : Bk} (hg : Good b) {n : Nat} (hn : n ≤ b.ds.length) : txS b n = (visL b.ds n).map (·.c) := keys_map (fun k => k.1) (story_keys hg hn)
theorem story_by {b : Bk} (hg : Good b) {n : Nat} (hn : n ≤ b.ds.length) : byS b n = (visL b.ds n).map (·.by_) := keys_map (fun k => k.2.1) (story_keys hg hn)

theorem story_text {b : Bk} (hg : Good b) {n : Nat} (hn : n ≤ b.ds.length) : txS b n = textL (charsTo b.ds n) := story_tx hg hn

/-- The place of the same byte, by what the story tells. -/
def whS (l : List Ch) (x : Ch) : Int := match l.findIdx? (fun y => sameB y x) with
  | some i => i
  | none => -1

theorem wh_keys {a b : List Ch} (x : Ch) (h : a.map keyS = b.map keyS) : whS a x = whS b x := by
  have e : ∀ l : List Ch, l.findIdx? (fun y => sameB y x) = (l.map keyS).findIdx? (fun k => decide (k.2.1 = x.by_ ∧ k.2.2.1 = x.no ∧ k.2.2.2 = x.k)) := fun l => by
    rw [List.findIdx?_map]
    rfl
  unfold whS
  rw [e a, e b, h]

theorem story_where {b : Bk} (hg : Good b) {n : Nat} (hn : n ≤ b.ds.length) (x : Ch) : whS (thenL b.chars n) x = whS (visL b.ds n) x := wh_keys x (story_keys hg hn)

theorem wh_none {l : List Ch} {x : Ch} (h : ∀ y ∈ l, sameB y x = false) : whS l x = -1 := by
  unfold whS
  rw [List.findIdx?_eq_none_iff.2 h]

theorem wh_some {l : List Ch} {x : Ch} {i : Nat} (hi : i < l.length) (h1 : sameB l[i] x = true) (h2 : ∀ j (hj : j < i), sameB (l[j]'(by omega)) x = false) : whS l x = i := by
  unfold whS
  rw [List.findIdx?_eq_some_iff_getElem.2 ⟨hi, h1, fun j hj => by rw [h2 j hj]; simp⟩]

theorem wh_cases (l : List Ch) (x : Ch) : (whS l x = -1 ∧ ∀ y ∈ l, sameB y x = false) ∨ ∃ i, ∃ hi : i < l.length, whS l x = (i : Int) ∧ sameB l[i] x = true := by
  unfold whS
  cases h : l.findIdx? (fun y => sameB y x) with
  | none => exact .inl ⟨rfl, List.findIdx?_eq_none_iff.1 h⟩
  | some i =>
    obtain ⟨hi, h1, _⟩ := List.findIdx?_eq_some_iff_getElem.1 h
    exact .inr ⟨i, hi, rfl, h1⟩

theorem same_keys {y x : Ch} : sameB y x = true ↔ y.by_ = x.by_ ∧ y.no = x.no ∧ y.k = x.k := by
  unfold sameB
  rw [decide_eq_true_eq]

theorem there_wh {b : Bk} {n : Nat} {x : Ch} : There b.ds n x ↔ 0 ≤ whS (visL b.ds n) x := by
  unfold There
  rcases wh_cases (visL b.ds n) x with ⟨e, h⟩ | ⟨i, hi, e, h⟩
  · rw [e]
    constructor
    · rintro ⟨y, hy, hk⟩
      have := h y hy
      rw [same_keys.2 hk] at this
      cases this
    · intro h; omega
  · rw [e]
    constructor
    · intro _; omega
    · intro _
      exact ⟨_, List.getElem_mem hi, same_keys.1 h⟩

/-- What was there, and is there no more, comes no more. -/
theorem wh_never {b : Bk} (hg : Good b) {x : Ch} {i j k : Nat} (h1 : i ≤ j) (h2 : j ≤ k) (hk : k ≤ b.ds.length) (h3 : 0 ≤ whS (thenL b.chars i) x) (h4 : whS (thenL b.chars j) x < 0) : whS (thenL b.chars k) x < 0 := by
  rw [story_where hg (by omega)] at h3 h4 ⊢
  have e1 := there_wh.2 h3
  have e2 : ¬ There b.ds (i + (j - i)) x := by
    rw [show i + (j - i) = j by omega]
    intro h
    have := there_wh.1 h
    omega
  have := never_again hg (n := i) (i := j - i) (j := k - j) (by omega) e1 e2
  rw [show i + (j - i) + (k - j) = k by omega, there_wh] at this
  omega

/-- Who put it in. -/
theorem wh_by {l : List Ch} {x : Ch} {i : Nat} (h : whS l x = i) : ∃ hi : i < (l.map (·.by_)).length, (l.map (·.by_))[i] = x.by_ := by
  rcases wh_cases l x with ⟨e, _⟩ | ⟨j, hj, e, h1⟩
  · omega
  · obtain rfl : j = i := by omega
    refine ⟨by rw [List.length_map]; exact hj, ?_⟩
    rw [List.getElem_map]
    exact (same_keys.1 h1).1

theorem wh_lt (l : List Ch) (x : Ch) : -1 ≤ whS l x ∧ whS l x < l.length := by
  rcases wh_cases l x with ⟨e, _⟩ | ⟨j, hj, e, h1⟩
  · omega
  · omega


end Go.Proofs.YtfpemdbiplfkgacGreat

/-
  Plain mathematics of StoryGrows: common beginnings and common ends of what the story tells. No walk.
-/
namespace Go.Proofs.YtfpemdbiplfkgacGreat

def pairS (x : Ch) : Int × Int := (x.c, x.by_)
/-- The text of the first n deeds, each byte with who put it in. -/
def prS (b : Bk) (n : Int) : List (Int × Int) := (thenL b.chars n).map pairS

theorem prS_tx (b : Bk) (n : Int) (i : Nat) : (txS b n)[i]? = ((prS b n)[i]?).map (·.1) := by
  unfold txS prS
  rw [List.getElem?_map, List.getElem?_map, Option.map_map]
  rfl
theorem prS_by (b : Bk) (n : Int) (i : Nat) : (byS b n)[i]? = ((prS b n)[i]?).map (·.2) := by
  unfold byS prS
  rw [List.getElem?_map, List.getElem?_map, Option.map_map]
  rfl
theorem prS_len (b : Bk) (n : Int) : (prS b n).length = (thenL b.chars n).length := List.length_map ..
theorem txS_len (b : Bk) (n : Int) : (txS b n).length = (thenL b.chars n).length := List.length_map ..
theorem byS_len (b : Bk) (n : Int) : (byS b n).length = (thenL b.chars n).length := List.length_map ..

theorem story_pr {b : Bk} (hg : Good b) {n : Nat} (hn : n ≤ b.ds.length) : prS b n = (visL b.ds n).map pairS := keys_map (fun k => (k.1, k.2.1)) (story_keys hg hn)
theorem then_len {b : Bk} (hg : Good b) {n : Nat} (hn : n ≤ b.ds.length) : (thenL b.chars n).length = (visL b.ds n).length := by
  have := congrArg List.length (story_keys hg hn)
  rwa [List.length_map, List.length_map] at this

/-- Two texts are alike at a place, or not. -/
theorem grows_put {b : Bk} (hg : Good b) {n : Nat} (hn : n < b.ds.length) (hk : b.ds[n].kind = 1) {la lb i j : Nat} (ha : la = (thenL b.chars n).length) (hb : lb = (thenL b.chars ((n + 1 : Nat) : Int)).length) (hi : i ≤ la) (hib : i ≤ lb)
    (stopi : i = la ∨ i = lb ∨ (prS b n)[i]? ≠ (prS b ((n + 1 : Nat) : Int))[i]?) (hj : j ≤ la - i)
    (stopj : j = la - i ∨ j = lb - i ∨ (prS b n)[la - 1 - j]? ≠ (prS b ((n + 1 : Nat) : Int))[lb - 1 - j]?) : lb = la + b.ds[n].text.size ∧ i + j = la := by
  obtain ⟨p, r, h1, h2⟩ := vis_put hg hn hk
  rw [story_pr hg (by omega), story_pr hg (n := n + 1) (by omega), h1, h2, List.map_append, List.map_append, List.map_append] at stopi stopj
  rw [then_len hg (by omega), h1] at ha
  rw [then_len hg (n := n + 1) (by omega), h2] at hb
  have e1 : la = (p.map pairS ++ r.map pairS).length := by rw [ha, ← List.map_append, List.length_map]
  have e2 : lb = (p.map pairS ++ ((newL b.ds[n] ((n : Int) + 1)).map pairS ++ r.map pairS)).length := by rw [hb, ← List.map_append, ← List.map_append, List.length_map]
  rw [e1, e2] at stopi stopj
  rw [e1] at hi hj
  rw [e2] at hib
  have hg := greedy hi hib stopi hj stopj
  refine ⟨?_, by rw [hg, ← e1]⟩
  rw [ha, hb, List.length_append, List.length_append, List.length_append, newL_len]
  omega

theorem grows_take {b : Bk} (hg : Good b) {n : Nat} (hn : n < b.ds.length) (hk : b.ds[n].kind ≠ 1) {la lb : Nat} (ha : la = (thenL b.chars n).length) (hb : lb = (thenL b.chars ((n + 1 : Nat) : Int)).length) : lb ≤ la ∧ (la : Int) - b.ds[n].many ≤ lb := by
  rw [then_len hg (by omega)] at ha
  rw [then_len hg (n := n + 1) (by omega)] at hb
  have := vis_take hg hn hk
  omega

/-- Bytes of two texts that stand for the same numbers. -/
theorem str_same {la lb : List Int} {i j : Nat} (h : la[i]? = lb[j]?) (hi : i < (strOfNums la).size) (hj : j < (strOfNums lb).size) : (strOfNums la)[i] = (strOfNums lb)[j] := by
  rw [← getB _ _ hi, ← getB _ _ hj]
  have e : ∀ (l : List Int) (k : Nat), (strOfNums l).data.toList[k]? = (l[k]?).map fun x => UInt8.ofNat x.toNat := fun l k => by
    rw [strOfNums_data, List.getElem?_map]
  have h1 := e la i
  have h2 := e lb j
  rw [h, ← h2] at h1
  have q1 : (strOfNums la).data.toList[i]? = some ((strOfNums la).data.toList[i]'hi) := List.getElem?_eq_getElem (l := (strOfNums la).data.toList) hi
  have q2 : (strOfNums lb).data.toList[j]? = some ((strOfNums lb).data.toList[j]'hj) := List.getElem?_eq_getElem (l := (strOfNums lb).data.toList) hj
  exact Option.some.inj (q1.symm.trans (h1.trans q2))

/-- What the law asks of two texts that stand beside each other. -/
structure GrF (sa sb : ByteArray) (pz qz : List Int) (kind many : Int) (ts : Nat) (E : Nat → Nat → Prop) : Prop where
  lp : pz.length = sa.size
  lq : qz.length = sb.size
  la : sa.size ≤ 200
  lb : sb.size ≤ 200
  byte : ∀ i j (hi : i < sa.size) (hj : j < sb.size), E i j → sa[i] = sb[j]
  by_ : ∀ i j (hi : i < pz.length) (hj : j < qz.length), E i j → pz[i] = qz[j]
  ml : 0 ≤ many ∧ many ≤ 200
  put : kind = 1 → ∀ i j, i ≤ sa.size → i ≤ sb.size → (i = sa.size ∨ i = sb.size ∨ ¬ E i i) → j ≤ sa.size - i → (j = sa.size - i ∨ j = sb.size - i ∨ ¬ E (sa.size - 1 - j) (sb.size - 1 - j)) → sb.size = sa.size + ts ∧ i + j = sa.size
  take : kind ≠ 1 → sb.size ≤ sa.size ∧ (sa.size : Int) - many ≤ sb.size

theorem grF {b : Bk} (hg : Good b) {m : Nat} (hm : m < b.ds.length) : GrF (strOfNums (txS b (m : Int))) (strOfNums (txS b ((m + 1 : Nat) : Int))) (byS b (m : Int)) (byS b ((m + 1 : Nat) : Int)) b.ds[m].kind b.ds[m].many b.ds[m].text.size (fun i j => (prS b (m : Int))[i]? = (prS b ((m + 1 : Nat) : Int))[j]?) := by
  have hsa : (strOfNums (txS b (m : Int))).size = (thenL b.chars (m : Int)).length := by rw [strOfNums_size, txS_len]
  have hsb : (strOfNums (txS b ((m + 1 : Nat) : Int))).size = (thenL b.chars ((m + 1 : Nat) : Int)).length := by rw [strOfNums_size, txS_len]
  have hc := small_chars (b := b)
  have h1 := thenL_le b.chars (m : Int)
  have h2 := thenL_le b.chars ((m + 1 : Nat) : Int)
  have hp := check_parts (doC_zero (chars_step hg hm).1).1
  refine ⟨by rw [hsa, byS_len], by rw [hsb, byS_len], by omega, by omega, fun i j hi hj he => ?_, fun i j hi hj he => ?_, ⟨hp.2.2.2.2.2.2.2.2.1, hp.2.2.2.2.2.2.2.2.2.1⟩, fun hk i j a1 a2 a3 a4 a5 => ?_, fun hk => ?_⟩
  · refine str_same ?_ hi hj
    rw [prS_tx, prS_tx, he]
  · have : (byS b (m : Int))[i]? = (byS b ((m + 1 : Nat) : Int))[j]? := by rw [prS_by, prS_by, he]
    rw [List.getElem?_eq_getElem hi, List.getElem?_eq_getElem hj] at this
    exact Option.some.inj this
  · exact grows_put hg hm hk hsa hsb a1 a2 a3 a4 a5
  · exact grows_take hg hm hk hsa hsb

end Go.Proofs.YtfpemdbiplfkgacGreat
