/-
  Plain mathematics of what is done with: the list without it, marks, and how they slide. No walk.
-/
import Derived.Test.YtdlmlhmdjfbdiacFind
import Derived.Test.YtdlmlhmdjfbdiacFPlain
namespace Go.Proofs.Ytdlmlhmdjfbdiac

def doneB (least : Int) (x : Ch) : Bool := decide (x.out ≠ 0 ∧ x.out ≤ least)
def ofL (least : Int) (l : List Ch) : List Ch := l.filter fun x => !doneB least x

theorem ofL_nil (least : Int) : ofL least [] = [] := rfl
theorem ofL_app (least : Int) (a b : List Ch) : ofL least (a ++ b) = ofL least a ++ ofL least b := List.filter_append ..
theorem ofL_one (least : Int) (x : Ch) : ofL least [x] = if doneB least x = true then [] else [x] := by
  cases h : doneB least x <;> simp [ofL, h]
theorem ofL_snoc (least : Int) (l : List Ch) (x : Ch) : ofL least (l ++ [x]) = ofL least l ++ if doneB least x = true then [] else [x] := by
  rw [ofL_app, ofL_one]
theorem ofL_le (least : Int) (l : List Ch) : (ofL least l).length ≤ l.length := List.length_filter_le ..

theorem ofL_take_succ (least : Int) (l : List Ch) (k : Nat) (h : k < l.length) : ofL least (l.take (k + 1)) = ofL least (l.take k) ++ if doneB least l[k] = true then [] else [l[k]] := by
  rw [take_snoc l k h, ofL_snoc]

/-- Cleared again nothing more goes; as far as less, and then as far as more, is as far as more. -/
theorem of_more {less more : Int} (h : less ≤ more) (l : List Ch) : ofL more (ofL less l) = ofL more l := by
  unfold ofL
  rw [List.filter_filter]
  congr 1
  funext x
  by_cases h1 : x.out ≠ 0 ∧ x.out ≤ less
  · have h2 : x.out ≠ 0 ∧ x.out ≤ more := ⟨h1.1, by omega⟩
    simp [doneB, h1, h2]
  · simp only [doneB, h1, decide_false, Bool.not_false, Bool.and_true]
theorem of_again (least : Int) (l : List Ch) : ofL least (ofL least l) = ofL least l := of_more (Int.le_refl _) l

/-- Who has seen the log as far sees none that is done. -/
theorem done_unseen {least seen by_ : Int} {x : Ch} (hs : least ≤ seen) (h : doneB least x = true) : seesC seen by_ x = false := by
  rw [doneB, decide_eq_true_eq] at h
  have h2 : x.out ≠ 0 ∧ x.out ≤ seen := ⟨h.1, by omega⟩
  simp [seesC, seesB, outB, h2]

theorem sees_of {least seen by_ : Int} (hs : least ≤ seen) (l : List Ch) : (ofL least l).filter (seesC seen by_) = l.filter (seesC seen by_) := by
  unfold ofL
  rw [List.filter_filter]
  congr 1
  funext x
  cases h : doneB least x
  · simp
  · simp [done_unseen hs h]
theorem vw_of {least seen : Int} (by_ : Int) (hs : least ≤ seen) (l : List Ch) : vw (ofL least l) seen by_ = vw l seen by_ := by
  unfold vw; rw [sees_of hs]
theorem cnt_of {least seen : Int} (by_ : Int) (hs : least ≤ seen) (l : List Ch) : cnt (ofL least l) seen by_ = cnt l seen by_ := by
  unfold cnt; rw [sees_of hs]

/-- Where a byte that is left stands then. -/
theorem of_split (least : Int) (l : List Ch) (k : Nat) : ofL least l = ofL least (l.take k) ++ ofL least (l.drop k) := by
  rw [← ofL_app, List.take_append_drop]
theorem of_get {least : Int} {l : List Ch} {k : Nat} (h : k < l.length) (hd : doneB least l[k] = false) :
    (ofL least (l.take k)).length < (ofL least l).length ∧ (ofL least l)[(ofL least (l.take k)).length]? = some l[k] ∧ (ofL least l).take ((ofL least (l.take k)).length + 1) = ofL least (l.take (k + 1)) := by
  have e : ofL least l = ofL least (l.take k) ++ l[k] :: ofL least (l.drop (k + 1)) := by
    have e1 : l.drop k = [l[k]] ++ l.drop (k + 1) := by rw [List.drop_eq_getElem_cons h]; rfl
    rw [of_split least l k, e1, ofL_app, ofL_one, hd]
    simp
  have e2 : ofL least (l.take (k + 1)) = ofL least (l.take k) ++ [l[k]] := by
    rw [ofL_take_succ least l k h, hd]; simp
  refine ⟨?_, ?_, ?_⟩
  · rw [e, List.length_append, List.length_cons]; omega
  · rw [e, List.getElem?_append_right (Nat.le_refl _), Nat.sub_self]; rfl
  · rw [e2, e, List.take_append, List.take_of_length_le (by omega)]
    simp

/-! The loop of ClearKeeps: how many of what is left stand ahead. -/

theorem of_take_len (least : Int) (l : List Ch) (k : Nat) : (ofL least (l.take k)).length ≤ (ofL least l).length := by
  rw [of_split least l k, List.length_append]; omega

/-! Marks. -/

structure Mk where
  start : Bool
  by_ : Int
  no : Int
  k : Int
deriving DecidableEq

/-- The mark right behind a byte. -/
def mkOf (x : Ch) : Mk := ⟨false, x.by_, x.no, x.k⟩
def mkStart : Mk := ⟨true, 0, 0, 0⟩
def mkZero : Mk := ⟨false, 0, 0, 0⟩
/-- The mark that stands at a place. -/
def atM (l : List Ch) : Nat → Mk
  | 0 => mkStart
  | p + 1 => match l[p]? with
    | some x => mkOf x
    | none => mkZero
/-- The byte that a mark names. -/
def namedBy (m : Mk) : Ch := ⟨0, m.by_, m.no, m.k, 0, 0, 0⟩
def hitM (m : Mk) (x : Ch) : Bool := decide (m = mkOf x)

/-- Where a mark stands. -/
def findM (m : Mk) (l : List Ch) : Option Nat := l.findIdx? (hitM m)
def placeM (l : List Ch) (m : Mk) : Int :=
  if m = mkStart then 0 else match findM m l with
    | some k => k + 1
    | none => -1

theorem place_bd (l : List Ch) (m : Mk) : -1 ≤ placeM l m ∧ placeM l m ≤ l.length := by
  unfold placeM
  by_cases hm : m = mkStart
  · simp [hm]
  · rw [if_neg hm]
    cases h : findM m l with
    | none => simp
    | some k =>
      have := (List.findIdx?_eq_some_iff_findIdx_eq.1 h).1
      simp; omega

theorem mkOf_start (x : Ch) : mkOf x ≠ mkStart := fun e => by simp [mkOf, mkStart] at e

/-- A place from which one slides ahead, as long as the byte ahead is done. -/
def slideN (least : Int) (l : List Ch) : Nat → Nat
  | 0 => 0
  | p + 1 => match l[p]? with
    | some x => if doneB least x = true then slideN least l p else p + 1
    | none => p + 1

theorem slide_le (least : Int) (l : List Ch) : ∀ p, slideN least l p ≤ p
  | 0 => Nat.le_refl _
  | p + 1 => by
    unfold slideN
    split
    · split
      · exact Nat.le_succ_of_le (slide_le least l p)
      · exact Nat.le_refl _
    · exact Nat.le_refl _

theorem slide_at {least : Int} {l : List Ch} {p : Nat} (h : p < l.length) : slideN least l (p + 1) = if doneB least l[p] = true then slideN least l p else p + 1 := by
  rw [slideN, List.getElem?_eq_getElem h]

/-- Where it comes to stand: at the start, or behind one that is not done. -/
theorem slide_end {least : Int} {l : List Ch} : ∀ {p : Nat}, p ≤ l.length → slideN least l p = 0 ∨ ∃ q, ∃ (hq : q < l.length), slideN least l p = q + 1 ∧ doneB least l[q] = false
  | 0, _ => .inl rfl
  | p + 1, h => by
    rw [slide_at h]
    cases hd : doneB least l[p]
    · exact .inr ⟨p, h, by simp, hd⟩
    · simpa using slide_end (p := p) (by omega)

/-- What is left of what stands ahead is the same. -/
theorem slide_of {least : Int} {l : List Ch} : ∀ {p : Nat}, p ≤ l.length → ofL least (l.take (slideN least l p)) = ofL least (l.take p)
  | 0, _ => rfl
  | p + 1, h => by
    rw [slide_at h, ofL_take_succ least l p h]
    cases hd : doneB least l[p]
    · simp [ofL_take_succ least l p h, hd]
    · simpa using slide_of (p := p) (by omega)

theorem slide_cnt {least seen : Int} (by_ : Int) {l : List Ch} {p : Nat} (hs : least ≤ seen) (h : p ≤ l.length) : cnt (l.take p) seen by_ = cnt (ofL least (l.take (slideN least l p))) seen by_ := by
  rw [slide_of h, cnt_of by_ hs]

/-- No byte stands twice. -/
def Apart (l : List Ch) : Prop := l.Pairwise fun x y => ¬ (x.by_ = y.by_ ∧ x.no = y.no ∧ x.k = y.k)

theorem Apart.of {l : List Ch} (h : Apart l) (least : Int) : Apart (ofL least l) := List.Pairwise.filter _ h

theorem find_at {l : List Ch} (ha : Apart l) {k : Nat} (h : k < l.length) : findM (mkOf l[k]) l = some k := by
  unfold findM
  rw [List.findIdx?_eq_some_iff_getElem]
  refine ⟨h, by simp [hitM], fun j hj => ?_⟩
  have := List.pairwise_iff_getElem.1 ha j k (by omega) h hj
  intro e
  have e' : mkOf l[k] = mkOf l[j] := of_decide_eq_true e
  simp only [mkOf, Mk.mk.injEq, true_and] at e'
  exact this ⟨e'.1.symm, e'.2.1.symm, e'.2.2.symm⟩

theorem place_at {l : List Ch} (ha : Apart l) {p : Nat} (h : p ≤ l.length) : placeM l (atM l p) = p := by
  cases p with
  | zero => simp [placeM, atM]
  | succ p =>
    rw [atM, List.getElem?_eq_getElem h]
    show placeM l (mkOf l[p]) = _
    rw [placeM, if_neg (mkOf_start _), find_at ha h]
    simp

/-- A MARK KEEPS ITS PLACE: slid, it stands in what is left, and has as many bytes ahead that one sees. -/
theorem slide_keeps {least seen : Int} (by_ : Int) {l : List Ch} (ha : Apart l) (hs : least ≤ seen) {p : Nat} (h : p ≤ l.length) :
    ∃ t : Nat, t ≤ (ofL least l).length ∧ placeM (ofL least l) (atM l (slideN least l p)) = t ∧ cnt (l.take p) seen by_ = cnt ((ofL least l).take t) seen by_ := by
  rcases slide_end (least := least) h with e | ⟨q, hq, e, hd⟩
  · refine ⟨0, Nat.zero_le _, by rw [e]; simp [placeM, atM], ?_⟩
    rw [slide_cnt by_ hs h, e]
    rfl
  · obtain ⟨g1, g2, g3⟩ := of_get hq hd
    refine ⟨(ofL least (l.take q)).length + 1, g1, ?_, ?_⟩
    · rw [e, atM, List.getElem?_eq_getElem hq]
      have h3 := find_at (ha.of least) g1
      rw [List.getElem?_eq_getElem g1, Option.some.injEq] at g2
      rw [g2] at h3
      show placeM (ofL least l) (mkOf l[q]) = _
      rw [placeM, if_neg (mkOf_start _), h3]
      simp
    · rw [slide_cnt by_ hs h, e, g3]

/-- The law's own look at a list: found at its own place, each stands once. -/
theorem apart_of {l : List Ch} (h : ∀ k (hk : k < l.length), FindIs l l[k] k) : Apart l := by
  unfold Apart
  rw [List.pairwise_iff_getElem]
  intro i j hi hj hij hs
  rcases h j hj with ⟨k, hk, hno, _, e⟩ | ⟨_, e⟩
  · obtain rfl : j = k := by omega
    have := hno i hij
    rw [sameAt, List.getElem?_eq_getElem hi] at this
    simp [sameB, hs.1, hs.2.1, hs.2.2] at this
  · omega

end Go.Proofs.Ytdlmlhmdjfbdiac
