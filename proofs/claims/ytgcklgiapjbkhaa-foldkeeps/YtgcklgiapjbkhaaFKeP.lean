/-
  Plain mathematics of the law FoldKeeps: where the old bytes stand behind a deed, and what is the same of them. No walk.
-/
import Derived.Test.YtgcklgiapjbkhaaFMeets
import Derived.Test.YtgcklgiapjbkhaaFind
namespace Go.Proofs.Ytgcklgiapjbkhaa

/-- The first half of what is asked of a byte and an old one; the second half. -/
def preB (y old : Ch) : Bool := decide (y.c = old.c) && (sameB y old && decide (y.inn = old.inn))
def fellB (d : Dd) (y old : Ch) : Bool := (decide (y.gone = old.gone) && decide (y.out = old.out)) || (decide (d.kind = 2) && (tookB y.gone d.by_ && (decide (y.out = old.out) || (decide (old.out = 0) || decide (y.out < old.out)))))
def keepB (d : Dd) (y old : Ch) : Bool := preB y old && fellB d y old

/-- The byte that stands, behind a text of t bytes that came in at a place, where the i-th one stood. -/
def shiftAt (pl t i : Nat) : Nat := if pl ≤ i then i + t else i
def keepAt (l x : List Ch) (d : Dd) (pl i : Nat) : Bool :=
  match l[i]?, x[shiftAt pl d.text.size i]? with
  | some old, some y => keepB d y old
  | _, _ => false
def placeK (l : List Ch) (d : Dd) : Nat := if d.kind = 1 then placeL l d else l.length

theorem sameB_refl (x : Ch) : sameB x x = true := by simp [sameB]
theorem preB_refl (x : Ch) : preB x x = true := by simp [preB, sameB_refl]
theorem keepB_refl (d : Dd) (x : Ch) : keepB d x x = true := by simp [keepB, preB_refl, fellB]

theorem keep_fell {d : Dd} {x y : Ch} (hk : d.kind = 2) (h : Fell d x y) : keepB d y x = true := by
  obtain ⟨h1, h2, h3, h4, h5, h6⟩ := h
  have e1 : preB y x = true := by simp [preB, sameB, h1, h2, h3, h4, h5]
  rw [keepB, e1, Bool.true_and, fellB]
  rcases h6 with ⟨h6, h7⟩ | ⟨h6, h7⟩
  · simp [h6, h7]
  · rw [h6]
    simp [hk]
    rcases h7 with h7 | h7 | h7
    · exact .inr (.inl h7)
    · exact .inr (.inr (.inl h7))
    · exact .inr (.inr (.inr h7))

theorem keeps_place {l : List Ch} {d : Dd} {number : Int} (hc : doC l d number = 0) :
    placeK l d ≤ l.length ∧ (∀ i, i < l.length → keepAt l (doL l d number) d (placeK l d) i = true) ∧ ((doL l d number).drop (placeK l d)).take d.text.size = newL d number := by
  obtain ⟨h1, h2, h3, h4⟩ := doC_zero hc
  obtain ⟨hk, hw, _, _, hs0, hs1, ha0, _, hm0, _, hp, ht⟩ := check_parts h1
  by_cases hk1 : d.kind = 1
  · have hpl : placeL l d ≤ l.length := (place_view (l := l) (d := d) (by omega) (by unfold openN; omega)).1
    have e : placeK l d = placeL l d := by rw [placeK, if_pos hk1]
    rw [e]
    refine ⟨hpl, fun i hi => ?_, doL_new hk1 hpl⟩
    have key : (doL l d number)[shiftAt (placeL l d) d.text.size i]? = l[i]? := by
      unfold shiftAt
      split
      · rename_i h; exact doL_high hk1 hpl h
      · rename_i h; exact doL_low hk1 hpl (by omega)
    unfold keepAt
    rw [key, List.getElem?_eq_getElem hi]
    exact keepB_refl d _
  · have hk2 : d.kind = 2 := by omega
    have e : placeK l d = l.length := by rw [placeK, if_neg hk1]
    have hts : d.text.size = 0 := ht hk1
    have hlen : (doL l d number).length = l.length := by rw [doL_len (fun h => hts), hts, Nat.add_zero]
    rw [e]
    refine ⟨Nat.le_refl _, fun i hi => ?_, ?_⟩
    · unfold keepAt shiftAt
      rw [if_neg (by omega), List.getElem?_eq_getElem hi, List.getElem?_eq_getElem (by omega)]
      refine keep_fell hk2 ?_
      have hd : doL l d number = takeL d number 0 l := by rw [doL, if_neg hk1]
      have h' : i < (takeL d number 0 l).length := by rw [← hd]; omega
      have := takeL_fell (number := number) hw l 0 i hi h'
      simpa only [hd] using this
    · have hn : newL d number = [] := List.length_eq_zero_iff.1 (by rw [newL_len]; exact hts)
      rw [hts, List.take_zero, hn]

/-- The longest beginning that is the same reaches as far as the place. -/
theorem keeps_pre {l : List Ch} {d : Dd} {number : Int} (hc : doC l d number = 0) {j : Nat} (hj : j < placeK l d) {y old : Ch} (hy : (doL l d number)[j]? = some y) (ho : l[j]? = some old) : preB y old = true := by
  obtain ⟨h1, h2, _⟩ := keeps_place hc
  have h := h2 j (by omega)
  unfold keepAt shiftAt at h
  rw [if_neg (by omega), ho, hy] at h
  simp only [keepB, Bool.and_eq_true] at h
  exact h.1

/-- All of the first k. -/
def keepTo (l x : List Ch) (d : Dd) (pl k : Nat) : Bool := (List.range k).all (keepAt l x d pl)

theorem keepTo_succ (l x : List Ch) (d : Dd) (pl k : Nat) : keepTo l x d pl (k + 1) = (keepTo l x d pl k && keepAt l x d pl k) := by
  simp [keepTo, List.range_succ, List.all_append]

theorem keepTo_le {l x : List Ch} {d : Dd} {pl k m : Nat} (h : keepTo l x d pl k = false) (hm : k ≤ m) : keepTo l x d pl m = false := by
  rw [keepTo, List.all_eq_false] at h ⊢
  obtain ⟨i, hi, hx⟩ := h
  exact ⟨i, by simp at hi ⊢; omega, hx⟩

theorem keeps_to {l : List Ch} {d : Dd} {number : Int} (hc : doC l d number = 0) : keepTo l (doL l d number) d (placeK l d) l.length = true := by
  rw [keepTo, List.all_eq_true]
  intro i hi
  exact (keeps_place hc).2.1 i (by simpa using hi)

end Go.Proofs.Ytgcklgiapjbkhaa
