/-
  Plain mathematics of the law FoldLists: deeds in their order, each writer's numbered from 1 on, make a list that may be. No walk.
-/
import Derived.Test.YtcbnnfeelhlapadGreatDoorFAll
namespace Go.Proofs.YtcbnnfeelhlapadGreatDoor
open Go.RowKit
def upd (last : Int → Int) (d : Dd) : Int → Int := fun w => if w = d.by_ then d.no else last w
def lastAt (l : List Dd) : Int → Int := l.foldl upd (fun _ => 0)
def nAt (l : List Dd) : Nat := l.foldl (fun n d => n + d.text.size) 0
theorem lastAt_snoc (l : List Dd) (d : Dd) : lastAt (l ++ [d]) = upd (lastAt l) d := by simp [lastAt]
theorem nAt_snoc (l : List Dd) (d : Dd) : nAt (l ++ [d]) = nAt l + d.text.size := by simp [nAt]
def okAt (ds : List Dd) (i : Nat) : Prop := ∀ d, ds[i]? = some d → wrB d.by_ = true ∧ d.no = lastAt (ds.take i) d.by_ + 1 ∧ d.seen ≤ i
theorem take_snocD (l : List Dd) (k : Nat) (h : k < l.length) : l.take (k + 1) = l.take k ++ [l[k]] := List.take_succ_eq_append_getElem h
theorem last_bound {ds : List Dd} : ∀ (k : Nat), k ≤ ds.length → (∀ i, i < k → okAt ds i) → ∀ w, 0 ≤ lastAt (ds.take k) w ∧ lastAt (ds.take k) w ≤ k
 | 0, _, _, w => by simp [lastAt]
 | k + 1, hk, h, w => by
  have ih := last_bound k (by omega) (fun i hi => h i (by omega))
  obtain ⟨_, h2, _⟩ := h k (by omega) ds[k] (List.getElem?_eq_getElem (by omega))
  rw [take_snocD ds k (by omega), lastAt_snoc, upd]
  have i1 := ih w
  have i2 := ih ds[k].by_
  split <;> omega
theorem made_all : ∀ (suf pre : List Dd) (l : List Ch), (∀ i, i < (pre ++ suf).length → okAt (pre ++ suf) i) → (pre ++ suf).length ≤ 1000 → Made (lastAt pre) pre.length l → l.length = nAt pre → l.length ≤ 200 → (allL l pre.length suf).2.1 = 0 →
 Made (lastAt (pre ++ suf)) (pre ++ suf).length (allL l pre.length suf).1 ∧ (allL l pre.length suf).1.length = nAt (pre ++ suf) ∧ (allL l pre.length suf).1.length ≤ 200
 | [], pre, l, _, _, hm, hn, hl, _ => by
  rw [List.append_nil]
  exact ⟨hm, hn, hl⟩
 | d :: r, pre, l, hok, hlen, hm, hn, hl, hz => by
  have e : pre ++ d :: r = (pre ++ [d]) ++ r := by simp
  have hpl : (pre ++ [d]).length = pre.length + 1 := by simp
  rw [allL] at hz ⊢
  by_cases hc : doC l d ((pre.length : Int) + 1) = 0
  ·rw [if_neg (fun h => h hc)] at hz ⊢
   obtain ⟨h1, h2, h3, h4⟩ := doC_zero hc
   obtain ⟨_, hno, _⟩ := hok pre.length (by simp) d (by simp)
   rw [List.take_left] at hno
   have hsm := doL_len (l := l) (d := d) (number := (pre.length : Int) + 1) (fun hk => (check_parts h1).2.2.2.2.2.2.2.2.2.2.2 hk)
   have hm' : Made (lastAt (pre ++ [d])) (pre.length + 1) (doL l d ((pre.length : Int) + 1)) := by
    rw [lastAt_snoc]
    by_cases hk : d.kind = 1
    ·exact made_put hm h1 hk hno
    ·exact made_take hm h1 hk hno (by simp at hlen; omega)
   have ih := made_all r (pre ++ [d]) (doL l d ((pre.length : Int) + 1)) (by rw [← e]; exact hok) (by rw [← e]; exact hlen) (by rw [hpl]; exact hm') (by rw [nAt_snoc, hsm, hn]) (by rw [hsm]; exact h3) (by rw [hpl]; exact hz)
   rw [hpl] at ih
   rw [e]
   exact ih
  ·rw [if_pos hc] at hz
   exact absurd hz hc
theorem made_nil : Made (fun _ => 0) 0 [] := by
 refine ⟨?_, ?_, ?_, ?_, ?_, ?_, List.Pairwise.nil⟩ <;> intro x hx <;> simp at hx
theorem small_all : ∀ {ds : List Dd} {l : List Ch} {i : Nat}, Small l → (allL l i ds).1.length ≤ 200
 | [], l, i, h => h.len
 | d :: r, l, i, h => by
  rw [allL]
  by_cases hc : doC l d ((i : Int) + 1) = 0
  ·rw [if_neg (fun e => e hc)]
   exact small_all (small_do h.fits hc)
  ·rw [if_pos hc]
   exact Nat.zero_le _
end Go.Proofs.YtcbnnfeelhlapadGreatDoor

/-
  Plain mathematics of a log: who is there, what each has said, the deeds, and what never happens. No walk.
-/
namespace Go.Proofs.YtcbnnfeelhlapadGreatDoor
open Go.RowKit
def setF {α : Type} (f : Int → α) (w : Int) (x : α) : Int → α := fun v => if v = w then x else f v
theorem setF_same {α : Type} (f : Int → α) (w : Int) (x : α) : setF f w x w = x := if_pos rfl
theorem setF_other {α : Type} (f : Int → α) {w v : Int} (x : α) (h : v ≠ w) : setF f w x v = f v := if_neg h
structure Bk where
 ds : List Dd
 here : Int → Bool
 last : Int → Int
 said : Int → Int
def Bk.empty : Bk := ⟨[], fun _ => false, fun _ => 0, fun _ => 0⟩
def Bk.len (b : Bk) : Int := b.ds.length
def Bk.isHere (b : Bk) (w : Int) : Bool := wrB w && b.here w
def Bk.chars (b : Bk) : List Ch := (allL [] 0 b.ds).1
def joinC (b : Bk) (w : Int) : Int := if wrB w = false then 1 else if b.here w = true then 6 else 0
def joinB (b : Bk) (w : Int) : Bk := if joinC b w = 0 then ⟨b.ds, setF b.here w true, b.last, setF b.said w b.len⟩ else b
def joinN (b : Bk) (w : Int) : Int := if joinC b w = 0 then b.last w + 1 else 0
def leaveC (b : Bk) (w : Int) : Int := if b.isHere w = true then 0 else 5
def leaveB (b : Bk) (w : Int) : Bk := if leaveC b w = 0 then ⟨b.ds, setF b.here w false, b.last, b.said⟩ else b
def comesC (b : Bk) (d : Dd) : Int :=
 if b.isHere d.by_ = false then 5 else if d.no ≠ b.last d.by_ + 1 then 7 else if d.seen < b.said d.by_ ∨ b.len < d.seen then 8 else if 120 ≤ b.len then 9 else doC b.chars d (b.len + 1)
def comesB (b : Bk) (d : Dd) : Bk := if comesC b d = 0 then ⟨b.ds ++ [d], b.here, setF b.last d.by_ d.no, setF b.said d.by_ d.seen⟩ else b
def comesN (b : Bk) (d : Dd) : Int := if comesC b d = 0 then b.len + 1 else 0
def saysC (b : Bk) (w seen : Int) : Int := if b.isHere w = false then 5 else if seen < b.said w ∨ b.len < seen then 8 else 0
def saysB (b : Bk) (w seen : Int) : Bk := if saysC b w seen = 0 then ⟨b.ds, b.here, b.last, setF b.said w seen⟩ else b
def leastStep (b : Bk) (n w : Int) : Int := if b.here w = true ∧ b.said w < n then b.said w else n
def leastL (b : Bk) : Int := leastStep b (leastStep b (leastStep b (leastStep b b.len 0) 1) 2) 3
def updS (f : Int → Int) (d : Dd) : Int → Int := setF f d.by_ d.seen
def seenAt (l : List Dd) : Int → Int := l.foldl updS (fun _ => 0)
theorem seenAt_snoc (l : List Dd) (d : Dd) : seenAt (l ++ [d]) = updS (seenAt l) d := by simp [seenAt]
structure Good (b : Bk) : Prop where
 all0 : (allL [] 0 b.ds).2.1 = 0
 small : b.ds.length ≤ 120
 ok : ∀ i, i < b.ds.length → okAt b.ds i
 mono : ∀ i d, b.ds[i]? = some d → seenAt (b.ds.take i) d.by_ ≤ d.seen
 last : ∀ w, b.last w = lastAt b.ds w
 saw : ∀ w, seenAt b.ds w ≤ b.said w
 said : ∀ w, 0 ≤ b.said w ∧ b.said w ≤ b.len
theorem good_empty : Good Bk.empty := by
 refine ⟨rfl, Nat.zero_le _, fun i hi => absurd hi (Nat.not_lt_zero _), fun i d h => ?_, fun w => rfl, fun w => Int.le_refl _, fun w => ⟨Int.le_refl _, Int.le_refl _⟩⟩
 simp [Bk.empty] at h
theorem allL_snoc {d : Dd} : ∀ (ds : List Dd) (l : List Ch) (i : Nat), (allL l i ds).2.1 = 0 → doC (allL l i ds).1 d (((i + ds.length : Nat) : Int) + 1) = 0 →
 allL l i (ds ++ [d]) = (doL (allL l i ds).1 d (((i + ds.length : Nat) : Int) + 1), 0, 0)
 | [], l, i, _, hc => by
  simp only [List.nil_append, List.length_nil, Nat.add_zero, allL] at hc ⊢
  rw [if_neg (fun h => h hc)]
 | e :: r, l, i, h, hc => by
  rw [List.cons_append, allL]
  rw [allL] at h hc
  by_cases he : doC l e ((i : Int) + 1) = 0
  ·rw [if_neg (fun x => x he)] at h hc ⊢
   have hl : i + (e :: r).length = i + 1 + r.length := by simp; omega
   rw [hl] at hc ⊢
   rw [allL_snoc r _ (i + 1) h hc, allL, if_neg (fun x => x he)]
  ·rw [if_pos he] at h
   exact absurd h he
theorem isHere_writer {b : Bk} {w : Int} (h : b.isHere w = true) : wrB w = true ∧ b.here w = true := by
 simpa [Bk.isHere] using h
theorem comes_parts {b : Bk} {d : Dd} (h : comesC b d = 0) : b.isHere d.by_ = true ∧ d.no = b.last d.by_ + 1 ∧ b.said d.by_ ≤ d.seen ∧ d.seen ≤ b.len ∧ b.len < 120 ∧ doC b.chars d (b.len + 1) = 0 := by
 unfold comesC at h
 cases hh : b.isHere d.by_
 ·rw [if_pos hh] at h; cases h
 ·rw [if_neg (by simp [hh])] at h
  by_cases h1 : d.no = b.last d.by_ + 1
  ·rw [if_neg (fun e => e h1)] at h
   by_cases h2 : d.seen < b.said d.by_ ∨ b.len < d.seen
   ·rw [if_pos h2] at h; cases h
   ·rw [if_neg h2] at h
    by_cases h3 : 120 ≤ b.len
    ·rw [if_pos h3] at h; cases h
    ·rw [if_neg h3] at h
     exact ⟨rfl, h1, by omega, by omega, by omega, h⟩
  ·rw [if_pos h1] at h; cases h
theorem good_join {b : Bk} (w : Int) (h : Good b) : Good (joinB b w) := by
 unfold joinB
 split
 ·refine ⟨h.all0, h.small, h.ok, h.mono, h.last, fun v => ?_, fun v => ?_⟩
  ·have h1 := h.saw v
   have h2 := h.said v
   show seenAt b.ds v ≤ setF b.said w b.len v
   by_cases e : v = w
   ·rw [e, setF_same]; rw [e] at h1 h2; omega
   ·rw [setF_other _ _ e]; exact h1
  ·have h2 := h.said v
   show 0 ≤ setF b.said w b.len v ∧ setF b.said w b.len v ≤ b.len
   by_cases e : v = w
   ·rw [e, setF_same]; rw [e] at h2; omega
   ·rw [setF_other _ _ e]; exact h2
 ·exact h
theorem good_leave {b : Bk} (w : Int) (h : Good b) : Good (leaveB b w) := by
 unfold leaveB
 split
 ·exact ⟨h.all0, h.small, h.ok, h.mono, h.last, h.saw, h.said⟩
 ·exact h
theorem good_says {b : Bk} (w seen : Int) (h : Good b) : Good (saysB b w seen) := by
 unfold saysB
 split
 ·rename_i hc
  have hs : b.said w ≤ seen ∧ seen ≤ b.len := by
   unfold saysC at hc
   split at hc
   ·cases hc
   ·split at hc
    ·cases hc
    ·omega
  refine ⟨h.all0, h.small, h.ok, h.mono, h.last, fun v => ?_, fun v => ?_⟩
  ·have h1 := h.saw v
   show seenAt b.ds v ≤ setF b.said w seen v
   by_cases e : v = w
   ·rw [e, setF_same]; rw [e] at h1; omega
   ·rw [setF_other _ _ e]; exact h1
  ·have h2 := h.said v
   show 0 ≤ setF b.said w seen v ∧ setF b.said w seen v ≤ b.len
   by_cases e : v = w
   ·rw [e, setF_same]; rw [e] at h2; omega
   ·rw [setF_other _ _ e]; exact h2
 ·exact h
theorem chars_comes {b : Bk} {d : Dd} (h : Good b) (hc : comesC b d = 0) : allL [] 0 (b.ds ++ [d]) = (doL b.chars d (b.len + 1), 0, 0) := by
 obtain ⟨_, _, _, _, _, h6⟩ := comes_parts hc
 have := allL_snoc (d := d) b.ds [] 0 h.all0 (by rw [Nat.zero_add]; exact h6)
 rw [Nat.zero_add] at this
 exact this
theorem good_comes {b : Bk} (d : Dd) (h : Good b) : Good (comesB b d) := by
 unfold comesB
 split
 ·rename_i hc
  obtain ⟨h1, h2, h3, h4, h5, h6⟩ := comes_parts hc
  have hs0 := h.said d.by_
  have hlen : b.len = (b.ds.length : Int) := rfl
  refine ⟨?_, ?_, ?_, ?_, ?_, ?_, ?_⟩
  ·show (allL [] 0 (b.ds ++ [d])).2.1 = 0
   rw [chars_comes h hc]
  ·show (b.ds ++ [d]).length ≤ 120
   rw [List.length_append]
   show b.ds.length + 1 ≤ 120
   omega
  ·intro i hi e he
   have hi' : i < b.ds.length + 1 := by simpa using hi
   by_cases hil : i < b.ds.length
   ·have he' : b.ds[i]? = some e := by
     rw [← he]
     exact (List.getElem?_append_left hil).symm
    have := h.ok i hil e he'
    show wrB e.by_ = true ∧ e.no = lastAt ((b.ds ++ [d]).take i) e.by_ + 1 ∧ e.seen ≤ i
    rw [List.take_append_of_le_length (by omega)]
    exact this
   ·obtain rfl : i = b.ds.length := by omega
    have he' : e = d := by
     have : (b.ds ++ [d])[b.ds.length]? = some e := he
     simpa using this.symm
    subst he'
    show wrB e.by_ = true ∧ e.no = lastAt ((b.ds ++ [e]).take b.ds.length) e.by_ + 1 ∧ e.seen ≤ (b.ds.length : Int)
    rw [List.take_left, ← h.last]
    exact ⟨(isHere_writer h1).1, h2, h4⟩
  ·intro i e he
   have he0 : (b.ds ++ [d])[i]? = some e := he
   have hi : i < b.ds.length + 1 := by
    have := (List.getElem?_eq_some_iff.1 he0).1
    simpa using this
   show seenAt ((b.ds ++ [d]).take i) e.by_ ≤ e.seen
   by_cases hil : i < b.ds.length
   ·rw [List.take_append_of_le_length (by omega)]
    exact h.mono i e (by rw [← he0]; exact (List.getElem?_append_left hil).symm)
   ·obtain rfl : i = b.ds.length := by omega
    have he' : e = d := by simpa using he0.symm
    subst he'
    rw [List.take_left]
    have := h.saw e.by_
    omega
  ·intro w
   show setF b.last d.by_ d.no w = lastAt (b.ds ++ [d]) w
   rw [lastAt_snoc]
   show (if w = d.by_ then d.no else b.last w) = if w = d.by_ then d.no else lastAt b.ds w
   rw [h.last w]
  ·intro w
   show seenAt (b.ds ++ [d]) w ≤ setF b.said d.by_ d.seen w
   rw [seenAt_snoc, updS]
   by_cases e : w = d.by_
   ·rw [e, setF_same, setF_same]; exact Int.le_refl _
   ·rw [setF_other _ _ e, setF_other _ _ e]; exact h.saw w
  ·intro w
   have hw := h.said w
   show 0 ≤ setF b.said d.by_ d.seen w ∧ setF b.said d.by_ d.seen w ≤ ((b.ds ++ [d]).length : Int)
   rw [List.length_append]
   show 0 ≤ setF b.said d.by_ d.seen w ∧ setF b.said d.by_ d.seen w ≤ ((b.ds.length + 1 : Nat) : Int)
   by_cases e : w = d.by_
   ·rw [e, setF_same]; omega
   ·rw [setF_other _ _ e]; omega
 ·exact h
theorem leastStep_le (b : Bk) (n w : Int) : leastStep b n w ≤ n := by unfold leastStep; split <;> omega
theorem leastStep_said {b : Bk} {n w : Int} (h : b.here w = true) : leastStep b n w ≤ b.said w := by
 unfold leastStep
 split
 ·exact Int.le_refl _
 ·rename_i hc
  by_cases h2 : b.said w < n
  ·exact absurd ⟨h, h2⟩ hc
  ·omega
theorem leastStep_ge {b : Bk} {n w m : Int} (h : m ≤ n) (hw : b.here w = true → m ≤ b.said w) : m ≤ leastStep b n w := by
 unfold leastStep
 split
 ·rename_i hc; exact hw hc.1
 ·exact h
theorem least_len (b : Bk) : leastL b ≤ b.len := by
 unfold leastL
 have h0 := leastStep_le b b.len 0
 have h1 := leastStep_le b (leastStep b b.len 0) 1
 have h2 := leastStep_le b (leastStep b (leastStep b b.len 0) 1) 2
 have h3 := leastStep_le b (leastStep b (leastStep b (leastStep b b.len 0) 1) 2) 3
 omega
theorem least_said {b : Bk} {w : Int} (hw : wrB w = true) (h : b.here w = true) : leastL b ≤ b.said w := by
 have hw' : 0 ≤ w ∧ w ≤ 3 := by simpa [wrB] using hw
 have h1 := leastStep_le b (leastStep b b.len 0) 1
 have h2 := leastStep_le b (leastStep b (leastStep b b.len 0) 1) 2
 have h3 := leastStep_le b (leastStep b (leastStep b (leastStep b b.len 0) 1) 2) 3
 unfold leastL
 rcases (show w = 0 ∨ w = 1 ∨ w = 2 ∨ w = 3 by omega) with rfl | rfl | rfl | rfl
 ·have := leastStep_said (n := b.len) h; omega
 ·have := leastStep_said (n := leastStep b b.len 0) h; omega
 ·have := leastStep_said (n := leastStep b (leastStep b b.len 0) 1) h; omega
 ·exact leastStep_said h
theorem least_ge {b : Bk} {m : Int} (h : m ≤ b.len) (hw : ∀ w, wrB w = true → b.here w = true → m ≤ b.said w) : m ≤ leastL b := by
 unfold leastL
 exact leastStep_ge (leastStep_ge (leastStep_ge (leastStep_ge h (hw 0 (by decide))) (hw 1 (by decide))) (hw 2 (by decide))) (hw 3 (by decide))
theorem least_join {b : Bk} (w : Int) : leastL b ≤ leastL (joinB b w) := by
 unfold joinB
 split
 ·refine least_ge (least_len b) (fun v hv hh => ?_)
  show leastL b ≤ setF b.said w b.len v
  by_cases e : v = w
  ·rw [e, setF_same]; exact least_len b
  ·rw [setF_other _ _ e]
   have hh' : setF b.here w true v = true := hh
   rw [setF_other _ _ e] at hh'
   exact least_said hv hh'
 ·exact Int.le_refl _
theorem least_leave {b : Bk} (w : Int) : leastL b ≤ leastL (leaveB b w) := by
 unfold leaveB
 split
 ·refine least_ge (least_len b) (fun v hv hh => ?_)
  show leastL b ≤ b.said v
  have hh' : setF b.here w false v = true := hh
  by_cases e : v = w
  ·rw [e, setF_same] at hh'; cases hh'
  ·rw [setF_other _ _ e] at hh'
   exact least_said hv hh'
 ·exact Int.le_refl _
theorem least_says {b : Bk} (w seen : Int) : leastL b ≤ leastL (saysB b w seen) := by
 unfold saysB
 split
 ·rename_i hc
  have hs : b.isHere w = true ∧ b.said w ≤ seen := by
   unfold saysC at hc
   cases hh : b.isHere w
   ·rw [if_pos hh] at hc; cases hc
   ·rw [if_neg (by simp [hh])] at hc
    split at hc
    ·cases hc
    ·exact ⟨rfl, by omega⟩
  refine least_ge (least_len b) (fun v hv hh => ?_)
  show leastL b ≤ setF b.said w seen v
  by_cases e : v = w
  ·rw [e, setF_same]
   have := least_said (isHere_writer hs.1).1 (isHere_writer hs.1).2
   omega
  ·rw [setF_other _ _ e]
   exact least_said hv hh
 ·exact Int.le_refl _
theorem comes_least {b : Bk} {d : Dd} (hc : comesC b d = 0) : leastL b ≤ d.seen := by
 obtain ⟨h1, _, h3, _⟩ := comes_parts hc
 have := least_said (isHere_writer h1).1 (isHere_writer h1).2
 omega
theorem least_comes {b : Bk} (d : Dd) : leastL b ≤ leastL (comesB b d) := by
 unfold comesB
 split
 ·rename_i hc
  have hl := comes_least hc
  refine least_ge ?_ (fun v hv hh => ?_)
  ·have := least_len b
   show leastL b ≤ ((b.ds ++ [d]).length : Int)
   rw [List.length_append]
   have e : b.len = (b.ds.length : Int) := rfl
   show leastL b ≤ ((b.ds.length + 1 : Nat) : Int)
   omega
  ·show leastL b ≤ setF b.said d.by_ d.seen v
   by_cases e : v = d.by_
   ·rw [e, setF_same]; exact hl
   ·rw [setF_other _ _ e]
    exact least_said hv hh
 ·exact Int.le_refl _
theorem join_no {b : Bk} {w : Int} (h : joinC b w ≠ 0) : joinB b w = b := by rw [joinB, if_neg h]
theorem leave_no {b : Bk} {w : Int} (h : leaveC b w ≠ 0) : leaveB b w = b := by rw [leaveB, if_neg h]
theorem comes_no {b : Bk} {d : Dd} (h : comesC b d ≠ 0) : comesB b d = b := by rw [comesB, if_neg h]
theorem says_no {b : Bk} {w seen : Int} (h : saysC b w seen ≠ 0) : saysB b w seen = b := by rw [saysB, if_neg h]
theorem small_chars {b : Bk} : b.chars.length ≤ 200 := small_all (sofar_start b.ds).1
theorem lastAt_bound {b : Bk} (h : Good b) (w : Int) : 0 ≤ b.last w ∧ b.last w ≤ b.len := by
 rw [h.last w]
 have := last_bound b.ds.length (Nat.le_refl _) h.ok w
 rw [List.take_length] at this
 exact this
end Go.Proofs.YtcbnnfeelhlapadGreatDoor
