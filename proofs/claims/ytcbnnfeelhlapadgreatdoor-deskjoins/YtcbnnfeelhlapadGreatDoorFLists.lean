/-
  Plain mathematics: what deeds make, one behind the other, is a list that may be; and two texts at the same place. No walk.
-/
import Derived.Test.YtcbnnfeelhlapadGreatDoorCheck
namespace Go.Proofs.YtcbnnfeelhlapadGreatDoor
def mayC (l : List Ch) (d : Dd) : Int :=
 if checkC d ≠ 0 then checkC d else if cnt l d.seen d.by_ < d.at_ + d.many then 1 else if 200 < l.length + d.text.size then 9 else 0
def doC (l : List Ch) (d : Dd) (number : Int) : Int := if mayC l d ≠ 0 then mayC l d else if number < 1 then 1 else 0
def allL : List Ch → Nat → List Dd → (List Ch) × Int × Nat
 | l, _, [] => (l, 0, 0)
 | l, i, d :: r => if doC l d (i + 1) ≠ 0 then ([], doC l d (i + 1), i) else allL (doL l d (i + 1)) (i + 1) r
theorem doC_zero {l : List Ch} {d : Dd} {number : Int} (h : doC l d number = 0) : checkC d = 0 ∧ d.at_ + d.many ≤ cnt l d.seen d.by_ ∧ l.length + d.text.size ≤ 200 ∧ 1 ≤ number := by
 unfold doC at h
 by_cases hm : mayC l d = 0
 ·rw [if_neg (by simp [hm])] at h
  unfold mayC at hm
  by_cases hc : checkC d = 0
  ·rw [if_neg (by simp [hc])] at hm
   by_cases h1 : cnt l d.seen d.by_ < d.at_ + d.many
   ·rw [if_pos h1] at hm; cases hm
   ·rw [if_neg h1] at hm
    by_cases h2 : 200 < l.length + d.text.size
    ·rw [if_pos h2] at hm; cases hm
    ·by_cases h3 : number < 1
     ·rw [if_pos h3] at h; cases h
     ·exact ⟨hc, by omega, by omega, by omega⟩
  ·rw [if_pos hc] at hm; exact absurd hm hc
 ·rw [if_pos hm] at h; exact absurd h hm
structure Made (last : Int → Int) (i : Nat) (l : List Ch) : Prop where
 wr : ∀ x ∈ l, wrB x.by_ = true
 no : ∀ x ∈ l, 1 ≤ x.no ∧ x.no ≤ last x.by_
 k : ∀ x ∈ l, 0 ≤ x.k ∧ x.k ≤ 19
 gone : ∀ x ∈ l, 0 ≤ x.gone ∧ x.gone ≤ 15
 inn : ∀ x ∈ l, 1 ≤ x.inn ∧ x.inn ≤ i
 out : ∀ x ∈ l, 0 ≤ x.out ∧ x.out ≤ i ∧ (x.out ≠ 0 → x.inn < x.out ∧ x.gone ≠ 0)
 one : l.Pairwise fun x y => ¬ (x.by_ = y.by_ ∧ x.no = y.no ∧ x.k = y.k)
theorem check_parts {d : Dd} (h : checkC d = 0) : (d.kind = 1 ∨ d.kind = 2) ∧ wrB d.by_ = true ∧ 1 ≤ d.no ∧ d.no ≤ 120 ∧ 0 ≤ d.seen ∧ d.seen ≤ 120 ∧ 0 ≤ d.at_ ∧ d.at_ ≤ 200 ∧ 0 ≤ d.many ∧ d.many ≤ 200 ∧ (d.kind = 1 → 1 ≤ d.text.size ∧ d.text.size ≤ 20 ∧ d.many = 0) ∧ (d.kind ≠ 1 → d.text.size = 0) := by
 unfold checkC at h
 by_cases hk : d.kind = 1 ∨ d.kind = 2
 ·rw [if_neg (by omega)] at h
  cases hp : placedB d
  ·rw [if_pos hp] at h; cases h
  ·rw [if_neg (by simp [hp])] at h
   simp [placedB, withinB] at hp
   obtain ⟨h1, ⟨h2, h3⟩, ⟨h4, h5⟩, h6, h7⟩ := hp
   by_cases h1k : d.kind = 1
   ·rw [if_pos h1k, putC] at h
    by_cases hm : d.many = 0
    ·rw [if_neg (by simp [hm])] at h
     cases ht : printedB d.text
     ·rw [ht] at h; cases h
     ·simp [printedB] at ht
      exact ⟨hk, h1, h2, h3, h4, h5, h6, h7, by omega, by omega, fun _ => ⟨ht.1.1, ht.1.2, hm⟩, fun hh => absurd h1k hh⟩
    ·rw [if_pos hm] at h; cases h
   ·rw [if_neg h1k, takeC] at h
    by_cases ht : d.text.size = 0
    ·rw [if_neg (by simp [ht])] at h
     cases hm : withinB d.many 1 200
     ·rw [hm] at h; cases h
     ·simp [withinB] at hm
      exact ⟨hk, h1, h2, h3, h4, h5, h6, h7, by omega, by omega, fun hh => absurd hh h1k, fun _ => ht⟩
    ·rw [if_pos ht] at h; cases h
 ·rw [if_pos (by omega)] at h; cases h
theorem pair_new (d : Dd) (number : Int) : ∀ (k : Nat) (l : List UInt8), (newFrom d number k l).Pairwise fun x y => ¬ (x.by_ = y.by_ ∧ x.no = y.no ∧ x.k = y.k)
 | _, [] => List.Pairwise.nil
 | k, b :: r => by
  rw [newFrom, List.pairwise_cons]
  refine ⟨fun y hy => ?_, pair_new d number (k + 1) r⟩
  obtain ⟨j, c, rfl, h1, _, _⟩ := newFrom_mem hy
  rintro ⟨_, _, h⟩
  have h' : (k : Int) = j := h
  omega
theorem made_put {last : Int → Int} {i : Nat} {l : List Ch} {d : Dd} (hm : Made last i l) (h : checkC d = 0) (hk : d.kind = 1) (hno : d.no = last d.by_ + 1) : Made (fun w => if w = d.by_ then d.no else last w) (i + 1) (doL l d (i + 1)) := by
 obtain ⟨_, hw, hn1, _, _, _, _, _, _, _, hp, _⟩ := check_parts h
 obtain ⟨t1, t2, _⟩ := hp hk
 have hmem : ∀ x ∈ doL l d (i + 1), x ∈ l ∨ x ∈ newL d (i + 1) := by
  intro x hx
  rw [doL, if_pos hk, List.mem_append, List.mem_append] at hx
  rcases hx with hx | hx | hx
  ·exact .inl (List.mem_of_mem_take hx)
  ·exact .inr hx
  ·exact .inl (List.mem_of_mem_drop hx)
 have hnew : ∀ x ∈ newL d (i + 1), ∃ j : Nat, ∃ b, x = newCh d (i + 1) j b ∧ j < d.text.size := by
  intro x hx
  obtain ⟨j, b, rfl, _, h2, _⟩ := newFrom_mem hx
  exact ⟨j, b, rfl, by rw [← size_list]; omega⟩
 have hlast : ∀ x ∈ l, x.no ≤ (fun w => if w = d.by_ then d.no else last w) x.by_ := by
  intro x hx
  have := (hm.no x hx).2
  show x.no ≤ if x.by_ = d.by_ then d.no else last x.by_
  split
  ·rename_i e; rw [e] at this; omega
  ·exact this
 refine ⟨fun x hx => ?_, fun x hx => ?_, fun x hx => ?_, fun x hx => ?_, fun x hx => ?_, fun x hx => ?_, ?_⟩
 ·rcases hmem x hx with hx | hx
  ·exact hm.wr x hx
  ·obtain ⟨j, b, rfl, _⟩ := hnew x hx; exact hw
 ·rcases hmem x hx with hx | hx
  ·exact ⟨(hm.no x hx).1, hlast x hx⟩
  ·obtain ⟨j, b, rfl, _⟩ := hnew x hx
   refine ⟨hn1, ?_⟩
   show d.no ≤ if d.by_ = d.by_ then d.no else last d.by_
   rw [if_pos rfl]
   exact Int.le_refl _
 ·rcases hmem x hx with hx | hx
  ·exact hm.k x hx
  ·obtain ⟨j, b, rfl, hj⟩ := hnew x hx
   show 0 ≤ (j : Int) ∧ (j : Int) ≤ 19
   omega
 ·rcases hmem x hx with hx | hx
  ·exact hm.gone x hx
  ·obtain ⟨j, b, rfl, hj⟩ := hnew x hx
   show (0 : Int) ≤ 0 ∧ (0 : Int) ≤ 15
   decide
 ·rcases hmem x hx with hx | hx
  ·have := hm.inn x hx
   omega
  ·obtain ⟨j, b, rfl, hj⟩ := hnew x hx
   show (1 : Int) ≤ (i : Int) + 1 ∧ (i : Int) + 1 ≤ ((i + 1 : Nat) : Int)
   omega
 ·rcases hmem x hx with hx | hx
  ·have := hm.out x hx
   exact ⟨this.1, by omega, this.2.2⟩
  ·obtain ⟨j, b, rfl, hj⟩ := hnew x hx
   exact ⟨Int.le_refl 0, by show (0 : Int) ≤ ((i + 1 : Nat) : Int); omega, fun e => absurd rfl e⟩
 ·rw [doL, if_pos hk, List.pairwise_append, List.pairwise_append]
  have hpart := hm.one
  rw [← List.take_append_drop (placeL l d) l, List.pairwise_append] at hpart
  have hdiff : ∀ x ∈ l, ∀ y ∈ newL d (i + 1), ¬ (x.by_ = y.by_ ∧ x.no = y.no ∧ x.k = y.k) := by
   rintro x hx y hy ⟨h1, h2, _⟩
   obtain ⟨j, b, rfl, _⟩ := hnew y hy
   have := (hm.no x hx).2
   have h1' : x.by_ = d.by_ := h1
   have h2' : x.no = d.no := h2
   rw [h1'] at this
   omega
  refine ⟨hpart.1, ⟨pair_new d (i + 1) 0 _, hpart.2.1, fun y hy x hx e => hdiff x (List.mem_of_mem_drop hx) y hy ⟨e.1.symm, e.2.1.symm, e.2.2.symm⟩⟩, fun x hx y hy => ?_⟩
  rcases List.mem_append.1 hy with hy | hy
  ·exact hdiff x (List.mem_of_mem_take hx) y hy
  ·exact hpart.2.2 x hx y hy
theorem gone_add {g w : Int} (hw : wrB w = true) (h : tookB g w = false) (h0 : 0 ≤ g) (h1 : g ≤ 15) : 0 ≤ g + 2 ^ w.toNat ∧ g + 2 ^ w.toNat ≤ 15 ∧ g + 2 ^ w.toNat ≠ 0 := by
 have hw' : 0 ≤ w ∧ w ≤ 3 := by simpa [wrB] using hw
 rw [tookB, hw, Bool.true_and, bitB] at h
 have h' : ¬ g / 2 ^ w.toNat % 2 = 1 := by simpa using h
 rcases (show w = 0 ∨ w = 1 ∨ w = 2 ∨ w = 3 by omega) with rfl | rfl | rfl | rfl <;> (simp at h' ⊢; omega)
theorem takeL_mem {d : Dd} {number : Int} {y : Ch} : ∀ {l : List Ch} {k : Int}, y ∈ takeL d number k l → ∃ x ∈ l, y = x ∨ (seesC d.seen d.by_ x = true ∧ y = mark d.by_ number x)
 | [], k, h => by simp [takeL] at h
 | x :: r, k, h => by
  rw [takeL_cons, List.mem_cons] at h
  rcases h with rfl | h
  ·refine ⟨x, by simp, ?_⟩
   unfold tk
   split
   ·rename_i hc; exact .inr ⟨hc.1, rfl⟩
   ·exact .inl rfl
  ·obtain ⟨z, hz, hy⟩ := takeL_mem h
   exact ⟨z, by simp [hz], hy⟩
theorem takeL_pair {d : Dd} {number : Int} : ∀ {l : List Ch} {k : Int}, l.Pairwise (fun x y => ¬ (x.by_ = y.by_ ∧ x.no = y.no ∧ x.k = y.k)) → (takeL d number k l).Pairwise fun x y => ¬ (x.by_ = y.by_ ∧ x.no = y.no ∧ x.k = y.k)
 | [], k, _ => List.Pairwise.nil
 | x :: r, k, h => by
  rw [List.pairwise_cons] at h
  rw [takeL_cons, List.pairwise_cons]
  have hx : (tk d number k x).by_ = x.by_ ∧ (tk d number k x).no = x.no ∧ (tk d number k x).k = x.k := by
   unfold tk
   split <;> exact ⟨rfl, rfl, rfl⟩
  refine ⟨fun y hy => ?_, takeL_pair h.2⟩
  obtain ⟨z, hz, hyz⟩ := takeL_mem hy
  rw [hx.1, hx.2.1, hx.2.2]
  rcases hyz with rfl | ⟨_, rfl⟩
  ·exact h.1 _ hz
  ·exact h.1 z hz
theorem made_take {last : Int → Int} {i : Nat} {l : List Ch} {d : Dd} (hm : Made last i l) (h : checkC d = 0) (hk : d.kind ≠ 1) (hno : d.no = last d.by_ + 1) (hi : i < 1000) : Made (fun w => if w = d.by_ then d.no else last w) (i + 1) (doL l d (i + 1)) := by
 obtain ⟨_, hw, hn1, _, _, _, _, _, _, _, _, _⟩ := check_parts h
 rw [doL, if_neg hk]
 have hlast : ∀ x ∈ l, x.no ≤ (fun w => if w = d.by_ then d.no else last w) x.by_ := by
  intro x hx
  have := (hm.no x hx).2
  show x.no ≤ if x.by_ = d.by_ then d.no else last x.by_
  split
  ·rename_i e; rw [e] at this; omega
  ·exact this
 refine ⟨fun y hy => ?_, fun y hy => ?_, fun y hy => ?_, fun y hy => ?_, fun y hy => ?_, fun y hy => ?_, takeL_pair hm.one⟩
 all_goals obtain ⟨x, hx, hyx⟩ := takeL_mem hy
 ·rcases hyx with rfl | ⟨_, rfl⟩
  ·exact hm.wr _ hx
  ·exact hm.wr x hx
 ·rcases hyx with rfl | ⟨_, rfl⟩
  ·exact ⟨(hm.no _ hx).1, hlast _ hx⟩
  ·exact ⟨(hm.no x hx).1, hlast x hx⟩
 ·rcases hyx with rfl | ⟨_, rfl⟩
  ·exact hm.k _ hx
  ·exact hm.k x hx
 ·rcases hyx with rfl | ⟨hs, rfl⟩
  ·exact hm.gone _ hx
  ·have hg := hm.gone x hx
   have := gone_add hw (sees_took hs) hg.1 hg.2
   exact ⟨this.1, this.2.1⟩
 ·rcases hyx with rfl | ⟨_, rfl⟩
  ·have := hm.inn _ hx; omega
  ·have := hm.inn x hx
   show 1 ≤ x.inn ∧ x.inn ≤ ((i + 1 : Nat) : Int)
   omega
 ·rcases hyx with rfl | ⟨hs, rfl⟩
  ·have := hm.out _ hx
   exact ⟨this.1, by omega, this.2.2⟩
  ·have ho := hm.out x hx
   have hin := hm.inn x hx
   have hg := hm.gone x hx
   have hga := gone_add hw (sees_took hs) hg.1 hg.2
   show 0 ≤ markOut ((i : Int) + 1) x.out ∧ markOut ((i : Int) + 1) x.out ≤ ((i + 1 : Nat) : Int) ∧ (markOut ((i : Int) + 1) x.out ≠ 0 → x.inn < markOut ((i : Int) + 1) x.out ∧ x.gone + 2 ^ d.by_.toNat ≠ 0)
   unfold markOut
   split
   ·refine ⟨by omega, by omega, fun _ => ⟨by omega, hga.2.2⟩⟩
   ·refine ⟨ho.1, by omega, fun hne => ⟨(ho.2.2 hne).1, hga.2.2⟩⟩
def Plain (n : Int) (l : List Ch) : Prop := ∀ x ∈ l, x.inn ≤ n ∧ x.out = 0 ∧ x.gone = 0
theorem made_check {last : Int → Int} {i : Nat} {l : List Ch} (hm : Made last i l) (hl : l.length ≤ 200) {r : Int} (h : CheckIs l i r) : r = 0 := by
 have hz : ∀ j, j < l.length → faultAt l i j = 0 := by
  intro j hj
  unfold faultAt
  rw [List.getElem?_eq_getElem hj]
  have hx : l[j] ∈ l := List.getElem_mem hj
  have h1 : oneFault l[j] i = 0 := by
   unfold oneFault
   have a1 := hm.wr _ hx
   have a2 := hm.no _ hx
   have a3 := hm.k _ hx
   have a4 := hm.gone _ hx
   have a5 := hm.inn _ hx
   have a6 := hm.out _ hx
   have n1 : namedB l[j] = true := by
    simp only [namedB, a1, withinB, Bool.true_and, Bool.and_eq_true, decide_eq_true_eq]
    omega
   have n2 : numberedB l[j] i = true := by
    simp only [numberedB, withinB, Bool.and_eq_true, Bool.or_eq_true, decide_eq_true_eq]
    exact ⟨.inr a5, a6.1, a6.2.1⟩
   have n3 : formB l[j] = false := by
    unfold formB
    by_cases ho : l[j].out = 0
    ·simp [ho]
    ·have := a6.2.2 ho
     have e1 : decide (l[j].out ≤ l[j].inn) = false := decide_eq_false (by omega)
     have e2 : (l[j].gone == 0) = false := beq_eq_false_iff_ne.2 this.2
     rw [e1, e2]
     simp
   rw [n1, n2, n3]
   rfl
  have h2 : seenBefore l j = false := by
   unfold seenBefore
   rw [List.getElem?_eq_getElem hj]
   show ((l.take j).any fun y => sameB y l[j]) = false
   rw [List.any_eq_false]
   intro y hy
   obtain ⟨k, hk, rfl⟩ := List.getElem_of_mem hy
   have hk' : k < j := by simpa using (show k < (l.take j).length from hk) |> fun h => by rw [List.length_take] at h; omega
   have := List.pairwise_iff_getElem.1 hm.one k j (by omega) hj hk'
   rw [List.getElem_take]
   simpa [sameB] using this
  simp [h1, h2]
 rcases h with ⟨h, _⟩ | ⟨_, ⟨k, hk, _, hy, hr⟩ | ⟨_, rfl⟩⟩
 ·omega
 ·rw [hz k hk] at hy; exact absurd hy.symm hr
 ·rfl
end Go.Proofs.YtcbnnfeelhlapadGreatDoor
