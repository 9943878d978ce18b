/-
  Plain mathematics of what the document's own answer reckons: bytes of which it says what the program says. No walk.
-/
import Derived.Test.YtfjjjbohflobnabLPlain
namespace Go.Proofs.Ytfjjjbohflobnab
open Go.RowKit

/-- Bytes that lie in a log: the two readings of Out and of Open say the same of them. -/
def Tame (l : List Ch) : Prop := ∀ x ∈ l, 0 ≤ x.out ∧ x.inn ≠ openN ∧ 0 ≤ x.gone ∧ x.gone ≤ 15

theorem tame_nil : Tame [] := fun x hx => by simp at hx

theorem tame_get {l : List Ch} (h : Tame l) (k : Nat) (hk : k < l.length) : 0 ≤ l[k].out ∧ l[k].inn ≠ openN ∧ 0 ≤ l[k].gone ∧ l[k].gone ≤ 15 := h _ (List.getElem_mem hk)

theorem made_tame {last : Int → Int} {i : Nat} {l : List Ch} (h : Made last i l) (hi : i ≤ 1000) : Tame l := by
  intro x hx
  have h1 := h.out x hx
  have h2 := h.inn x hx
  have h3 := h.gone x hx
  refine ⟨h1.1, ?_, h3.1, h3.2⟩
  show x.inn ≠ 1073741824
  omega

theorem good_made {b : Bk} (h : Good b) : Made (lastAt b.ds) b.ds.length b.chars := by
  have := (made_all b.ds [] [] h.ok (by have := h.small; simp; omega) made_nil rfl (Nat.zero_le _) h.all0).1
  exact this

theorem good_tame {b : Bk} (h : Good b) : Tame b.chars := made_tame (good_made h) (by have := h.small; omega)

theorem fits_tame {l : List Ch} (h : Tame l) : FitsL l := fun x hx => by
  have := h x hx
  omega

theorem tame_new (d : Dd) {n : Int} (hn : n ≤ 1000) : Tame (newL d n) := by
  intro x hx
  obtain ⟨j, b, rfl, _⟩ := newFrom_mem hx
  show 0 ≤ (0 : Int) ∧ n ≠ 1073741824 ∧ 0 ≤ (0 : Int) ∧ (0 : Int) ≤ 15
  omega

theorem markOut_pos {number out : Int} (h : 0 ≤ out) (hn : 1 ≤ number) : 0 ≤ markOut number out := by
  unfold markOut
  split <;> omega

theorem tame_do {l : List Ch} {d : Dd} {number : Int} (h : Tame l) (hc : checkC d = 0) (h1 : 1 ≤ number) (h2 : number ≤ 1000) : Tame (doL l d number) := by
  obtain ⟨_, hw, _⟩ := check_parts hc
  by_cases hk : d.kind = 1
  · rw [doL, if_pos hk]
    intro x hx
    rcases List.mem_append.1 hx with hx | hx
    · exact h x (List.mem_of_mem_take hx)
    · rcases List.mem_append.1 hx with hx | hx
      · exact tame_new d h2 x hx
      · exact h x (List.mem_of_mem_drop hx)
  · rw [doL, if_neg hk]
    intro y hy
    obtain ⟨x, hx, hyx⟩ := takeL_mem hy
    obtain ⟨g1, g2, g3, g4⟩ := h x hx
    rcases hyx with rfl | ⟨hs, rfl⟩
    · exact ⟨g1, g2, g3, g4⟩
    · have h3 := gone_add hw (sees_took hs) g3 g4
      exact ⟨markOut_pos g1 h1, g2, h3.1, h3.2.1⟩

/-- The document's 'it knows that it was taken away'. -/
theorem out_tame {o g seen by_ : Int} (h : 0 ≤ o) : (tookB g by_ || (decide (0 < o) && decide (o ≤ seen))) = outB o g seen by_ := by
  unfold outB
  rw [Bool.or_comm]
  congr 1
  rw [Bool.eq_iff_iff]
  simp
  omega

theorem in_comm {i b seen by_ : Int} : (decide (b = by_) || decide (i ≤ seen)) = inB i b seen by_ := by
  unfold inB
  rw [Bool.eq_iff_iff]
  simp
  exact Or.comm

theorem skip_tame {l : List Ch} {by_ : Int} (h : Tame l) (p : Nat) : skipL by_ (l.drop p) = 0 := skipL_none (fun x hx => (h x (List.mem_of_mem_drop hx)).2.1)

theorem place_tame {l : List Ch} {d : Dd} {p : Nat} (h : Tame l) (hp : behindL d.seen d.by_ d.at_.toNat l = some p) : placeL l d = p := by
  rw [placeL, hp]
  show p + skipL d.by_ (l.drop p) = p
  rw [skip_tame h p, Nat.add_zero]

theorem takeL_snoc {d : Dd} {number : Int} (x : Ch) : ∀ (l : List Ch) (k : Int), takeL d number k (l ++ [x]) = takeL d number k l ++ [if seesC d.seen d.by_ x = true then (if d.at_ ≤ k + cnt l d.seen d.by_ ∧ k + cnt l d.seen d.by_ < d.at_ + d.many then mark d.by_ number x else x) else x]
  | [], k => by
    have e : cnt [] d.seen d.by_ = 0 := rfl
    rw [List.nil_append, takeL, takeL, takeL, takeL, e, Int.add_zero]
    split <;> rfl
  | y :: r, k => by
    rw [List.cons_append, takeL, takeL]
    by_cases hy : seesC d.seen d.by_ y = true
    · have e : cnt (y :: r) d.seen d.by_ = cnt r d.seen d.by_ + 1 := by simp [cnt, hy]
      rw [if_pos hy, if_pos hy, takeL_snoc x r (k + 1), List.cons_append, e, show k + 1 + cnt r d.seen d.by_ = k + (cnt r d.seen d.by_ + 1) by omega]
    · have e : cnt (y :: r) d.seen d.by_ = cnt r d.seen d.by_ := by simp [cnt, hy]
      rw [if_neg hy, if_neg hy, takeL_snoc x r k, List.cons_append, e]

/-- Behind: what has been passed, and what is still to be looked for. -/
def BTo (l : List Ch) (seen by_ : Int) (n i k : Nat) : Prop := k < n ∧ behindL seen by_ n l = (behindL seen by_ (n - k) (l.drop i)).map (· + i)

theorem bto_start (l : List Ch) (seen by_ : Int) {n : Nat} (h : 0 < n) : BTo l seen by_ n 0 0 := by
  refine ⟨h, ?_⟩
  simp

theorem bto_miss {l : List Ch} {seen by_ : Int} {n i k : Nat} (h : BTo l seen by_ n i k) (hi : i < l.length) (hs : seesC seen by_ l[i] = false) : BTo l seen by_ n (i + 1) k := by
  refine ⟨h.1, ?_⟩
  rw [h.2, List.drop_eq_getElem_cons hi]
  obtain ⟨m, hm⟩ : ∃ m, n - k = m + 1 := ⟨n - k - 1, by have := h.1; omega⟩
  rw [hm, behindL, if_neg (by simp [hs]), Option.map_map]
  congr 1
  funext x
  show x + 1 + i = x + (i + 1)
  omega

theorem bto_met {l : List Ch} {seen by_ : Int} {n i k : Nat} (h : BTo l seen by_ n i k) (hi : i < l.length) (hs : seesC seen by_ l[i] = true) (hk : k + 1 ≠ n) : BTo l seen by_ n (i + 1) (k + 1) := by
  have h1 := h.1
  refine ⟨by omega, ?_⟩
  rw [h.2, List.drop_eq_getElem_cons hi]
  obtain ⟨m, hm⟩ : ∃ m, n - k = m + 1 := ⟨n - k - 1, by omega⟩
  rw [hm, behindL, if_pos hs, Option.map_map, show n - (k + 1) = m by omega]
  congr 1
  funext x
  show x + 1 + i = x + (i + 1)
  omega

theorem bto_hit {l : List Ch} {seen by_ : Int} {n i k : Nat} (h : BTo l seen by_ n i k) (hi : i < l.length) (hs : seesC seen by_ l[i] = true) (hk : k + 1 = n) : behindL seen by_ n l = some (i + 1) := by
  have h1 := h.1
  rw [h.2, List.drop_eq_getElem_cons hi, show n - k = 0 + 1 by omega, behindL, if_pos hs]
  have e : behindL seen by_ 0 (l.drop (i + 1)) = some 0 := by cases l.drop (i + 1) <;> rfl
  rw [e]
  show some (0 + 1 + i) = some (i + 1)
  congr 1
  omega

theorem bto_end {l : List Ch} {seen by_ : Int} {n k : Nat} (h : BTo l seen by_ n l.length k) : behindL seen by_ n l = none := by
  have h1 := h.1
  rw [h.2, List.drop_eq_nil_of_le (Nat.le_refl _), show n - k = (n - k - 1) + 1 by omega, behindL]
  rfl

/-- What BehindOf answers. -/
def behindI (l : List Ch) (seen by_ : Int) (n : Nat) : Int := match behindL seen by_ n l with
  | some p => p
  | none => -1

theorem behindI_some {l : List Ch} {seen by_ : Int} {n p : Nat} (h : behindL seen by_ n l = some p) : behindI l seen by_ n = p := by rw [behindI, h]
theorem behindI_none {l : List Ch} {seen by_ : Int} {n : Nat} (h : behindL seen by_ n l = none) : behindI l seen by_ n = -1 := by rw [behindI, h]

/-- The text of a log, as the document reckons it. -/
theorem text_tame {l : List Ch} (h : ∀ x ∈ l, 0 ≤ x.out ∧ x.out ≤ 1000 ∧ x.inn ≤ 1000 ∧ 0 ≤ x.by_) : vw l 1073741823 (-1) = textL l := by
  unfold vw textL
  congr 1
  apply List.filter_congr
  intro x hx
  obtain ⟨h1, h2, h3, h4⟩ := h x hx
  have hw : wrB (-1) = false := by decide
  show (inB x.inn x.by_ 1073741823 (-1) && !outB x.out x.gone 1073741823 (-1)) = textB x
  rw [outB, tookB, hw, textB, goneB, inB]
  rw [Bool.eq_iff_iff]
  simp [openN]
  omega

theorem good_text {b : Bk} (h : Good b) : vw b.chars 1073741823 (-1) = textL b.chars := by
  have hm := good_made h
  have hs := h.small
  refine text_tame (fun x hx => ?_)
  have h1 := hm.out x hx
  have h2 := hm.inn x hx
  have h3 := hm.wr x hx
  have h4 : 0 ≤ x.by_ ∧ x.by_ ≤ 3 := by simpa [wrB] using h3
  omega

theorem mayR {l : List Ch} {d : Dd} (h : checkC d = 0) : mayC l d = if cnt l d.seen d.by_ < d.at_ ∨ cnt l d.seen d.by_ < d.at_ + d.many then 1 else if 200 < l.length + d.text.size then 9 else 0 := by
  have hm := (check_parts h).2.2.2.2.2.2.2.2.1
  rw [mayC, if_neg (fun e => e h)]
  by_cases h1 : cnt l d.seen d.by_ < d.at_ + d.many
  · rw [if_pos h1, if_pos (.inr h1)]
  · have h2 : ¬ (cnt l d.seen d.by_ < d.at_ ∨ cnt l d.seen d.by_ < d.at_ + d.many) := by omega
    rw [if_neg h1, if_neg h2]

end Go.Proofs.Ytfjjjbohflobnab
