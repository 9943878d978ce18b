/-
  Plain mathematics of fold.take: a list gone through from one place to another is what a deed that takes away makes of it. Cells of a list, one byte of which is set. No walk.
-/
import Derived.Test.YtebhbhcjfnohmabFMem
import Derived.Test.YtebhbhcjfnohmabFNew
namespace Go.Proofs.Ytebhbhcjfnohmab
open Go.RowKit

/-- Marked where one sees it, from p on and below q. -/
def mk1 (d : Dd) (number : Int) (p q i : Nat) (x : Ch) : Ch := if p ≤ i ∧ i < q ∧ seesC d.seen d.by_ x = true then mark d.by_ number x else x
def mixL (d : Dd) (number : Int) (p q : Nat) : Nat → List Ch → List Ch
  | _, [] => []
  | i, x :: r => mk1 d number p q i x :: mixL d number p q (i + 1) r

theorem mixL_len (d : Dd) (number : Int) (p q : Nat) : ∀ (i : Nat) (l : List Ch), (mixL d number p q i l).length = l.length
  | _, [] => rfl
  | i, x :: r => by rw [mixL, List.length_cons, mixL_len d number p q (i + 1) r, List.length_cons]

theorem mixL_get (d : Dd) (number : Int) (p q : Nat) : ∀ (i j : Nat) (l : List Ch), (mixL d number p q i l)[j]? = l[j]?.map (mk1 d number p q (i + j))
  | _, _, [] => by simp [mixL]
  | i, 0, x :: r => by simp [mixL]
  | i, j + 1, x :: r => by
    rw [mixL, List.getElem?_cons_succ, mixL_get d number p q (i + 1) j r, List.getElem?_cons_succ, show i + 1 + j = i + (j + 1) by omega]

theorem mixL_none (d : Dd) (number : Int) (p i : Nat) (l : List Ch) : mixL d number p p i l = l := by
  apply List.ext_getElem?
  intro j
  rw [mixL_get]
  cases l[j]? with
  | none => rfl
  | some x =>
    rw [Option.map_some, mk1, if_neg (by omega)]

theorem mixL_set (d : Dd) (number : Int) (p k : Nat) (l : List Ch) (hp : p ≤ k) (hk : k < l.length) (hs : seesC d.seen d.by_ l[k] = true) : (mixL d number p k 0 l).set k (mark d.by_ number l[k]) = mixL d number p (k + 1) 0 l := by
  apply List.ext_getElem?
  intro j
  rw [mixL_get, List.getElem?_set, mixL_len]
  by_cases h : k = j
  · subst h
    rw [if_pos rfl, if_pos hk, List.getElem?_eq_getElem hk, Option.map_some, mk1, if_pos ⟨by omega, by omega, hs⟩]
  · rw [if_neg h, mixL_get]
    cases l[j]? with
    | none => rfl
    | some x =>
      rw [Option.map_some, Option.map_some, mk1, mk1]
      congr 1
      by_cases hc : p ≤ 0 + j ∧ 0 + j < k ∧ seesC d.seen d.by_ x = true
      · rw [if_pos hc, if_pos ⟨hc.1, by omega, hc.2.2⟩]
      · rw [if_neg hc, if_neg (fun e => hc ⟨e.1, by omega, e.2.2⟩)]

theorem mixL_pass (d : Dd) (number : Int) (p k : Nat) (l : List Ch) (hk : k < l.length) (hs : seesC d.seen d.by_ l[k] = false) : mixL d number p k 0 l = mixL d number p (k + 1) 0 l := by
  apply List.ext_getElem?
  intro j
  rw [mixL_get, mixL_get]
  cases hx : l[j]? with
  | none => rfl
  | some x =>
    rw [Option.map_some, Option.map_some, mk1, mk1]
    congr 1
    by_cases hc : p ≤ 0 + j ∧ 0 + j < k ∧ seesC d.seen d.by_ x = true
    · rw [if_pos hc, if_pos ⟨hc.1, by omega, hc.2.2⟩]
    · rw [if_neg hc, if_neg (fun e => ?_)]
      by_cases hj : j = k
      · subst hj
        rw [List.getElem?_eq_getElem hk] at hx
        obtain rfl := Option.some.inj hx
        rw [hs] at e
        exact absurd e.2.2 (by simp)
      · exact hc ⟨e.1, by omega, e.2.2⟩

theorem cnt_app (a b : List Ch) (seen by_ : Int) : cnt (a ++ b) seen by_ = cnt a seen by_ + cnt b seen by_ := by
  unfold cnt
  rw [List.filter_append, List.length_append]
  omega

theorem cnt_mono (l : List Ch) (seen by_ : Int) {i j : Nat} (h : i ≤ j) : cnt (l.take i) seen by_ ≤ cnt (l.take j) seen by_ := by
  have e : l.take i = (l.take j).take i := by rw [List.take_take, Nat.min_eq_left h]
  rw [e]
  exact cnt_take_le _ _ _ _

theorem take_mix {d : Dd} {number : Int} {p q : Nat} {l : List Ch} (hp : cnt (l.take p) d.seen d.by_ = d.at_) (hq : cnt (l.take q) d.seen d.by_ = d.at_ + d.many) :
    ∀ (suf pre : List Ch), l = pre ++ suf → takeL d number (cnt pre d.seen d.by_) suf = mixL d number p q pre.length suf
  | [], pre, _ => rfl
  | x :: r, pre, hl => by
    have hpre : l.take pre.length = pre := by rw [hl, List.take_left]
    have hnext : l = (pre ++ [x]) ++ r := by rw [hl]; simp
    have hpre1 : l.take (pre.length + 1) = pre ++ [x] := by
      have h2 : (pre ++ [x]).length = pre.length + 1 := by simp
      rw [hnext, ← h2, List.take_left]
    have ih := take_mix (number := number) hp hq r (pre ++ [x]) hnext
    rw [List.length_append, List.length_singleton] at ih
    rw [mixL, ← ih, takeL, mk1]
    have hsn := cnt_snoc pre x d.seen d.by_
    by_cases hs : seesC d.seen d.by_ x = true
    · rw [if_pos hs] at hsn ⊢
      rw [hsn]
      congr 1
      have a1 : d.at_ ≤ cnt pre d.seen d.by_ ↔ p ≤ pre.length := by
        constructor
        · intro h
          by_cases hc : p ≤ pre.length
          · exact hc
          · have := cnt_mono l d.seen d.by_ (show pre.length + 1 ≤ p by omega)
            rw [hpre1, hp, hsn] at this
            omega
        · intro h
          have := cnt_mono l d.seen d.by_ h
          rw [hpre, hp] at this
          exact this
      have a2 : cnt pre d.seen d.by_ < d.at_ + d.many ↔ pre.length < q := by
        constructor
        · intro h
          by_cases hc : pre.length < q
          · exact hc
          · have := cnt_mono l d.seen d.by_ (show q ≤ pre.length by omega)
            rw [hpre, hq] at this
            omega
        · intro h
          have := cnt_mono l d.seen d.by_ (show pre.length + 1 ≤ q by omega)
          rw [hpre1, hq, hsn] at this
          omega
      by_cases hc : d.at_ ≤ cnt pre d.seen d.by_ ∧ cnt pre d.seen d.by_ < d.at_ + d.many
      · rw [if_pos hc, if_pos ⟨a1.1 hc.1, a2.1 hc.2, hs⟩]
      · rw [if_neg hc, if_neg (fun e => hc ⟨a1.2 e.1, a2.2 e.2.1⟩)]
    · rw [if_neg hs] at hsn ⊢
      rw [hsn, Int.add_zero, if_neg (fun e => hs e.2.2)]

theorem take_places {d : Dd} {number : Int} {p q : Nat} {l : List Ch} (h0 : 0 ≤ d.at_) (h1 : 0 ≤ d.many) (hp : behindL d.seen d.by_ d.at_.toNat l = some p) (hq : behindL d.seen d.by_ (d.at_ + d.many).toNat l = some q) : takeL d number 0 l = mixL d number p q 0 l := by
  obtain ⟨_, _, _, a4⟩ := behindL_view hp
  obtain ⟨_, _, _, b4⟩ := behindL_view hq
  have ha := vw_len (l.take p) d.seen d.by_
  have hb := vw_len (l.take q) d.seen d.by_
  have e1 : cnt (l.take p) d.seen d.by_ = d.at_ := by omega
  have e2 : cnt (l.take q) d.seen d.by_ = d.at_ + d.many := by omega
  exact take_mix e1 e2 l [] rfl

theorem places_le {d : Dd} {p q : Nat} {l : List Ch} (h0 : 0 ≤ d.at_) (h1 : 0 ≤ d.many) (hp : behindL d.seen d.by_ d.at_.toNat l = some p) (hq : behindL d.seen d.by_ (d.at_ + d.many).toNat l = some q) : d.many = 0 ∨ p ≤ q := by
  obtain ⟨_, _, _, a4⟩ := behindL_view hp
  obtain ⟨_, _, _, b4⟩ := behindL_view hq
  have ha := vw_len (l.take p) d.seen d.by_
  have hb := vw_len (l.take q) d.seen d.by_
  by_cases h : p ≤ q
  · exact .inr h
  · have := cnt_mono l d.seen d.by_ (show q ≤ p by omega)
    exact .inl (by omega)

/-- Seven cells of a list set to those of one byte. -/
theorem set_byte : ∀ (l : List Ch) (i : Nat) (y : Ch), i < l.length →
    (((((((cells7 l).set (i * 7) (.int .u8 y.c)).set (i * 7 + 1) (.int .i64 y.by_)).set (i * 7 + 2) (.int .i64 y.no)).set (i * 7 + 3) (.int .i64 y.k)).set (i * 7 + 4) (.int .i64 y.inn)).set (i * 7 + 5) (.int .i64 y.out)).set (i * 7 + 6) (.int .i64 y.gone) = cells7 (l.set i y) := by
  intro l i y hi
  have e : l = l.take i ++ (l[i] :: l.drop (i + 1)) := by rw [← List.drop_eq_getElem_cons hi, List.take_append_drop]
  have e2 : l.set i y = l.take i ++ (y :: l.drop (i + 1)) := by
    conv => lhs; rw [e]
    rw [List.set_append_right _ _ (by rw [List.length_take]; omega), List.length_take, show i - min i l.length = 0 by omega, List.set_cons_zero]
  have e3 : cells7 l = cells7 (l.take i) ++ (chCells l[i] ++ cells7 (l.drop (i + 1))) := by
    conv => lhs; rw [e]
    rw [cells7_app, cells7]
  rw [e2, cells7_app, cells7, e3]
  have := set_seven (cells7 (l.take i)) (chCells l[i] ++ cells7 (l.drop (i + 1))) y (i * 7) (by rw [cells7_len, List.length_take]; congr 1; omega) (by rw [List.length_append]; show 7 ≤ 7 + _; omega)
  rw [this, List.append_assoc]
  congr 2

end Go.Proofs.Ytebhbhcjfnohmab
