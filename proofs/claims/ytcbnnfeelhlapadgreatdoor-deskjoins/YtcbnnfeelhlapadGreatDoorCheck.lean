/-
  Plain mathematics of deeds done to a list: what a deed makes of it, and what its writer and others see behind it. No walk.
-/
import Derived.Test.YtcbnnfeelhlapadGreatDoorDPlain
import Derived.Deep.RegionWith
namespace Go.Proofs.YtcbnnfeelhlapadGreatDoor
abbrev openN : Int := 1073741824
def newCh (d : Dd) (number : Int) (k : Nat) (b : UInt8) : Ch := ⟨b.toNat, d.by_, d.no, k, number, 0, 0⟩
def newFrom (d : Dd) (number : Int) : Nat → List UInt8 → List Ch
 | _, [] => []
 | k, b :: r => newCh d number k b :: newFrom d number (k + 1) r
def newL (d : Dd) (number : Int) : List Ch := newFrom d number 0 d.text.data.toList
def markOut (number out : Int) : Int := if number ≠ openN ∧ (out = 0 ∨ number < out) then number else out
def mark (by_ number : Int) (x : Ch) : Ch := ⟨x.c, x.by_, x.no, x.k, x.inn, markOut number x.out, x.gone + 2 ^ by_.toNat⟩
def behindL (seen by_ : Int) : Nat → List Ch → Option Nat
 | 0, _ => some 0
 | _ + 1, [] => none
 | n + 1, x :: r => if seesC seen by_ x = true then (behindL seen by_ n r).map (· + 1) else (behindL seen by_ (n + 1) r).map (· + 1)
def skipL (by_ : Int) : List Ch → Nat
 | [] => 0
 | x :: r => if x.inn = openN ∧ x.by_ ≠ by_ then skipL by_ r + 1 else 0
def placeL (l : List Ch) (d : Dd) : Nat :=
 match behindL d.seen d.by_ d.at_.toNat l with
 | some p => p + skipL d.by_ (l.drop p)
 | none => 0
def takeL (d : Dd) (number : Int) : Int → List Ch → List Ch
 | _, [] => []
 | k, x :: r => if seesC d.seen d.by_ x = true then (if d.at_ ≤ k ∧ k < d.at_ + d.many then mark d.by_ number x else x) :: takeL d number (k + 1) r else x :: takeL d number k r
def doL (l : List Ch) (d : Dd) (number : Int) : List Ch :=
 if d.kind = 1 then l.take (placeL l d) ++ (newL d number ++ l.drop (placeL l d)) else takeL d number 0 l
theorem vw_app (a b : List Ch) (seen by_ : Int) : vw (a ++ b) seen by_ = vw a seen by_ ++ vw b seen by_ := by
 simp [vw, List.filter_append]
theorem vw_cons_yes {x : Ch} {seen by_ : Int} (l : List Ch) (h : seesC seen by_ x = true) : vw (x :: l) seen by_ = x.c :: vw l seen by_ := by
 simp [vw, h]
theorem vw_cons_no {x : Ch} {seen by_ : Int} (l : List Ch) (h : seesC seen by_ x = false) : vw (x :: l) seen by_ = vw l seen by_ := by
 simp [vw, h]
theorem vw_len (l : List Ch) (seen by_ : Int) : ((vw l seen by_).length : Int) = cnt l seen by_ := by
 simp [vw, cnt]
theorem vw_none {l : List Ch} {seen by_ : Int} (h : ∀ x ∈ l, seesC seen by_ x = false) : vw l seen by_ = [] := by
 induction l with
 | nil => rfl
 | cons x r ih => rw [vw_cons_no r (h x (by simp)), ih (fun y hy => h y (by simp [hy]))]
theorem new_unseen (d : Dd) (number seen by_ : Int) (k : Nat) (b : UInt8) (h : d.by_ ≠ by_) (hn : seen < number) : seesC seen by_ (newCh d number k b) = false := by
 have h1 : inB number d.by_ seen by_ = false := by
  rw [inB]
  refine decide_eq_false (fun e => ?_)
  rcases e with e | e
  ·omega
  ·exact h e
 show (inB number d.by_ seen by_ && !outB 0 0 seen by_) = false
 rw [h1]
 rfl
def nums (s : ByteArray) : List Int := s.data.toList.map fun b => (b.toNat : Int)
theorem newFrom_mem {d : Dd} {number : Int} {x : Ch} : ∀ {k : Nat} {l : List UInt8}, x ∈ newFrom d number k l → ∃ j b, x = newCh d number j b ∧ k ≤ j ∧ j < k + l.length ∧ b ∈ l
 | _, [], h => by simp [newFrom] at h
 | k, b :: r, h => by
  rw [newFrom, List.mem_cons] at h
  rcases h with rfl | h
  ·exact ⟨k, b, rfl, Nat.le_refl _, by simp, by simp⟩
  ·obtain ⟨j, c, rfl, h1, h2, h3⟩ := newFrom_mem h
   exact ⟨j, c, rfl, by omega, by simp; omega, by simp [h3]⟩
theorem newFrom_c (d : Dd) (number : Int) : ∀ (k : Nat) (l : List UInt8), (newFrom d number k l).map (·.c) = l.map fun b => (b.toNat : Int)
 | _, [] => rfl
 | k, b :: r => by rw [newFrom, List.map_cons, newFrom_c d number (k + 1) r, List.map_cons]; rfl
theorem newFrom_len (d : Dd) (number : Int) : ∀ (k : Nat) (l : List UInt8), (newFrom d number k l).length = l.length
 | _, [] => rfl
 | k, b :: r => by rw [newFrom, List.length_cons, newFrom_len d number (k + 1) r, List.length_cons]
theorem newFrom_snoc (d : Dd) (number : Int) (b : UInt8) : ∀ (k : Nat) (l : List UInt8), newFrom d number k (l ++ [b]) = newFrom d number k l ++ [newCh d number (k + l.length) b]
 | k, [] => rfl
 | k, c :: r => by
  rw [List.cons_append, newFrom, newFrom_snoc d number b (k + 1) r, newFrom, List.cons_append, List.length_cons, show k + 1 + r.length = k + (r.length + 1) by omega]
theorem newL_len (d : Dd) (number : Int) : (newL d number).length = d.text.size := by rw [newL, newFrom_len, size_list]
theorem newL_unseen (d : Dd) (number seen by_ : Int) (h : d.by_ ≠ by_) (hn : seen < number) : vw (newL d number) seen by_ = [] := by
 refine vw_none (fun x hx => ?_)
 obtain ⟨j, b, rfl, _⟩ := newFrom_mem hx
 exact new_unseen d number seen by_ j b h hn
theorem behindL_some {seen by_ : Int} : ∀ {n : Nat} {l : List Ch}, n ≤ (vw l seen by_).length → ∃ p, behindL seen by_ n l = some p
 | 0, l, _ => ⟨0, by cases l <;> rfl⟩
 | n + 1, [], h => by simp [vw] at h
 | n + 1, x :: r, h => by
  rw [behindL]
  by_cases hx : seesC seen by_ x = true
  ·rw [vw_cons_yes r hx] at h
   obtain ⟨p, hp⟩ := behindL_some (n := n) (l := r) (by simpa using h)
   exact ⟨p + 1, by rw [if_pos hx, hp]; rfl⟩
  ·rw [vw_cons_no r (by simpa using hx)] at h
   obtain ⟨p, hp⟩ := behindL_some (n := n + 1) (l := r) h
   exact ⟨p + 1, by rw [if_neg hx, hp]; rfl⟩
theorem behindL_view {seen by_ : Int} : ∀ {n : Nat} {l : List Ch} {p : Nat}, behindL seen by_ n l = some p → p ≤ l.length ∧ vw (l.take p) seen by_ = (vw l seen by_).take n ∧ (vw l seen by_).take n = (vw (l.take p) seen by_) ∧ (vw (l.take p) seen by_).length = n
 | 0, l, p, h => by
  obtain rfl : p = 0 := by cases l <;> exact (Option.some.inj h).symm
  simp [vw]
 | n + 1, [], p, h => by cases h
 | n + 1, x :: r, p, h => by
  rw [behindL] at h
  by_cases hx : seesC seen by_ x = true
  ·rw [if_pos hx] at h
   cases hb : behindL seen by_ n r with
   | none => rw [hb] at h; cases h
   | some q =>
    rw [hb] at h
    obtain rfl := Option.some.inj h
    obtain ⟨h1, h2, _, h4⟩ := behindL_view hb
    rw [List.take_succ_cons, vw_cons_yes _ hx, vw_cons_yes _ hx, h2]
    rw [h2] at h4
    refine ⟨by simpa using h1, rfl, rfl, by simpa using h4⟩
  ·have hx' : seesC seen by_ x = false := by simpa using hx
   rw [if_neg hx] at h
   cases hb : behindL seen by_ (n + 1) r with
   | none => rw [hb] at h; cases h
   | some q =>
    rw [hb] at h
    obtain rfl := Option.some.inj h
    obtain ⟨h1, h2, _, h4⟩ := behindL_view hb
    rw [List.take_succ_cons, vw_cons_no _ hx', vw_cons_no _ hx', h2]
    rw [h2] at h4
    exact ⟨by simpa using h1, rfl, rfl, h4⟩
theorem skipL_le (by_ : Int) : ∀ (l : List Ch), skipL by_ l ≤ l.length
 | [] => Nat.le_refl _
 | x :: r => by
  rw [skipL]
  split
  ·have := skipL_le by_ r; simp; omega
  ·simp
theorem bit_add {g : Int} {w : Int} (hw : wrB w = true) (h : bitB g w = false) (v : Int) (hv : wrB v = true) : bitB (g + 2 ^ w.toNat) v = (decide (v = w) || bitB g v) := by
 have hw' : 0 ≤ w ∧ w ≤ 3 := by simpa [wrB] using hw
 have hv' : 0 ≤ v ∧ v ≤ 3 := by simpa [wrB] using hv
 unfold bitB at h ⊢
 have h' : ¬ g / 2 ^ w.toNat % 2 = 1 := by simpa using h
 rcases (show w = 0 ∨ w = 1 ∨ w = 2 ∨ w = 3 by omega) with rfl | rfl | rfl | rfl <;> rcases (show v = 0 ∨ v = 1 ∨ v = 2 ∨ v = 3 by omega) with rfl | rfl | rfl | rfl <;>
  (rw [Bool.eq_iff_iff]; simp at h' ⊢; try omega)
theorem took_add {g : Int} {w : Int} (hw : wrB w = true) (h : tookB g w = false) (v : Int) : tookB (g + 2 ^ w.toNat) v = (decide (v = w) || tookB g v) := by
 rw [tookB, hw, Bool.true_and] at h
 by_cases hv : wrB v = true
 ·rw [tookB, tookB, hv, Bool.true_and, Bool.true_and, bit_add hw h v hv]
 ·have hv' : wrB v = false := by simpa using hv
  have hne : v ≠ w := fun e => by rw [e, hw] at hv'; cases hv'
  rw [tookB, tookB, hv', decide_eq_false hne]
  rfl
theorem add_fits {g w : Int} (hw : wrB w = true) (h : tookB g w = false) (hg : g ≤ 9223372036854775807) : g + 2 ^ w.toNat ≤ 9223372036854775807 := by
 have hw' : 0 ≤ w ∧ w ≤ 3 := by simpa [wrB] using hw
 rw [tookB, hw, Bool.true_and, bitB] at h
 have h' : ¬ g / 2 ^ w.toNat % 2 = 1 := by simpa using h
 rcases (show w = 0 ∨ w = 1 ∨ w = 2 ∨ w = 3 by omega) with rfl | rfl | rfl | rfl <;> (simp at h' ⊢; omega)
theorem sees_took {x : Ch} {seen by_ : Int} (h : seesC seen by_ x = true) : tookB x.gone by_ = false := by
 simp only [seesC, seesB, outB, Bool.and_eq_true, Bool.not_eq_true', Bool.or_eq_false_iff] at h
 exact h.2.2
theorem mark_other {x : Ch} {seen v by_ number : Int} (hw : wrB by_ = true) (h : tookB x.gone by_ = false) (hv : v ≠ by_) :
 seesC seen v (mark by_ number x) = (inB x.inn x.by_ seen v && !(decide (markOut number x.out ≠ 0 ∧ markOut number x.out ≤ seen) || tookB x.gone v)) := by
 show (inB x.inn x.by_ seen v && !(decide (markOut number x.out ≠ 0 ∧ markOut number x.out ≤ seen) || tookB (x.gone + 2 ^ by_.toNat) v)) = _
 rw [took_add hw h, decide_eq_false hv, Bool.false_or]
theorem out_far {number seen out : Int} (h : seen < number) : decide (markOut number out ≠ 0 ∧ markOut number out ≤ seen) = decide (out ≠ 0 ∧ out ≤ seen) := by
 unfold markOut
 by_cases hc : number ≠ openN ∧ (out = 0 ∨ number < out)
 ·rw [if_pos hc, decide_eq_false (by omega), decide_eq_false (by omega)]
 ·rw [if_neg hc]
theorem out_open {seen out : Int} : decide (markOut openN out ≠ 0 ∧ markOut openN out ≤ seen) = decide (out ≠ 0 ∧ out ≤ seen) := by
 unfold markOut
 rw [if_neg (by simp)]
theorem mark_far {x : Ch} {seen v by_ number : Int} (hw : wrB by_ = true) (h : tookB x.gone by_ = false) (hv : v ≠ by_) (hn : seen < number ∨ number = openN) : seesC seen v (mark by_ number x) = seesC seen v x := by
 rw [mark_other hw h hv]
 rcases hn with hn | rfl
 ·rw [out_far hn]; rfl
 ·rw [out_open]; rfl
theorem takeL_len (d : Dd) (number : Int) : ∀ (l : List Ch) (k : Int), (takeL d number k l).length = l.length
 | [], k => rfl
 | x :: r, k => by
  rw [takeL]
  split
  ·rw [List.length_cons, takeL_len d number r (k + 1), List.length_cons]
  ·rw [List.length_cons, takeL_len d number r k, List.length_cons]
theorem takeL_far {d : Dd} {number seen v : Int} (hw : wrB d.by_ = true) (hv : v ≠ d.by_) (hn : seen < number ∨ number = openN) : ∀ (l : List Ch) (k : Int), vw (takeL d number k l) seen v = vw l seen v
 | [], k => rfl
 | x :: r, k => by
  rw [takeL]
  by_cases hx : seesC d.seen d.by_ x = true
  ·rw [if_pos hx]
   have ih := takeL_far hw hv hn r (k + 1)
   have hy : ∀ y : Ch, seesC seen v y = seesC seen v x → y.c = x.c → vw (y :: takeL d number (k + 1) r) seen v = vw (x :: r) seen v := by
    intro y h1 h2
    by_cases hs : seesC seen v x = true
    ·rw [vw_cons_yes _ (h1.trans hs), vw_cons_yes _ hs, ih, h2]
    ·have hs' : seesC seen v x = false := by simpa using hs
     rw [vw_cons_no _ (h1.trans hs'), vw_cons_no _ hs', ih]
   split
   ·exact hy _ (mark_far hw (sees_took hx) hv hn) rfl
   ·exact hy _ rfl rfl
  ·rw [if_neg hx]
   have ih := takeL_far hw hv hn r k
   by_cases hs : seesC seen v x = true
   ·rw [vw_cons_yes _ hs, vw_cons_yes _ hs, ih]
   ·have hs' : seesC seen v x = false := by simpa using hs
    rw [vw_cons_no _ hs', vw_cons_no _ hs', ih]
theorem cnt_cons (x : Ch) (l : List Ch) (seen v : Int) : cnt (x :: l) seen v = (if seesC seen v x = true then 1 else 0) + cnt l seen v := by
 unfold cnt
 by_cases h : seesC seen v x = true
 ·simp [h]; omega
 ·simp [h]
def room (d : Dd) (k : Int) : Int := if k < d.at_ then d.many else if k < d.at_ + d.many then d.at_ + d.many - k else 0
theorem doL_far {l : List Ch} {d : Dd} {number seen v : Int} (hw : wrB d.by_ = true) (hv : v ≠ d.by_) (hn : seen < number) : vw (doL l d number) seen v = vw l seen v := by
 by_cases hk : d.kind = 1
 ·rw [doL, if_pos hk, vw_app, vw_app, newL_unseen d number seen v (fun e => hv e.symm) hn, List.nil_append, ← vw_app, List.take_append_drop]
 ·rw [doL, if_neg hk]
  exact takeL_far hw hv (.inl hn) l 0
def tk (d : Dd) (number k : Int) (x : Ch) : Ch := if seesC d.seen d.by_ x = true ∧ d.at_ ≤ k ∧ k < d.at_ + d.many then mark d.by_ number x else x
def nx (d : Dd) (k : Int) (x : Ch) : Int := if seesC d.seen d.by_ x = true then k + 1 else k
theorem takeL_cons (d : Dd) (number k : Int) (x : Ch) (r : List Ch) : takeL d number k (x :: r) = tk d number k x :: takeL d number (nx d k x) r := by
 rw [takeL, tk, nx]
 by_cases hx : seesC d.seen d.by_ x = true
 ·rw [if_pos hx, if_pos hx]
  by_cases hc : d.at_ ≤ k ∧ k < d.at_ + d.many
  ·rw [if_pos hc, if_pos ⟨hx, hc⟩]
  ·rw [if_neg hc, if_neg (fun e => hc e.2)]
 ·rw [if_neg hx, if_neg hx, if_neg (fun e => hx e.1)]
theorem tk_far {d : Dd} {number k seen v : Int} {x : Ch} (hw : wrB d.by_ = true) (hv : v ≠ d.by_) (hn : seen < number ∨ number = openN) : seesC seen v (tk d number k x) = seesC seen v x := by
 unfold tk
 split
 ·rename_i h
  exact mark_far hw (sees_took h.1) hv hn
 ·rfl
theorem doL_len {l : List Ch} {d : Dd} {number : Int} (ht : d.kind ≠ 1 → d.text.size = 0) : (doL l d number).length = l.length + d.text.size := by
 by_cases hk : d.kind = 1
 ·rw [doL, if_pos hk, List.length_append, List.length_append, newL_len]
  have := congrArg List.length (List.take_append_drop (placeL l d) l)
  rw [List.length_append] at this
  omega
 ·rw [doL, if_neg hk, takeL_len, ht hk, Nat.add_zero]
end Go.Proofs.YtcbnnfeelhlapadGreatDoor

/-
  Plain mathematics of what is done with: the list without it, marks, and how they slide. No walk.
-/
namespace Go.Proofs.YtcbnnfeelhlapadGreatDoor
def doneB (least : Int) (x : Ch) : Bool := decide (x.out ≠ 0 ∧ x.out ≤ least)
def ofL (least : Int) (l : List Ch) : List Ch := l.filter fun x => !doneB least x
theorem ofL_app (least : Int) (a b : List Ch) : ofL least (a ++ b) = ofL least a ++ ofL least b := List.filter_append ..
theorem ofL_le (least : Int) (l : List Ch) : (ofL least l).length ≤ l.length := List.length_filter_le ..
theorem of_more {less more : Int} (h : less ≤ more) (l : List Ch) : ofL more (ofL less l) = ofL more l := by
 unfold ofL
 rw [List.filter_filter]
 congr 1
 funext x
 by_cases h1 : x.out ≠ 0 ∧ x.out ≤ less
 ·have h2 : x.out ≠ 0 ∧ x.out ≤ more := ⟨h1.1, by omega⟩
  simp [doneB, h1, h2]
 ·simp only [doneB, h1, decide_false, Bool.not_false, Bool.and_true]
theorem done_unseen {least seen by_ : Int} {x : Ch} (hs : least ≤ seen) (h : doneB least x = true) : seesC seen by_ x = false := by
 rw [doneB, decide_eq_true_eq] at h
 have h2 : x.out ≠ 0 ∧ x.out ≤ seen := ⟨h.1, by omega⟩
 simp [seesC, seesB, outB, h2]
theorem sees_of {least seen by_ : Int} (hs : least ≤ seen) (l : List Ch) : (ofL least l).filter (seesC seen by_) = l.filter (seesC seen by_) := by
 unfold ofL
 rw [List.filter_filter]
 congr 1
 funext x
 cases h : doneB least x
 ·simp
 ·simp [done_unseen hs h]
theorem cnt_of {least seen : Int} (by_ : Int) (hs : least ≤ seen) (l : List Ch) : cnt (ofL least l) seen by_ = cnt l seen by_ := by
 unfold cnt; rw [sees_of hs]
theorem of_split (least : Int) (l : List Ch) (k : Nat) : ofL least l = ofL least (l.take k) ++ ofL least (l.drop k) := by
 rw [← ofL_app, List.take_append_drop]
def Apart (l : List Ch) : Prop := l.Pairwise fun x y => ¬ (x.by_ = y.by_ ∧ x.no = y.no ∧ x.k = y.k)
theorem Apart.of {l : List Ch} (h : Apart l) (least : Int) : Apart (ofL least l) := List.Pairwise.filter _ h
end Go.Proofs.YtcbnnfeelhlapadGreatDoor

/-
  The contract of chars.Check: may there be such a list.
-/
namespace Go.Proofs.YtcbnnfeelhlapadGreatDoor
set_option maxRecDepth 20000
open Go.RowKit
def namedB (x : Ch) : Bool := wrB x.by_ && decide (1 ≤ x.no) && withinB x.k 0 19 && withinB x.gone 0 15
def numberedB (x : Ch) (log : Int) : Bool := ((x.inn == 1073741824) || withinB x.inn 1 log) && withinB x.out 0 log
def formB (x : Ch) : Bool := (x.out != 0) && (decide (x.out ≤ x.inn) || (x.gone == 0))
def oneFault (x : Ch) (log : Int) : Int := if (namedB x && numberedB x log) = true then (if formB x = true then 3 else 0) else 1
set_option maxHeartbeats 400000 in
theorem named_any (x : Ch) (w : World) :
 Calls Tryz.prog 214 #[chV x] w fun e w' => e = .returned (.bool (namedB x)) ∧ Below w.heap.size w w' := by
 obtain ⟨c, b, no, k, i, o, g⟩ := x
 cases h1 : wrB b
 ·go_enter Tryz.func214, Tryz.ntmps214
  go_wp2_with (first | (go_at_call 116; refine (writer_any _ _).mono ?_; rintro e w' ⟨rfl, rfl⟩) | (go_at_call 161; refine (within_any _ _ _ _).mono ?_; rintro e w' ⟨rfl, rfl⟩))
  go_ret
  exact ⟨ret_b (by simp [namedB, h1]), (Below.refl _ _).alloc (Nat.le_refl _) _⟩
 ·by_cases h2 : 1 ≤ no
  ·cases h3 : withinB k 0 19
   all_goals
    go_enter Tryz.func214, Tryz.ntmps214
    go_wp2_with (first | (go_at_call 116; refine (writer_any _ _).mono ?_; rintro e w' ⟨rfl, rfl⟩) | (go_at_call 161; refine (within_any _ _ _ _).mono ?_; rintro e w' ⟨rfl, rfl⟩))
    go_ret
    exact ⟨ret_b (by simp [namedB, h1, h2, h3]), (Below.refl _ _).alloc (Nat.le_refl _) _⟩
  ·go_enter Tryz.func214, Tryz.ntmps214
   go_wp2_with (first | (go_at_call 116; refine (writer_any _ _).mono ?_; rintro e w' ⟨rfl, rfl⟩) | (go_at_call 161; refine (within_any _ _ _ _).mono ?_; rintro e w' ⟨rfl, rfl⟩))
   go_ret
   exact ⟨ret_b (by simp [namedB]; intro _ h; omega), (Below.refl _ _).alloc (Nat.le_refl _) _⟩
set_option maxHeartbeats 400000 in
theorem numbered_any (x : Ch) (log : Int) (w : World) :
 Calls Tryz.prog 215 #[chV x, .int .i64 log] w fun e w' => e = .returned (.bool (numberedB x log)) ∧ Below w.heap.size w w' := by
 obtain ⟨c, b, no, k, i, o, g⟩ := x
 cases h1 : (i == 1073741824)
 ·cases h2 : withinB i 1 log
  all_goals
   go_enter Tryz.func215, Tryz.ntmps215
   go_wp2_with (go_at_call 161; refine (within_any _ _ _ _).mono ?_; rintro e w' ⟨rfl, rfl⟩)
   go_ret
   exact ⟨ret_b (by simp [numberedB, h1, h2]), (Below.refl _ _).alloc (Nat.le_refl _) _⟩
 ·go_enter Tryz.func215, Tryz.ntmps215
  go_wp2_with (go_at_call 161; refine (within_any _ _ _ _).mono ?_; rintro e w' ⟨rfl, rfl⟩)
  go_ret
  exact ⟨ret_b (by simp [numberedB, h1]), (Below.refl _ _).alloc (Nat.le_refl _) _⟩
set_option maxHeartbeats 400000 in
theorem checkOne_any (x : Ch) (log : Int) (w : World) :
 Calls Tryz.prog 187 #[chV x, .int .i64 log] w fun e w' => e = .returned (.int .i64 (oneFault x log)) ∧ Below w.heap.size w w' := by
 cases h1 : namedB x
 ·go_enter Tryz.func187, Tryz.ntmps187
  go_wp2_with fail
  refine (named_any x _).mono ?_
  rintro e w1 ⟨rfl, hb⟩
  have HB : Hid (Below w.heap.size w w1) := bla ((Below.refl _ _).alloc (Nat.le_refl _) _) hb
  clear hb
  go_wp2
  go_ret
  exact ⟨ret_int (by simp [oneFault, h1]), HB.out⟩
 ·cases h2 : numberedB x log
  ·go_enter Tryz.func187, Tryz.ntmps187
   go_wp2_with fail
   refine (named_any x _).mono ?_
   rintro e w1 ⟨rfl, hb⟩
   obtain ⟨hc, hf⟩ := bcell hb
   go_wp2_with fail
   refine (numbered_any x _ _).mono ?_
   rintro e w2 ⟨rfl, hb2⟩
   have HB : Hid (Below w.heap.size w w2) := bla (bla ((Below.refl _ _).alloc (Nat.le_refl _) _) hb) hb2
   clear hb hb2 hc hf
   go_wp2
   go_ret
   exact ⟨ret_int (by simp [oneFault, h1, h2]), HB.out⟩
  ·cases h3 : (x.out != 0)
   ·go_enter Tryz.func187, Tryz.ntmps187
    go_wp2_with fail
    refine (named_any x _).mono ?_
    rintro e w1 ⟨rfl, hb⟩
    obtain ⟨hc, hf⟩ := bcell hb
    go_wp2_with fail
    refine (numbered_any x _ _).mono ?_
    rintro e w2 ⟨rfl, hb2⟩
    have hz : w.heap.size < w1.heap.size := by have := hb.size; simp at this; omega
    obtain ⟨hc2, hf2⟩ := bcell hb2
    have HB : Hid (Below w.heap.size w w2) := bla (bla ((Below.refl _ _).alloc (Nat.le_refl _) _) hb) hb2
    clear hb hb2 hf hf2
    go_wp2
    go_ret
    exact ⟨ret_int (by simp [oneFault, h1, h2, formB, h3]), HB.out⟩
   ·by_cases h4 : x.out ≤ x.inn
    ·go_enter Tryz.func187, Tryz.ntmps187
     go_wp2_with fail
     refine (named_any x _).mono ?_
     rintro e w1 ⟨rfl, hb⟩
     obtain ⟨hc, hf⟩ := bcell hb
     go_wp2_with fail
     refine (numbered_any x _ _).mono ?_
     rintro e w2 ⟨rfl, hb2⟩
     have hz : w.heap.size < w1.heap.size := by have := hb.size; simp at this; omega
     obtain ⟨hc2, hf2⟩ := bcell hb2
     have HB : Hid (Below w.heap.size w w2) := bla (bla ((Below.refl _ _).alloc (Nat.le_refl _) _) hb) hb2
     clear hb hb2 hf hf2
     go_wp2
     go_ret
     exact ⟨ret_int (by simp [oneFault, h1, h2, formB, h3, h4]), HB.out⟩
    ·cases h5 : (x.gone == 0)
     all_goals
      go_enter Tryz.func187, Tryz.ntmps187
      go_wp2_with fail
      refine (named_any x _).mono ?_
      rintro e w1 ⟨rfl, hb⟩
      obtain ⟨hc, hf⟩ := bcell hb
      go_wp2_with fail
      refine (numbered_any x _ _).mono ?_
      rintro e w2 ⟨rfl, hb2⟩
      have hz : w.heap.size < w1.heap.size := by have := hb.size; simp at this; omega
      obtain ⟨hc2, hf2⟩ := bcell hb2
      have HB : Hid (Below w.heap.size w w2) := bla (bla ((Below.refl _ _).alloc (Nat.le_refl _) _) hb) hb2
      clear hb hb2 hf hf2
      go_wp2
      go_ret
      have h4' : ¬ x.out ≤ x.inn := by omega
      exact ⟨ret_int (by simp [oneFault, h1, h2, formB, h3, h4', h5]), HB.out⟩
def seenBefore (l : List Ch) (k : Nat) : Bool :=
 match l[k]? with
 | some x => (l.take k).any (fun y => sameB y x)
 | none => false
def faultAt (l : List Ch) (log : Int) (k : Nat) : Int :=
 match l[k]? with
 | some x => if oneFault x log ≠ 0 then oneFault x log else if seenBefore l k = true then 6 else 0
 | none => 0
def CheckIs (l : List Ch) (log r : Int) : Prop :=
 (200 < l.length ∧ r = 10) ∨ (l.length ≤ 200 ∧ ((∃ k : Nat, k < l.length ∧ (∀ j, j < k → faultAt l log j = 0) ∧ faultAt l log k = r ∧ r ≠ 0) ∨ ((∀ j, j < l.length → faultAt l log j = 0) ∧ r = 0)))
theorem find_before {l : List Ch} {k : Nat} (hk : k < l.length) {r : Int} (h : FindIs (l.take k) l[k] r) : (0 ≤ r ↔ seenBefore l k = true) ∧ (r < 0 ↔ seenBefore l k = false) ∧ -1 ≤ r ∧ r ≤ k := by
 have hlen : (l.take k).length = k := by simp; omega
 unfold seenBefore
 rw [List.getElem?_eq_getElem hk]
 rcases h with ⟨j, hj, _, hs, rfl⟩ | ⟨hno, rfl⟩
 ·have ha : (l.take k).any (fun y => sameB y l[k]) = true := by
   rw [List.any_eq_true]
   unfold sameAt at hs
   rw [List.getElem?_eq_getElem hj] at hs
   exact ⟨(l.take k)[j], List.getElem_mem hj, hs⟩
  rw [hlen] at hj
  exact ⟨⟨fun _ => ha, fun _ => by omega⟩, ⟨fun h => by omega, fun h => (Bool.noConfusion (ha.symm.trans h))⟩, by omega, by omega⟩
 ·have ha : (l.take k).any (fun y => sameB y l[k]) = false := by
   rw [List.any_eq_false]
   intro y hy
   obtain ⟨j, hj, rfl⟩ := List.mem_iff_getElem.1 hy
   have := hno j hj
   unfold sameAt at this
   rw [List.getElem?_eq_getElem hj] at this
   exact fun h => Bool.noConfusion (this.symm.trans h)
  exact ⟨⟨fun h => by omega, fun h => (Bool.noConfusion (ha.symm.trans h))⟩, ⟨fun _ => ha, fun _ => by omega⟩, by omega, by omega⟩
theorem Row.take {w : World} {b off : Nat} {l : List Ch} (h : Row w b off l) (k : Nat) : Row w b off (l.take k) := by
 refine ⟨h.lt, fun i hi => ?_⟩
 have hi' : i < l.length := by simp at hi; omega
 rw [List.getElem_take]
 exact h.at_ i hi'
theorem fault_step (l : List Ch) (log : Int) (k : Nat) (h : ∀ j, j < k → faultAt l log j = 0) (hk : faultAt l log k = 0) : ∀ j, j < k + 1 → faultAt l log j = 0 := by
 intro j hj
 by_cases e : j = k
 ·rw [e]; exact hk
 ·exact h j (by omega)
set_option maxHeartbeats 1000000 in
theorem check_some (b off len cap : Nat) (l : List Ch) (log : Int) (w : World) (hl : l.length = len) (hc : len ≤ cap) (hm : len ≤ 281474976710656) (hr : Row w b off l) :
 Calls Tryz.prog 157 #[.slice (some ⟨b, off, none⟩) len cap, .int .i64 log] w fun e w' => ∃ r, e = .returned (.int .i64 r) ∧ CheckIs l log r ∧ Below w.heap.size w w' := by
 have HR : Hid (Row w b off l) := hr
 have HL : Hid (l.length = len) := hl
 have hb := hr.lt
 clear hr hl
 by_cases h200 : 200 < len
 ·go_enter Tryz.func157, Tryz.ntmps157
  go_wp2
  go_ret
  exact ⟨10, rfl, .inl ⟨by rw [HL.out]; exact h200, rfl⟩, Below.refl _ _⟩
 ·have h200' : decide (200 < (len : Int)) = false := by simp; omega
  go_enter Tryz.func157, Tryz.ntmps157
  go_wp2
  go_loopw [13] (fun i wr => ∃ k : Nat, k ≤ len ∧ i = .int .i64 k ∧ Hid (∀ j, j < k → faultAt l log j = 0) ∧ Below w.heap.size w wr) (fun i _ => len - (intOf i).toNat)
  case atStart => exact ⟨0, Nat.zero_le _, rfl, fun j hj => absurd hj (Nat.not_lt_zero _), Below.refl _ _⟩
  case round =>
   obtain ⟨k, hk, rfl, hno, hbel⟩ := hrel
   by_cases hlt : k < len
   ·have hkl : k < l.length := by rw [HL.out]; exact hlt
    have HF : Hid _ := fun r => @find_before l k hkl r
    have HX : Hid (faultAt l log k = if oneFault l[k] log ≠ 0 then oneFault l[k] log else if seenBefore l k = true then 6 else 0) := by
     unfold Hid faultAt
     rw [List.getElem?_eq_getElem hkl]
    have HRr : Hid (Row wr b off l) := HR.out.below hbel
    obtain ⟨h0, h1, h2, h3, h4, h5, h6⟩ := HRr.out.at_ k hkl
    generalize l[k] = x at h0 h1 h2 h3 h4 h5 h6 HX HF
    go_wp2_with fail
    refine (checkOne_any x _ _).mono ?_
    rintro e w1 ⟨rfl, hb1⟩
    by_cases hz : oneFault x log = 0
    ·have hz' : (oneFault x log != 0) = false := by simp [hz]
     have HZ : Hid (oneFault x log = 0) := hz
     obtain ⟨hc1, hf1⟩ := bcell hb1
     have hk0 : (0 : Int) ≤ (k : Int) := by omega
     have hkc : (k : Int) ≤ (cap : Int) := by omega
     have hb2 : Below w.heap.size w w1 := bla (hbel.alloc (by have := hbel.size; omega) _) hb1
     have HC : Hid (Calls Tryz.prog 188 #[.slice (some ⟨b, off, none⟩) k cap, chV x] w1.drew fun e w' => ∃ r, e = .returned (.int .i64 r) ∧ FindIs (l.take k) x r ∧ Below w1.drew.heap.size w1.drew w') :=
      find_some b off k cap (l.take k) x w1.drew (by simp; omega) (by omega) ((HR.out.below hb2.drew).take k)
     clear h0 h1 h2 h3 h4 h5 h6 hz
     go_wp2_with fail
     go_region_with (go_at_call 188; refine HC.out.mono ?_; rintro e w2 ⟨r, rfl, hfi, hb3⟩)
     have HFI := HF.out r hfi
     have HB4 : Hid (Below w.heap.size w w2) := bla hb2.drew hb3
     clear hfi hb3 hb2 hb1 hc1 hf1 HC HF hbel hk0 hkc
     by_cases hr : 0 ≤ r
     ·have hs := HFI.1.1 hr
      have HV : Hid (faultAt l log k = 6) := by unfold Hid; rw [HX.out, if_neg (by rw [HZ.out]; simp), if_pos hs]
      clear HFI hs
      go_wp2
      go_ret
      exact ⟨6, rfl, .inr ⟨by rw [HL.out]; omega, .inl ⟨k, by rw [HL.out]; exact hlt, hno.out, HV.out, by decide⟩⟩, HB4.out⟩
     ·have hs := HFI.2.1.1 (by omega)
      have HV : Hid (faultAt l log k = 0) := by unfold Hid; rw [HX.out, if_neg (by rw [HZ.out]; simp), if_neg (by rw [hs]; simp)]
      clear HFI hs
      go_wp2
      go_roundw
      case rel => exact ⟨k + 1, by omega, by go_num, fault_step l log k hno.out HV.out, HB4.out⟩
      case measure => simp [intOf]; omega
    ·have hz' : (oneFault x log != 0) = true := by simp [hz]
     have HZ : Hid (oneFault x log ≠ 0) := hz
     have hb2 : Below w.heap.size w w1 := bla (hbel.alloc (by have := hbel.size; omega) _) hb1
     clear h0 h1 h2 h3 h4 h5 h6 hb1 hz HF
     go_wp2
     go_ret
     refine ⟨oneFault x log, rfl, .inr ⟨by rw [HL.out]; omega, .inl ⟨k, by rw [HL.out]; exact hlt, hno.out, ?_, HZ.out⟩⟩, hb2⟩
     rw [HX.out, if_pos HZ.out]
   ·obtain rfl : k = len := by omega
    go_wp2
    go_ret
    exact ⟨0, rfl, .inr ⟨by rw [HL.out]; omega, .inr ⟨by rw [HL.out]; exact hno.out, rfl⟩⟩, hbel⟩
end Go.Proofs.YtcbnnfeelhlapadGreatDoor
