/-
  The walk of the law CharsBehind, for lists that lie in memory and for those without elements.
-/
import Derived.Test.YtnabhdfodckpdacGreatBegun
import Derived.Test.YtnabhdfodckpdacGreatLeaf
namespace Go.Proofs.YtnabhdfodckpdacGreat
set_option maxRecDepth 20000
open Go.RowKit
set_option maxHeartbeats 400000 in
theorem count_empty (a : Option Addr) (cap : Nat) (seen by_ : Int) (w : World) :
 Calls Tryz.prog 99 #[.slice a 0 cap, .int .i64 seen, .int .i64 by_] w fun e w' => e = .returned (.int .i64 0) ∧ Below w.heap.size w w' := by
 go_enter Tryz.func99, Tryz.ntmps99
 go_wp2
 refine wp_loop_rounds 1 ?_
 rw [rounds_succ]
 go_wp2
 go_ret
 exact ⟨rfl, Below.refl _ _⟩
set_option maxHeartbeats 400000 in
theorem indexFunc_empty (a : Option Addr) (cap : Nat) (f : Value) (w : World) :
 Calls Tryz.prog 94 #[.slice a 0 cap, f] w fun e w' => e = .returned (.int .i64 (-1)) ∧ Below w.heap.size w w' := by
 go_enter Tryz.func94, Tryz.ntmps94
 go_wp2
 refine wp_loop_rounds 1 ?_
 rw [rounds_succ]
 go_wp2
 go_ret
 exact ⟨rfl, Below.refl _ _⟩
def emptyBehind (n : Int) : Int := if n = 0 then 0 else -1
theorem below4 (w : World) (o1 o2 o3 o4 : Obj) : Below w.heap.size w ((((w.alloc o1).alloc o2).alloc o3).alloc o4) :=
 ((((Below.refl _ _).alloc (Nat.le_refl _) _).alloc (by simp) _).alloc (by simp; omega) _).alloc (by simp; omega) _
set_option maxHeartbeats 400000 in
theorem behind_empty (a : Option Addr) (cap : Nat) (seen by_ n : Int) (w : World) :
 Calls Tryz.prog 100 #[.slice a 0 cap, .int .i64 seen, .int .i64 by_, .int .i64 n] w fun e w' => e = .returned (.int .i64 (emptyBehind n)) ∧ Below w.heap.size w w' := by
 by_cases h0 : n = 0
 ·have h0' : (n == 0) = true := by simp [h0]
  have H0 : Hid (n = 0) := h0
  clear h0
  go_enter Tryz.func100, Tryz.ntmps100
  go_wp2
  go_ret
  exact ⟨ret_int (by simp [emptyBehind, H0.out]), (((Below.refl _ _).alloc (Nat.le_refl _) _).alloc (by simp) _).alloc (by simp; omega) _⟩
 ·have h0' : (n == 0) = false := by simp [h0]
  have H0 : Hid (n ≠ 0) := h0
  clear h0
  have hmf : ∀ (fn : Fn) (first cap : Array Value) (w : World), (Instr.makeFunc fn first cap).run Tryz.prog w = .ok (.func fn first cap) w := fun _ _ _ _ => rfl
  go_enter Tryz.func100, Tryz.ntmps100
  go_wp2_with fail
  refine (indexFunc_empty _ _ _ _).mono ?_
  rintro e w1 ⟨rfl, hb⟩
  have HB : Hid (Below w.heap.size w w1) := bla (below4 w _ _ _ _) hb
  clear hb
  go_wp2
  go_ret
  exact ⟨ret_int (by simp [emptyBehind, H0.out]), HB.out⟩
theorem cnt_take_le (l : List Ch) (seen by_ : Int) (k : Nat) : cnt (l.take k) seen by_ ≤ cnt l seen by_ := by
 have h : cnt (l.take k ++ l.drop k) seen by_ = cnt (l.take k) seen by_ + cnt (l.drop k) seen by_ := by
  unfold cnt
  rw [List.filter_append, List.length_append]
  omega
 rw [List.take_append_drop] at h
 have := (cnt_bd (l.drop k) seen by_).1
 omega
theorem hit_iff (l : List Ch) (seen by_ nn : Int) (k : Nat) (hk : k < l.length) : hitAt l seen by_ nn k = true ↔ seesC seen by_ l[k] = true ∧ cnt (l.take (k + 1)) seen by_ = nn := by
 unfold hitAt
 rw [List.getElem?_eq_getElem hk, take_snoc l k hk, cnt_snoc]
 simp only [stepH]
 by_cases h : seesC seen by_ l[k] = true
 ·simp [h]
 ·simp [h]
theorem hit_ex (l : List Ch) (seen by_ nn : Int) (h1 : 0 < nn) : ∀ m, m ≤ l.length → nn ≤ cnt (l.take m) seen by_ → ∃ k, k < m ∧ hitAt l seen by_ nn k = true := by
 intro m
 induction m with
 | zero => intro _ h; simp [cnt] at h; omega
 | succ m ih =>
  intro hm h
  by_cases hle : nn ≤ cnt (l.take m) seen by_
  ·obtain ⟨k, hk, hh⟩ := ih (by omega) hle
   exact ⟨k, by omega, hh⟩
  ·refine ⟨m, by omega, (hit_iff l seen by_ nn m (by omega)).2 ?_⟩
   have hs := cnt_snoc (l.take m) l[m] seen by_
   rw [← take_snoc l m (by omega)] at hs
   by_cases hx : seesC seen by_ l[m] = true
   ·rw [if_pos hx] at hs
    exact ⟨hx, by omega⟩
   ·rw [if_neg hx] at hs
    omega
theorem behind_zero {l : List Ch} {seen by_ r : Int} (h : BehindIs l seen by_ 0 r) : r = 0 := by
 rcases h with ⟨_, hr⟩ | ⟨h, _⟩
 ·exact hr
 ·exact absurd rfl h
theorem behind_pos {l : List Ch} {seen by_ n r : Int} (h : BehindIs l seen by_ n r) (h0 : 0 < n) (hn : n ≤ cnt l seen by_) :
 ∃ m : Nat, ∃ hm : m < l.length, r = m + 1 ∧ cnt (l.take (m + 1)) seen by_ = n ∧ seesC seen by_ l[m] = true := by
 rcases h with ⟨rfl, _⟩ | ⟨_, ⟨k, hk, _, hyes, hr⟩ | ⟨hno, _⟩⟩
 ·omega
 ·have h1 := (hit_iff l seen by_ n k hk).1 hyes
  exact ⟨k, hk, hr, h1.2, h1.1⟩
 ·obtain ⟨k, hk, hh⟩ := hit_ex l seen by_ n h0 l.length (Nat.le_refl _) (by rw [List.take_length]; exact hn)
  rw [hno k hk] at hh
  cases hh
end Go.Proofs.YtnabhdfodckpdacGreat

/-
  A list of bytes as a value, empty or not: the contracts of Count, View, Behind and Check over it; the text of what one sees.
-/
namespace Go.Proofs.YtnabhdfodckpdacGreat
set_option maxRecDepth 20000
open Go.RowKit
def Lst (w : World) (v : Value) (l : List Ch) : Prop :=
 ∃ (a : Option Addr) (len cap : Nat), v = .slice a len cap ∧ l.length = len ∧ len ≤ cap ∧ (len = 0 ∨ ∃ b off, a = some ⟨b, off, none⟩ ∧ Row w b off l)
theorem Lst.below {w w' : World} {v : Value} {l : List Ch} (h : Lst w v l) (hb : Below w.heap.size w w') : Lst w' v l := by
 obtain ⟨a, len, cap, rfl, h1, h2, h3⟩ := h
 refine ⟨a, len, cap, rfl, h1, h2, ?_⟩
 rcases h3 with h3 | ⟨b, off, rfl, hr⟩
 ·exact .inl h3
 ·exact .inr ⟨b, off, rfl, hr.below hb⟩
theorem lst_nil (w : World) : Lst w (.slice none 0 0) [] := ⟨none, 0, 0, rfl, rfl, Nat.le_refl _, .inl rfl⟩
set_option maxHeartbeats 400000 in
theorem view_empty (a : Option Addr) (cap : Nat) (seen by_ : Int) (w : World) :
 Calls Tryz.prog 19 #[.slice a 0 cap, .int .i64 seen, .int .i64 by_] w fun e w' => e = .returned (.slice none 0 0) ∧ Below w.heap.size w w' := by
 go_enter Tryz.func19, Tryz.ntmps19
 go_wp2
 refine wp_loop_rounds 1 ?_
 rw [rounds_succ]
 go_wp2
 go_ret
 exact ⟨rfl, Below.refl _ _⟩
set_option maxHeartbeats 400000 in
theorem check_empty (a : Option Addr) (cap : Nat) (log : Int) (w : World) :
 Calls Tryz.prog 82 #[.slice a 0 cap, .int .i64 log] w fun e w' => e = .returned (.int .i64 0) ∧ Below w.heap.size w w' := by
 go_enter Tryz.func82, Tryz.ntmps82
 go_wp2
 refine wp_loop_rounds 1 ?_
 rw [rounds_succ]
 go_wp2
 go_ret
 exact ⟨rfl, Below.refl _ _⟩
theorem count_lst {w : World} {v : Value} {l : List Ch} (h : Lst w v l) (hl : l.length ≤ 1000) (seen by_ : Int) :
 Calls Tryz.prog 99 #[v, .int .i64 seen, .int .i64 by_] w fun e w' => e = .returned (.int .i64 (cnt l seen by_)) ∧ Below w.heap.size w w' := by
 obtain ⟨a, len, cap, rfl, h1, h2, h3⟩ := h
 rcases h3 with rfl | ⟨b, off, rfl, hr⟩
 ·obtain rfl : l = [] := List.length_eq_zero_iff.1 h1
  exact count_empty a cap seen by_ w
 ·exact count_some b off len cap l seen by_ w h1 (by omega) hr
theorem check_lst {w : World} {v : Value} {l : List Ch} (h : Lst w v l) (hl : l.length ≤ 1000) (log : Int) :
 Calls Tryz.prog 82 #[v, .int .i64 log] w fun e w' => ∃ r, e = .returned (.int .i64 r) ∧ CheckIs l log r ∧ Below w.heap.size w w' := by
 obtain ⟨a, len, cap, rfl, h1, h2, h3⟩ := h
 rcases h3 with rfl | ⟨b, off, rfl, hr⟩
 ·obtain rfl : l = [] := List.length_eq_zero_iff.1 h1
  refine (check_empty a cap log w).mono ?_
  rintro e w' ⟨rfl, hb⟩
  exact ⟨0, rfl, .inr ⟨by decide, .inr ⟨fun j hj => absurd hj (Nat.not_lt_zero _), rfl⟩⟩, hb⟩
 ·exact check_some b off len cap l log w h1 h2 (by omega) hr
theorem strOfNums_app (a b : List Int) : strOfNums (a ++ b) = strOfNums a ++ strOfNums b := by
 cases hs : strOfNums a ++ strOfNums b with
 | mk d =>
  have h1 : d.toList = (strOfNums a).data.toList ++ (strOfNums b).data.toList := by
   have := congrArg (fun s : ByteArray => s.data.toList) hs
   simpa using this.symm
  have h2 : (strOfNums (a ++ b)).data.toList = d.toList := by rw [h1, strOfNums_data, strOfNums_data, strOfNums_data, List.map_append]
  cases hd : strOfNums (a ++ b) with
  | mk d' =>
   rw [hd] at h2
   have : d' = d := Array.toList_inj.1 h2
   rw [this]
theorem strOfNums_size (a : List Int) : (strOfNums a).size = a.length := by
 show (strOfNums a).data.size = a.length
 rw [← Array.length_toList, strOfNums_data, List.length_map]
end Go.Proofs.YtnabhdfodckpdacGreat

/-
  Plain mathematics of a deed: what may be done, and its line. No walk.
-/
namespace Go.Proofs.YtnabhdfodckpdacGreat
open Go.RowKit
structure Dd where
 kind : Int
 by_ : Int
 no : Int
 seen : Int
 at_ : Int
 many : Int
 text : ByteArray
abbrev ddV (d : Dd) : Value := .agg #[.int .i64 d.kind, .int .i64 d.by_, .int .i64 d.no, .int .i64 d.seen, .int .i64 d.at_, .int .i64 d.many, .string d.text]
def okChar (b : UInt8) : Bool := decide (32 ≤ b.toNat ∧ b.toNat ≤ 126)
def printedB (s : ByteArray) : Bool := decide (1 ≤ s.size ∧ s.size ≤ 20) && s.data.toList.all okChar
def placedB (d : Dd) : Bool := wrB d.by_ && (withinB d.no 1 120 && (withinB d.seen 0 120 && withinB d.at_ 0 200))
def putC (d : Dd) : Int := if d.many ≠ 0 then 3 else if printedB d.text = true then 0 else 4
def takeC (d : Dd) : Int := if d.text.size ≠ 0 then 3 else if withinB d.many 1 200 = true then 0 else 1
def checkC (d : Dd) : Int := if d.kind ≠ 1 ∧ d.kind ≠ 2 then 2 else if placedB d = false then 1 else if d.kind = 1 then putC d else takeC d
theorem size_list (s : ByteArray) : s.data.toList.length = s.size := rfl
theorem getB (s : ByteArray) (k : Nat) (h : k < s.size) : s.data.toList[k]'h = s[k] := rfl
theorem all_take_succ (s : ByteArray) (k : Nat) (h : k < s.size) : (s.data.toList.take (k + 1)).all okChar = ((s.data.toList.take k).all okChar && okChar s[k]) := by
 rw [List.take_add_one, List.getElem?_eq_getElem h, Option.toList_some, List.all_append, getB s k h, List.all_cons, List.all_nil, Bool.and_true]
theorem all_no (s : ByteArray) (k : Nat) (h : k < s.size) (hk : okChar s[k] = false) : s.data.toList.all okChar = false := by
 rw [List.all_eq_false]
 exact ⟨s[k], by rw [← getB s k h]; exact List.getElem_mem _, by simp [hk]⟩
theorem ba_empty {s : ByteArray} (h : s.size = 0) : s = ⟨#[]⟩ := by
 cases s with
 | mk d => have : d.size = 0 := h
           have : d = #[] := Array.eq_empty_of_size_eq_zero this
           rw [this]
end Go.Proofs.YtnabhdfodckpdacGreat

/-
  Plain mathematics of deeds done to a list: what a deed makes of it, and what its writer and others see behind it. No walk.
-/
namespace Go.Proofs.YtnabhdfodckpdacGreat
abbrev openN : Int := 1073741824
def newCh (d : Dd) (number : Int) (k : Nat) (b : UInt8) : Ch := ⟨b.toNat, d.by_, d.no, k, number, 0, 0⟩
def newFrom (d : Dd) (number : Int) : Nat → List UInt8 → List Ch
 | _, [] => []
 | k, b :: r => newCh d number k b :: newFrom d number (k + 1) r
def newL (d : Dd) (number : Int) : List Ch := newFrom d number 0 d.text.data.toList
def markOut (number out : Int) : Int := if number ≠ openN ∧ (out = 0 ∨ number < out) then number else out
def mark (by_ number : Int) (x : Ch) : Ch := ⟨x.c, x.by_, x.no, x.k, x.inn, markOut number x.out, x.gone + 2 ^ by_.toNat⟩
def behindL (seen by_ : Int) : Nat → List Ch → Option Nat
 | 0, _ => some 0
 | _ + 1, [] => none
 | n + 1, x :: r => if seesC seen by_ x = true then (behindL seen by_ n r).map (· + 1) else (behindL seen by_ (n + 1) r).map (· + 1)
def skipL (by_ : Int) : List Ch → Nat
 | [] => 0
 | x :: r => if x.inn = openN ∧ x.by_ ≠ by_ then skipL by_ r + 1 else 0
def placeL (l : List Ch) (d : Dd) : Nat :=
 match behindL d.seen d.by_ d.at_.toNat l with
 | some p => p + skipL d.by_ (l.drop p)
 | none => 0
def takeL (d : Dd) (number : Int) : Int → List Ch → List Ch
 | _, [] => []
 | k, x :: r => if seesC d.seen d.by_ x = true then (if d.at_ ≤ k ∧ k < d.at_ + d.many then mark d.by_ number x else x) :: takeL d number (k + 1) r else x :: takeL d number k r
def doL (l : List Ch) (d : Dd) (number : Int) : List Ch :=
 if d.kind = 1 then l.take (placeL l d) ++ (newL d number ++ l.drop (placeL l d)) else takeL d number 0 l
theorem vw_app (a b : List Ch) (seen by_ : Int) : vw (a ++ b) seen by_ = vw a seen by_ ++ vw b seen by_ := by
 simp [vw, List.filter_append]
theorem vw_cons_yes {x : Ch} {seen by_ : Int} (l : List Ch) (h : seesC seen by_ x = true) : vw (x :: l) seen by_ = x.c :: vw l seen by_ := by
 simp [vw, h]
theorem vw_cons_no {x : Ch} {seen by_ : Int} (l : List Ch) (h : seesC seen by_ x = false) : vw (x :: l) seen by_ = vw l seen by_ := by
 simp [vw, h]
theorem vw_len (l : List Ch) (seen by_ : Int) : ((vw l seen by_).length : Int) = cnt l seen by_ := by
 simp [vw, cnt]
theorem vw_none {l : List Ch} {seen by_ : Int} (h : ∀ x ∈ l, seesC seen by_ x = false) : vw l seen by_ = [] := by
 induction l with
 | nil => rfl
 | cons x r ih => rw [vw_cons_no r (h x (by simp)), ih (fun y hy => h y (by simp [hy]))]
theorem new_unseen (d : Dd) (number seen by_ : Int) (k : Nat) (b : UInt8) (h : d.by_ ≠ by_) (hn : seen < number) : seesC seen by_ (newCh d number k b) = false := by
 have h1 : inB number d.by_ seen by_ = false := by
  rw [inB]
  refine decide_eq_false (fun e => ?_)
  rcases e with e | e
  ·omega
  ·exact h e
 show (inB number d.by_ seen by_ && !outB 0 0 seen by_) = false
 rw [h1]
 rfl
def nums (s : ByteArray) : List Int := s.data.toList.map fun b => (b.toNat : Int)
theorem newFrom_mem {d : Dd} {number : Int} {x : Ch} : ∀ {k : Nat} {l : List UInt8}, x ∈ newFrom d number k l → ∃ j b, x = newCh d number j b ∧ k ≤ j ∧ j < k + l.length ∧ b ∈ l
 | _, [], h => by simp [newFrom] at h
 | k, b :: r, h => by
  rw [newFrom, List.mem_cons] at h
  rcases h with rfl | h
  ·exact ⟨k, b, rfl, Nat.le_refl _, by simp, by simp⟩
  ·obtain ⟨j, c, rfl, h1, h2, h3⟩ := newFrom_mem h
   exact ⟨j, c, rfl, by omega, by simp; omega, by simp [h3]⟩
theorem newFrom_c (d : Dd) (number : Int) : ∀ (k : Nat) (l : List UInt8), (newFrom d number k l).map (·.c) = l.map fun b => (b.toNat : Int)
 | _, [] => rfl
 | k, b :: r => by rw [newFrom, List.map_cons, newFrom_c d number (k + 1) r, List.map_cons]; rfl
theorem newFrom_len (d : Dd) (number : Int) : ∀ (k : Nat) (l : List UInt8), (newFrom d number k l).length = l.length
 | _, [] => rfl
 | k, b :: r => by rw [newFrom, List.length_cons, newFrom_len d number (k + 1) r, List.length_cons]
theorem newFrom_snoc (d : Dd) (number : Int) (b : UInt8) : ∀ (k : Nat) (l : List UInt8), newFrom d number k (l ++ [b]) = newFrom d number k l ++ [newCh d number (k + l.length) b]
 | k, [] => rfl
 | k, c :: r => by
  rw [List.cons_append, newFrom, newFrom_snoc d number b (k + 1) r, newFrom, List.cons_append, List.length_cons, show k + 1 + r.length = k + (r.length + 1) by omega]
theorem newL_len (d : Dd) (number : Int) : (newL d number).length = d.text.size := by rw [newL, newFrom_len, size_list]
theorem newL_unseen (d : Dd) (number seen by_ : Int) (h : d.by_ ≠ by_) (hn : seen < number) : vw (newL d number) seen by_ = [] := by
 refine vw_none (fun x hx => ?_)
 obtain ⟨j, b, rfl, _⟩ := newFrom_mem hx
 exact new_unseen d number seen by_ j b h hn
theorem behindL_some {seen by_ : Int} : ∀ {n : Nat} {l : List Ch}, n ≤ (vw l seen by_).length → ∃ p, behindL seen by_ n l = some p
 | 0, l, _ => ⟨0, by cases l <;> rfl⟩
 | n + 1, [], h => by simp [vw] at h
 | n + 1, x :: r, h => by
  rw [behindL]
  by_cases hx : seesC seen by_ x = true
  ·rw [vw_cons_yes r hx] at h
   obtain ⟨p, hp⟩ := behindL_some (n := n) (l := r) (by simpa using h)
   exact ⟨p + 1, by rw [if_pos hx, hp]; rfl⟩
  ·rw [vw_cons_no r (by simpa using hx)] at h
   obtain ⟨p, hp⟩ := behindL_some (n := n + 1) (l := r) h
   exact ⟨p + 1, by rw [if_neg hx, hp]; rfl⟩
theorem behindL_view {seen by_ : Int} : ∀ {n : Nat} {l : List Ch} {p : Nat}, behindL seen by_ n l = some p → p ≤ l.length ∧ vw (l.take p) seen by_ = (vw l seen by_).take n ∧ (vw l seen by_).take n = (vw (l.take p) seen by_) ∧ (vw (l.take p) seen by_).length = n
 | 0, l, p, h => by
  obtain rfl : p = 0 := by cases l <;> exact (Option.some.inj h).symm
  simp [vw]
 | n + 1, [], p, h => by cases h
 | n + 1, x :: r, p, h => by
  rw [behindL] at h
  by_cases hx : seesC seen by_ x = true
  ·rw [if_pos hx] at h
   cases hb : behindL seen by_ n r with
   | none => rw [hb] at h; cases h
   | some q =>
    rw [hb] at h
    obtain rfl := Option.some.inj h
    obtain ⟨h1, h2, _, h4⟩ := behindL_view hb
    rw [List.take_succ_cons, vw_cons_yes _ hx, vw_cons_yes _ hx, h2]
    rw [h2] at h4
    refine ⟨by simpa using h1, rfl, rfl, by simpa using h4⟩
  ·have hx' : seesC seen by_ x = false := by simpa using hx
   rw [if_neg hx] at h
   cases hb : behindL seen by_ (n + 1) r with
   | none => rw [hb] at h; cases h
   | some q =>
    rw [hb] at h
    obtain rfl := Option.some.inj h
    obtain ⟨h1, h2, _, h4⟩ := behindL_view hb
    rw [List.take_succ_cons, vw_cons_no _ hx', vw_cons_no _ hx', h2]
    rw [h2] at h4
    exact ⟨by simpa using h1, rfl, rfl, h4⟩
theorem skipL_le (by_ : Int) : ∀ (l : List Ch), skipL by_ l ≤ l.length
 | [] => Nat.le_refl _
 | x :: r => by
  rw [skipL]
  split
  ·have := skipL_le by_ r; simp; omega
  ·simp
theorem bit_add {g : Int} {w : Int} (hw : wrB w = true) (h : bitB g w = false) (v : Int) (hv : wrB v = true) : bitB (g + 2 ^ w.toNat) v = (decide (v = w) || bitB g v) := by
 have hw' : 0 ≤ w ∧ w ≤ 3 := by simpa [wrB] using hw
 have hv' : 0 ≤ v ∧ v ≤ 3 := by simpa [wrB] using hv
 unfold bitB at h ⊢
 have h' : ¬ g / 2 ^ w.toNat % 2 = 1 := by simpa using h
 rcases (show w = 0 ∨ w = 1 ∨ w = 2 ∨ w = 3 by omega) with rfl | rfl | rfl | rfl <;> rcases (show v = 0 ∨ v = 1 ∨ v = 2 ∨ v = 3 by omega) with rfl | rfl | rfl | rfl <;>
  (rw [Bool.eq_iff_iff]; simp at h' ⊢; try omega)
theorem took_add {g : Int} {w : Int} (hw : wrB w = true) (h : tookB g w = false) (v : Int) : tookB (g + 2 ^ w.toNat) v = (decide (v = w) || tookB g v) := by
 rw [tookB, hw, Bool.true_and] at h
 by_cases hv : wrB v = true
 ·rw [tookB, tookB, hv, Bool.true_and, Bool.true_and, bit_add hw h v hv]
 ·have hv' : wrB v = false := by simpa using hv
  have hne : v ≠ w := fun e => by rw [e, hw] at hv'; cases hv'
  rw [tookB, tookB, hv', decide_eq_false hne]
  rfl
theorem add_fits {g w : Int} (hw : wrB w = true) (h : tookB g w = false) (hg : g ≤ 9223372036854775807) : g + 2 ^ w.toNat ≤ 9223372036854775807 := by
 have hw' : 0 ≤ w ∧ w ≤ 3 := by simpa [wrB] using hw
 rw [tookB, hw, Bool.true_and, bitB] at h
 have h' : ¬ g / 2 ^ w.toNat % 2 = 1 := by simpa using h
 rcases (show w = 0 ∨ w = 1 ∨ w = 2 ∨ w = 3 by omega) with rfl | rfl | rfl | rfl <;> (simp at h' ⊢; omega)
theorem sees_took {x : Ch} {seen by_ : Int} (h : seesC seen by_ x = true) : tookB x.gone by_ = false := by
 simp only [seesC, seesB, outB, Bool.and_eq_true, Bool.not_eq_true', Bool.or_eq_false_iff] at h
 exact h.2.2
theorem mark_other {x : Ch} {seen v by_ number : Int} (hw : wrB by_ = true) (h : tookB x.gone by_ = false) (hv : v ≠ by_) :
 seesC seen v (mark by_ number x) = (inB x.inn x.by_ seen v && !(decide (markOut number x.out ≠ 0 ∧ markOut number x.out ≤ seen) || tookB x.gone v)) := by
 show (inB x.inn x.by_ seen v && !(decide (markOut number x.out ≠ 0 ∧ markOut number x.out ≤ seen) || tookB (x.gone + 2 ^ by_.toNat) v)) = _
 rw [took_add hw h, decide_eq_false hv, Bool.false_or]
theorem out_far {number seen out : Int} (h : seen < number) : decide (markOut number out ≠ 0 ∧ markOut number out ≤ seen) = decide (out ≠ 0 ∧ out ≤ seen) := by
 unfold markOut
 by_cases hc : number ≠ openN ∧ (out = 0 ∨ number < out)
 ·rw [if_pos hc, decide_eq_false (by omega), decide_eq_false (by omega)]
 ·rw [if_neg hc]
theorem out_open {seen out : Int} : decide (markOut openN out ≠ 0 ∧ markOut openN out ≤ seen) = decide (out ≠ 0 ∧ out ≤ seen) := by
 unfold markOut
 rw [if_neg (by simp)]
theorem mark_far {x : Ch} {seen v by_ number : Int} (hw : wrB by_ = true) (h : tookB x.gone by_ = false) (hv : v ≠ by_) (hn : seen < number ∨ number = openN) : seesC seen v (mark by_ number x) = seesC seen v x := by
 rw [mark_other hw h hv]
 rcases hn with hn | rfl
 ·rw [out_far hn]; rfl
 ·rw [out_open]; rfl
theorem takeL_len (d : Dd) (number : Int) : ∀ (l : List Ch) (k : Int), (takeL d number k l).length = l.length
 | [], k => rfl
 | x :: r, k => by
  rw [takeL]
  split
  ·rw [List.length_cons, takeL_len d number r (k + 1), List.length_cons]
  ·rw [List.length_cons, takeL_len d number r k, List.length_cons]
theorem takeL_far {d : Dd} {number seen v : Int} (hw : wrB d.by_ = true) (hv : v ≠ d.by_) (hn : seen < number ∨ number = openN) : ∀ (l : List Ch) (k : Int), vw (takeL d number k l) seen v = vw l seen v
 | [], k => rfl
 | x :: r, k => by
  rw [takeL]
  by_cases hx : seesC d.seen d.by_ x = true
  ·rw [if_pos hx]
   have ih := takeL_far hw hv hn r (k + 1)
   have hy : ∀ y : Ch, seesC seen v y = seesC seen v x → y.c = x.c → vw (y :: takeL d number (k + 1) r) seen v = vw (x :: r) seen v := by
    intro y h1 h2
    by_cases hs : seesC seen v x = true
    ·rw [vw_cons_yes _ (h1.trans hs), vw_cons_yes _ hs, ih, h2]
    ·have hs' : seesC seen v x = false := by simpa using hs
     rw [vw_cons_no _ (h1.trans hs'), vw_cons_no _ hs', ih]
   split
   ·exact hy _ (mark_far hw (sees_took hx) hv hn) rfl
   ·exact hy _ rfl rfl
  ·rw [if_neg hx]
   have ih := takeL_far hw hv hn r k
   by_cases hs : seesC seen v x = true
   ·rw [vw_cons_yes _ hs, vw_cons_yes _ hs, ih]
   ·have hs' : seesC seen v x = false := by simpa using hs
    rw [vw_cons_no _ hs', vw_cons_no _ hs', ih]
theorem cnt_cons (x : Ch) (l : List Ch) (seen v : Int) : cnt (x :: l) seen v = (if seesC seen v x = true then 1 else 0) + cnt l seen v := by
 unfold cnt
 by_cases h : seesC seen v x = true
 ·simp [h]; omega
 ·simp [h]
def room (d : Dd) (k : Int) : Int := if k < d.at_ then d.many else if k < d.at_ + d.many then d.at_ + d.many - k else 0
theorem doL_far {l : List Ch} {d : Dd} {number seen v : Int} (hw : wrB d.by_ = true) (hv : v ≠ d.by_) (hn : seen < number) : vw (doL l d number) seen v = vw l seen v := by
 by_cases hk : d.kind = 1
 ·rw [doL, if_pos hk, vw_app, vw_app, newL_unseen d number seen v (fun e => hv e.symm) hn, List.nil_append, ← vw_app, List.take_append_drop]
 ·rw [doL, if_neg hk]
  exact takeL_far hw hv (.inl hn) l 0
def tk (d : Dd) (number k : Int) (x : Ch) : Ch := if seesC d.seen d.by_ x = true ∧ d.at_ ≤ k ∧ k < d.at_ + d.many then mark d.by_ number x else x
def nx (d : Dd) (k : Int) (x : Ch) : Int := if seesC d.seen d.by_ x = true then k + 1 else k
theorem takeL_cons (d : Dd) (number k : Int) (x : Ch) (r : List Ch) : takeL d number k (x :: r) = tk d number k x :: takeL d number (nx d k x) r := by
 rw [takeL, tk, nx]
 by_cases hx : seesC d.seen d.by_ x = true
 ·rw [if_pos hx, if_pos hx]
  by_cases hc : d.at_ ≤ k ∧ k < d.at_ + d.many
  ·rw [if_pos hc, if_pos ⟨hx, hc⟩]
  ·rw [if_neg hc, if_neg (fun e => hc e.2)]
 ·rw [if_neg hx, if_neg hx, if_neg (fun e => hx e.1)]
theorem tk_far {d : Dd} {number k seen v : Int} {x : Ch} (hw : wrB d.by_ = true) (hv : v ≠ d.by_) (hn : seen < number ∨ number = openN) : seesC seen v (tk d number k x) = seesC seen v x := by
 unfold tk
 split
 ·rename_i h
  exact mark_far hw (sees_took h.1) hv hn
 ·rfl
theorem doL_len {l : List Ch} {d : Dd} {number : Int} (ht : d.kind ≠ 1 → d.text.size = 0) : (doL l d number).length = l.length + d.text.size := by
 by_cases hk : d.kind = 1
 ·rw [doL, if_pos hk, List.length_append, List.length_append, newL_len]
  have := congrArg List.length (List.take_append_drop (placeL l d) l)
  rw [List.length_append] at this
  omega
 ·rw [doL, if_neg hk, takeL_len, ht hk, Nat.add_zero]
end Go.Proofs.YtnabhdfodckpdacGreat

/-
  Plain mathematics: what deeds make, one behind the other, is a list that may be; and two texts at the same place. No walk.
-/
namespace Go.Proofs.YtnabhdfodckpdacGreat
def mayC (l : List Ch) (d : Dd) : Int :=
 if checkC d ≠ 0 then checkC d else if cnt l d.seen d.by_ < d.at_ + d.many then 1 else if 200 < l.length + d.text.size then 9 else 0
def doC (l : List Ch) (d : Dd) (number : Int) : Int := if mayC l d ≠ 0 then mayC l d else if number < 1 then 1 else 0
def allL : List Ch → Nat → List Dd → (List Ch) × Int × Nat
 | l, _, [] => (l, 0, 0)
 | l, i, d :: r => if doC l d (i + 1) ≠ 0 then ([], doC l d (i + 1), i) else allL (doL l d (i + 1)) (i + 1) r
theorem doC_zero {l : List Ch} {d : Dd} {number : Int} (h : doC l d number = 0) : checkC d = 0 ∧ d.at_ + d.many ≤ cnt l d.seen d.by_ ∧ l.length + d.text.size ≤ 200 ∧ 1 ≤ number := by
 unfold doC at h
 by_cases hm : mayC l d = 0
 ·rw [if_neg (by simp [hm])] at h
  unfold mayC at hm
  by_cases hc : checkC d = 0
  ·rw [if_neg (by simp [hc])] at hm
   by_cases h1 : cnt l d.seen d.by_ < d.at_ + d.many
   ·rw [if_pos h1] at hm; cases hm
   ·rw [if_neg h1] at hm
    by_cases h2 : 200 < l.length + d.text.size
    ·rw [if_pos h2] at hm; cases hm
    ·by_cases h3 : number < 1
     ·rw [if_pos h3] at h; cases h
     ·exact ⟨hc, by omega, by omega, by omega⟩
  ·rw [if_pos hc] at hm; exact absurd hm hc
 ·rw [if_pos hm] at h; exact absurd h hm
structure Made (last : Int → Int) (i : Nat) (l : List Ch) : Prop where
 wr : ∀ x ∈ l, wrB x.by_ = true
 no : ∀ x ∈ l, 1 ≤ x.no ∧ x.no ≤ last x.by_
 k : ∀ x ∈ l, 0 ≤ x.k ∧ x.k ≤ 19
 gone : ∀ x ∈ l, 0 ≤ x.gone ∧ x.gone ≤ 15
 inn : ∀ x ∈ l, 1 ≤ x.inn ∧ x.inn ≤ i
 out : ∀ x ∈ l, 0 ≤ x.out ∧ x.out ≤ i ∧ (x.out ≠ 0 → x.inn < x.out ∧ x.gone ≠ 0)
 one : l.Pairwise fun x y => ¬ (x.by_ = y.by_ ∧ x.no = y.no ∧ x.k = y.k)
theorem check_parts {d : Dd} (h : checkC d = 0) : (d.kind = 1 ∨ d.kind = 2) ∧ wrB d.by_ = true ∧ 1 ≤ d.no ∧ d.no ≤ 120 ∧ 0 ≤ d.seen ∧ d.seen ≤ 120 ∧ 0 ≤ d.at_ ∧ d.at_ ≤ 200 ∧ 0 ≤ d.many ∧ d.many ≤ 200 ∧ (d.kind = 1 → 1 ≤ d.text.size ∧ d.text.size ≤ 20 ∧ d.many = 0) ∧ (d.kind ≠ 1 → d.text.size = 0) := by
 unfold checkC at h
 by_cases hk : d.kind = 1 ∨ d.kind = 2
 ·rw [if_neg (by omega)] at h
  cases hp : placedB d
  ·rw [if_pos hp] at h; cases h
  ·rw [if_neg (by simp [hp])] at h
   simp [placedB, withinB] at hp
   obtain ⟨h1, ⟨h2, h3⟩, ⟨h4, h5⟩, h6, h7⟩ := hp
   by_cases h1k : d.kind = 1
   ·rw [if_pos h1k, putC] at h
    by_cases hm : d.many = 0
    ·rw [if_neg (by simp [hm])] at h
     cases ht : printedB d.text
     ·rw [ht] at h; cases h
     ·simp [printedB] at ht
      exact ⟨hk, h1, h2, h3, h4, h5, h6, h7, by omega, by omega, fun _ => ⟨ht.1.1, ht.1.2, hm⟩, fun hh => absurd h1k hh⟩
    ·rw [if_pos hm] at h; cases h
   ·rw [if_neg h1k, takeC] at h
    by_cases ht : d.text.size = 0
    ·rw [if_neg (by simp [ht])] at h
     cases hm : withinB d.many 1 200
     ·rw [hm] at h; cases h
     ·simp [withinB] at hm
      exact ⟨hk, h1, h2, h3, h4, h5, h6, h7, by omega, by omega, fun hh => absurd hh h1k, fun _ => ht⟩
    ·rw [if_pos ht] at h; cases h
 ·rw [if_pos (by omega)] at h; cases h
theorem pair_new (d : Dd) (number : Int) : ∀ (k : Nat) (l : List UInt8), (newFrom d number k l).Pairwise fun x y => ¬ (x.by_ = y.by_ ∧ x.no = y.no ∧ x.k = y.k)
 | _, [] => List.Pairwise.nil
 | k, b :: r => by
  rw [newFrom, List.pairwise_cons]
  refine ⟨fun y hy => ?_, pair_new d number (k + 1) r⟩
  obtain ⟨j, c, rfl, h1, _, _⟩ := newFrom_mem hy
  rintro ⟨_, _, h⟩
  have h' : (k : Int) = j := h
  omega
theorem made_put {last : Int → Int} {i : Nat} {l : List Ch} {d : Dd} (hm : Made last i l) (h : checkC d = 0) (hk : d.kind = 1) (hno : d.no = last d.by_ + 1) : Made (fun w => if w = d.by_ then d.no else last w) (i + 1) (doL l d (i + 1)) := by
 obtain ⟨_, hw, hn1, _, _, _, _, _, _, _, hp, _⟩ := check_parts h
 obtain ⟨t1, t2, _⟩ := hp hk
 have hmem : ∀ x ∈ doL l d (i + 1), x ∈ l ∨ x ∈ newL d (i + 1) := by
  intro x hx
  rw [doL, if_pos hk, List.mem_append, List.mem_append] at hx
  rcases hx with hx | hx | hx
  ·exact .inl (List.mem_of_mem_take hx)
  ·exact .inr hx
  ·exact .inl (List.mem_of_mem_drop hx)
 have hnew : ∀ x ∈ newL d (i + 1), ∃ j : Nat, ∃ b, x = newCh d (i + 1) j b ∧ j < d.text.size := by
  intro x hx
  obtain ⟨j, b, rfl, _, h2, _⟩ := newFrom_mem hx
  exact ⟨j, b, rfl, by rw [← size_list]; omega⟩
 have hlast : ∀ x ∈ l, x.no ≤ (fun w => if w = d.by_ then d.no else last w) x.by_ := by
  intro x hx
  have := (hm.no x hx).2
  show x.no ≤ if x.by_ = d.by_ then d.no else last x.by_
  split
  ·rename_i e; rw [e] at this; omega
  ·exact this
 refine ⟨fun x hx => ?_, fun x hx => ?_, fun x hx => ?_, fun x hx => ?_, fun x hx => ?_, fun x hx => ?_, ?_⟩
 ·rcases hmem x hx with hx | hx
  ·exact hm.wr x hx
  ·obtain ⟨j, b, rfl, _⟩ := hnew x hx; exact hw
 ·rcases hmem x hx with hx | hx
  ·exact ⟨(hm.no x hx).1, hlast x hx⟩
  ·obtain ⟨j, b, rfl, _⟩ := hnew x hx
   refine ⟨hn1, ?_⟩
   show d.no ≤ if d.by_ = d.by_ then d.no else last d.by_
   rw [if_pos rfl]
   exact Int.le_refl _
 ·rcases hmem x hx with hx | hx
  ·exact hm.k x hx
  ·obtain ⟨j, b, rfl, hj⟩ := hnew x hx
   show 0 ≤ (j : Int) ∧ (j : Int) ≤ 19
   omega
 ·rcases hmem x hx with hx | hx
  ·exact hm.gone x hx
  ·obtain ⟨j, b, rfl, hj⟩ := hnew x hx
   show (0 : Int) ≤ 0 ∧ (0 : Int) ≤ 15
   decide
 ·rcases hmem x hx with hx | hx
  ·have := hm.inn x hx
   omega
  ·obtain ⟨j, b, rfl, hj⟩ := hnew x hx
   show (1 : Int) ≤ (i : Int) + 1 ∧ (i : Int) + 1 ≤ ((i + 1 : Nat) : Int)
   omega
 ·rcases hmem x hx with hx | hx
  ·have := hm.out x hx
   exact ⟨this.1, by omega, this.2.2⟩
  ·obtain ⟨j, b, rfl, hj⟩ := hnew x hx
   exact ⟨Int.le_refl 0, by show (0 : Int) ≤ ((i + 1 : Nat) : Int); omega, fun e => absurd rfl e⟩
 ·rw [doL, if_pos hk, List.pairwise_append, List.pairwise_append]
  have hpart := hm.one
  rw [← List.take_append_drop (placeL l d) l, List.pairwise_append] at hpart
  have hdiff : ∀ x ∈ l, ∀ y ∈ newL d (i + 1), ¬ (x.by_ = y.by_ ∧ x.no = y.no ∧ x.k = y.k) := by
   rintro x hx y hy ⟨h1, h2, _⟩
   obtain ⟨j, b, rfl, _⟩ := hnew y hy
   have := (hm.no x hx).2
   have h1' : x.by_ = d.by_ := h1
   have h2' : x.no = d.no := h2
   rw [h1'] at this
   omega
  refine ⟨hpart.1, ⟨pair_new d (i + 1) 0 _, hpart.2.1, fun y hy x hx e => hdiff x (List.mem_of_mem_drop hx) y hy ⟨e.1.symm, e.2.1.symm, e.2.2.symm⟩⟩, fun x hx y hy => ?_⟩
  rcases List.mem_append.1 hy with hy | hy
  ·exact hdiff x (List.mem_of_mem_take hx) y hy
  ·exact hpart.2.2 x hx y hy
theorem gone_add {g w : Int} (hw : wrB w = true) (h : tookB g w = false) (h0 : 0 ≤ g) (h1 : g ≤ 15) : 0 ≤ g + 2 ^ w.toNat ∧ g + 2 ^ w.toNat ≤ 15 ∧ g + 2 ^ w.toNat ≠ 0 := by
 have hw' : 0 ≤ w ∧ w ≤ 3 := by simpa [wrB] using hw
 rw [tookB, hw, Bool.true_and, bitB] at h
 have h' : ¬ g / 2 ^ w.toNat % 2 = 1 := by simpa using h
 rcases (show w = 0 ∨ w = 1 ∨ w = 2 ∨ w = 3 by omega) with rfl | rfl | rfl | rfl <;> (simp at h' ⊢; omega)
theorem takeL_mem {d : Dd} {number : Int} {y : Ch} : ∀ {l : List Ch} {k : Int}, y ∈ takeL d number k l → ∃ x ∈ l, y = x ∨ (seesC d.seen d.by_ x = true ∧ y = mark d.by_ number x)
 | [], k, h => by simp [takeL] at h
 | x :: r, k, h => by
  rw [takeL_cons, List.mem_cons] at h
  rcases h with rfl | h
  ·refine ⟨x, by simp, ?_⟩
   unfold tk
   split
   ·rename_i hc; exact .inr ⟨hc.1, rfl⟩
   ·exact .inl rfl
  ·obtain ⟨z, hz, hy⟩ := takeL_mem h
   exact ⟨z, by simp [hz], hy⟩
theorem takeL_pair {d : Dd} {number : Int} : ∀ {l : List Ch} {k : Int}, l.Pairwise (fun x y => ¬ (x.by_ = y.by_ ∧ x.no = y.no ∧ x.k = y.k)) → (takeL d number k l).Pairwise fun x y => ¬ (x.by_ = y.by_ ∧ x.no = y.no ∧ x.k = y.k)
 | [], k, _ => List.Pairwise.nil
 | x :: r, k, h => by
  rw [List.pairwise_cons] at h
  rw [takeL_cons, List.pairwise_cons]
  have hx : (tk d number k x).by_ = x.by_ ∧ (tk d number k x).no = x.no ∧ (tk d number k x).k = x.k := by
   unfold tk
   split <;> exact ⟨rfl, rfl, rfl⟩
  refine ⟨fun y hy => ?_, takeL_pair h.2⟩
  obtain ⟨z, hz, hyz⟩ := takeL_mem hy
  rw [hx.1, hx.2.1, hx.2.2]
  rcases hyz with rfl | ⟨_, rfl⟩
  ·exact h.1 _ hz
  ·exact h.1 z hz
theorem made_take {last : Int → Int} {i : Nat} {l : List Ch} {d : Dd} (hm : Made last i l) (h : checkC d = 0) (hk : d.kind ≠ 1) (hno : d.no = last d.by_ + 1) (hi : i < 1000) : Made (fun w => if w = d.by_ then d.no else last w) (i + 1) (doL l d (i + 1)) := by
 obtain ⟨_, hw, hn1, _, _, _, _, _, _, _, _, _⟩ := check_parts h
 rw [doL, if_neg hk]
 have hlast : ∀ x ∈ l, x.no ≤ (fun w => if w = d.by_ then d.no else last w) x.by_ := by
  intro x hx
  have := (hm.no x hx).2
  show x.no ≤ if x.by_ = d.by_ then d.no else last x.by_
  split
  ·rename_i e; rw [e] at this; omega
  ·exact this
 refine ⟨fun y hy => ?_, fun y hy => ?_, fun y hy => ?_, fun y hy => ?_, fun y hy => ?_, fun y hy => ?_, takeL_pair hm.one⟩
 all_goals obtain ⟨x, hx, hyx⟩ := takeL_mem hy
 ·rcases hyx with rfl | ⟨_, rfl⟩
  ·exact hm.wr _ hx
  ·exact hm.wr x hx
 ·rcases hyx with rfl | ⟨_, rfl⟩
  ·exact ⟨(hm.no _ hx).1, hlast _ hx⟩
  ·exact ⟨(hm.no x hx).1, hlast x hx⟩
 ·rcases hyx with rfl | ⟨_, rfl⟩
  ·exact hm.k _ hx
  ·exact hm.k x hx
 ·rcases hyx with rfl | ⟨hs, rfl⟩
  ·exact hm.gone _ hx
  ·have hg := hm.gone x hx
   have := gone_add hw (sees_took hs) hg.1 hg.2
   exact ⟨this.1, this.2.1⟩
 ·rcases hyx with rfl | ⟨_, rfl⟩
  ·have := hm.inn _ hx; omega
  ·have := hm.inn x hx
   show 1 ≤ x.inn ∧ x.inn ≤ ((i + 1 : Nat) : Int)
   omega
 ·rcases hyx with rfl | ⟨hs, rfl⟩
  ·have := hm.out _ hx
   exact ⟨this.1, by omega, this.2.2⟩
  ·have ho := hm.out x hx
   have hin := hm.inn x hx
   have hg := hm.gone x hx
   have hga := gone_add hw (sees_took hs) hg.1 hg.2
   show 0 ≤ markOut ((i : Int) + 1) x.out ∧ markOut ((i : Int) + 1) x.out ≤ ((i + 1 : Nat) : Int) ∧ (markOut ((i : Int) + 1) x.out ≠ 0 → x.inn < markOut ((i : Int) + 1) x.out ∧ x.gone + 2 ^ d.by_.toNat ≠ 0)
   unfold markOut
   split
   ·refine ⟨by omega, by omega, fun _ => ⟨by omega, hga.2.2⟩⟩
   ·refine ⟨ho.1, by omega, fun hne => ⟨(ho.2.2 hne).1, hga.2.2⟩⟩
def Plain (n : Int) (l : List Ch) : Prop := ∀ x ∈ l, x.inn ≤ n ∧ x.out = 0 ∧ x.gone = 0
theorem made_check {last : Int → Int} {i : Nat} {l : List Ch} (hm : Made last i l) (hl : l.length ≤ 200) {r : Int} (h : CheckIs l i r) : r = 0 := by
 have hz : ∀ j, j < l.length → faultAt l i j = 0 := by
  intro j hj
  unfold faultAt
  rw [List.getElem?_eq_getElem hj]
  have hx : l[j] ∈ l := List.getElem_mem hj
  have h1 : oneFault l[j] i = 0 := by
   unfold oneFault
   have a1 := hm.wr _ hx
   have a2 := hm.no _ hx
   have a3 := hm.k _ hx
   have a4 := hm.gone _ hx
   have a5 := hm.inn _ hx
   have a6 := hm.out _ hx
   have n1 : namedB l[j] = true := by
    simp only [namedB, a1, withinB, Bool.true_and, Bool.and_eq_true, decide_eq_true_eq]
    omega
   have n2 : numberedB l[j] i = true := by
    simp only [numberedB, withinB, Bool.and_eq_true, Bool.or_eq_true, decide_eq_true_eq]
    exact ⟨.inr a5, a6.1, a6.2.1⟩
   have n3 : formB l[j] = false := by
    unfold formB
    by_cases ho : l[j].out = 0
    ·simp [ho]
    ·have := a6.2.2 ho
     have e1 : decide (l[j].out ≤ l[j].inn) = false := decide_eq_false (by omega)
     have e2 : (l[j].gone == 0) = false := beq_eq_false_iff_ne.2 this.2
     rw [e1, e2]
     simp
   rw [n1, n2, n3]
   rfl
  have h2 : seenBefore l j = false := by
   unfold seenBefore
   rw [List.getElem?_eq_getElem hj]
   show ((l.take j).any fun y => sameB y l[j]) = false
   rw [List.any_eq_false]
   intro y hy
   obtain ⟨k, hk, rfl⟩ := List.getElem_of_mem hy
   have hk' : k < j := by simpa using (show k < (l.take j).length from hk) |> fun h => by rw [List.length_take] at h; omega
   have := List.pairwise_iff_getElem.1 hm.one k j (by omega) hj hk'
   rw [List.getElem_take]
   simpa [sameB] using this
  simp [h1, h2]
 rcases h with ⟨h, _⟩ | ⟨_, ⟨k, hk, _, hy, hr⟩ | ⟨_, rfl⟩⟩
 ·omega
 ·rw [hz k hk] at hy; exact absurd hy.symm hr
 ·rfl
end Go.Proofs.YtnabhdfodckpdacGreat
