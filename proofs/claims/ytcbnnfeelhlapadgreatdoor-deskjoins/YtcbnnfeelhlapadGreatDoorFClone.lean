/-
  The walk of the law CharsBehind, for lists that lie in memory and for those without elements.
-/
import Derived.Test.YtcbnnfeelhlapadGreatDoorBegun
import Derived.Test.YtcbnnfeelhlapadGreatDoorFLists
import Derived.Lib.SliceRun
import Derived.Laws.AppendOwnNone
namespace Go.Proofs.YtcbnnfeelhlapadGreatDoor
set_option maxRecDepth 20000
open Go.RowKit
set_option maxHeartbeats 400000 in
theorem count_empty (a : Option Addr) (cap : Nat) (seen by_ : Int) (w : World) :
 Calls Tryz.prog 231 #[.slice a 0 cap, .int .i64 seen, .int .i64 by_] w fun e w' => e = .returned (.int .i64 0) ∧ Below w.heap.size w w' := by
 go_enter Tryz.func231, Tryz.ntmps231
 go_wp2
 refine wp_loop_rounds 1 ?_
 rw [rounds_succ]
 go_wp2
 go_ret
 exact ⟨rfl, Below.refl _ _⟩
set_option maxHeartbeats 400000 in
theorem indexFunc_empty (a : Option Addr) (cap : Nat) (f : Value) (w : World) :
 Calls Tryz.prog 189 #[.slice a 0 cap, f] w fun e w' => e = .returned (.int .i64 (-1)) ∧ Below w.heap.size w w' := by
 go_enter Tryz.func189, Tryz.ntmps189
 go_wp2
 refine wp_loop_rounds 1 ?_
 rw [rounds_succ]
 go_wp2
 go_ret
 exact ⟨rfl, Below.refl _ _⟩
def emptyBehind (n : Int) : Int := if n = 0 then 0 else -1
theorem below4 (w : World) (o1 o2 o3 o4 : Obj) : Below w.heap.size w ((((w.alloc o1).alloc o2).alloc o3).alloc o4) :=
 ((((Below.refl _ _).alloc (Nat.le_refl _) _).alloc (by simp) _).alloc (by simp; omega) _).alloc (by simp; omega) _
set_option maxHeartbeats 400000 in
theorem behind_empty (a : Option Addr) (cap : Nat) (seen by_ n : Int) (w : World) :
 Calls Tryz.prog 232 #[.slice a 0 cap, .int .i64 seen, .int .i64 by_, .int .i64 n] w fun e w' => e = .returned (.int .i64 (emptyBehind n)) ∧ Below w.heap.size w w' := by
 by_cases h0 : n = 0
 ·have h0' : (n == 0) = true := by simp [h0]
  have H0 : Hid (n = 0) := h0
  clear h0
  go_enter Tryz.func232, Tryz.ntmps232
  go_wp2
  go_ret
  exact ⟨ret_int (by simp [emptyBehind, H0.out]), (((Below.refl _ _).alloc (Nat.le_refl _) _).alloc (by simp) _).alloc (by simp; omega) _⟩
 ·have h0' : (n == 0) = false := by simp [h0]
  have H0 : Hid (n ≠ 0) := h0
  clear h0
  have hmf : ∀ (fn : Fn) (first cap : Array Value) (w : World), (Instr.makeFunc fn first cap).run Tryz.prog w = .ok (.func fn first cap) w := fun _ _ _ _ => rfl
  go_enter Tryz.func232, Tryz.ntmps232
  go_wp2_with fail
  refine (indexFunc_empty _ _ _ _).mono ?_
  rintro e w1 ⟨rfl, hb⟩
  have HB : Hid (Below w.heap.size w w1) := bla (below4 w _ _ _ _) hb
  clear hb
  go_wp2
  go_ret
  exact ⟨ret_int (by simp [emptyBehind, H0.out]), HB.out⟩
theorem cnt_take_le (l : List Ch) (seen by_ : Int) (k : Nat) : cnt (l.take k) seen by_ ≤ cnt l seen by_ := by
 have h : cnt (l.take k ++ l.drop k) seen by_ = cnt (l.take k) seen by_ + cnt (l.drop k) seen by_ := by
  unfold cnt
  rw [List.filter_append, List.length_append]
  omega
 rw [List.take_append_drop] at h
 have := (cnt_bd (l.drop k) seen by_).1
 omega
theorem hit_iff (l : List Ch) (seen by_ nn : Int) (k : Nat) (hk : k < l.length) : hitAt l seen by_ nn k = true ↔ seesC seen by_ l[k] = true ∧ cnt (l.take (k + 1)) seen by_ = nn := by
 unfold hitAt
 rw [List.getElem?_eq_getElem hk, take_snoc l k hk, cnt_snoc]
 simp only [stepH]
 by_cases h : seesC seen by_ l[k] = true
 ·simp [h]
 ·simp [h]
theorem hit_ex (l : List Ch) (seen by_ nn : Int) (h1 : 0 < nn) : ∀ m, m ≤ l.length → nn ≤ cnt (l.take m) seen by_ → ∃ k, k < m ∧ hitAt l seen by_ nn k = true := by
 intro m
 induction m with
 | zero => intro _ h; simp [cnt] at h; omega
 | succ m ih =>
  intro hm h
  by_cases hle : nn ≤ cnt (l.take m) seen by_
  ·obtain ⟨k, hk, hh⟩ := ih (by omega) hle
   exact ⟨k, by omega, hh⟩
  ·refine ⟨m, by omega, (hit_iff l seen by_ nn m (by omega)).2 ?_⟩
   have hs := cnt_snoc (l.take m) l[m] seen by_
   rw [← take_snoc l m (by omega)] at hs
   by_cases hx : seesC seen by_ l[m] = true
   ·rw [if_pos hx] at hs
    exact ⟨hx, by omega⟩
   ·rw [if_neg hx] at hs
    omega
theorem behind_zero {l : List Ch} {seen by_ r : Int} (h : BehindIs l seen by_ 0 r) : r = 0 := by
 rcases h with ⟨_, hr⟩ | ⟨h, _⟩
 ·exact hr
 ·exact absurd rfl h
theorem behind_pos {l : List Ch} {seen by_ n r : Int} (h : BehindIs l seen by_ n r) (h0 : 0 < n) (hn : n ≤ cnt l seen by_) :
 ∃ m : Nat, ∃ hm : m < l.length, r = m + 1 ∧ cnt (l.take (m + 1)) seen by_ = n ∧ seesC seen by_ l[m] = true := by
 rcases h with ⟨rfl, _⟩ | ⟨_, ⟨k, hk, _, hyes, hr⟩ | ⟨hno, _⟩⟩
 ·omega
 ·have h1 := (hit_iff l seen by_ n k hk).1 hyes
  exact ⟨k, hk, hr, h1.2, h1.1⟩
 ·obtain ⟨k, hk, hh⟩ := hit_ex l seen by_ n h0 l.length (Nat.le_refl _) (by rw [List.take_length]; exact hn)
  rw [hno k hk] at hh
  cases hh
end Go.Proofs.YtcbnnfeelhlapadGreatDoor

/-
  A list of bytes as a value, empty or not: the contracts of Count, View, Behind and Check over it; the text of what one sees.
-/
namespace Go.Proofs.YtcbnnfeelhlapadGreatDoor
set_option maxRecDepth 20000
open Go.RowKit
def Lst (w : World) (v : Value) (l : List Ch) : Prop :=
 ∃ (a : Option Addr) (len cap : Nat), v = .slice a len cap ∧ l.length = len ∧ len ≤ cap ∧ (len = 0 ∨ ∃ b off, a = some ⟨b, off, none⟩ ∧ Row w b off l)
theorem Lst.below {w w' : World} {v : Value} {l : List Ch} (h : Lst w v l) (hb : Below w.heap.size w w') : Lst w' v l := by
 obtain ⟨a, len, cap, rfl, h1, h2, h3⟩ := h
 refine ⟨a, len, cap, rfl, h1, h2, ?_⟩
 rcases h3 with h3 | ⟨b, off, rfl, hr⟩
 ·exact .inl h3
 ·exact .inr ⟨b, off, rfl, hr.below hb⟩
theorem lst_nil (w : World) : Lst w (.slice none 0 0) [] := ⟨none, 0, 0, rfl, rfl, Nat.le_refl _, .inl rfl⟩
set_option maxHeartbeats 400000 in
theorem view_empty (a : Option Addr) (cap : Nat) (seen by_ : Int) (w : World) :
 Calls Tryz.prog 139 #[.slice a 0 cap, .int .i64 seen, .int .i64 by_] w fun e w' => e = .returned (.slice none 0 0) ∧ Below w.heap.size w w' := by
 go_enter Tryz.func139, Tryz.ntmps139
 go_wp2
 refine wp_loop_rounds 1 ?_
 rw [rounds_succ]
 go_wp2
 go_ret
 exact ⟨rfl, Below.refl _ _⟩
set_option maxHeartbeats 400000 in
theorem check_empty (a : Option Addr) (cap : Nat) (log : Int) (w : World) :
 Calls Tryz.prog 157 #[.slice a 0 cap, .int .i64 log] w fun e w' => e = .returned (.int .i64 0) ∧ Below w.heap.size w w' := by
 go_enter Tryz.func157, Tryz.ntmps157
 go_wp2
 refine wp_loop_rounds 1 ?_
 rw [rounds_succ]
 go_wp2
 go_ret
 exact ⟨rfl, Below.refl _ _⟩
theorem count_lst {w : World} {v : Value} {l : List Ch} (h : Lst w v l) (hl : l.length ≤ 1000) (seen by_ : Int) :
 Calls Tryz.prog 231 #[v, .int .i64 seen, .int .i64 by_] w fun e w' => e = .returned (.int .i64 (cnt l seen by_)) ∧ Below w.heap.size w w' := by
 obtain ⟨a, len, cap, rfl, h1, h2, h3⟩ := h
 rcases h3 with rfl | ⟨b, off, rfl, hr⟩
 ·obtain rfl : l = [] := List.length_eq_zero_iff.1 h1
  exact count_empty a cap seen by_ w
 ·exact count_some b off len cap l seen by_ w h1 (by omega) hr
theorem check_lst {w : World} {v : Value} {l : List Ch} (h : Lst w v l) (hl : l.length ≤ 1000) (log : Int) :
 Calls Tryz.prog 157 #[v, .int .i64 log] w fun e w' => ∃ r, e = .returned (.int .i64 r) ∧ CheckIs l log r ∧ Below w.heap.size w w' := by
 obtain ⟨a, len, cap, rfl, h1, h2, h3⟩ := h
 rcases h3 with rfl | ⟨b, off, rfl, hr⟩
 ·obtain rfl : l = [] := List.length_eq_zero_iff.1 h1
  refine (check_empty a cap log w).mono ?_
  rintro e w' ⟨rfl, hb⟩
  exact ⟨0, rfl, .inr ⟨by decide, .inr ⟨fun j hj => absurd hj (Nat.not_lt_zero _), rfl⟩⟩, hb⟩
 ·exact check_some b off len cap l log w h1 h2 (by omega) hr
theorem strOfNums_size (a : List Int) : (strOfNums a).size = a.length := by
 show (strOfNums a).data.size = a.length
 rw [← Array.length_toList, strOfNums_data, List.length_map]
end Go.Proofs.YtcbnnfeelhlapadGreatDoor

/-
  Lists of bytes in memory, as rows of cells: those that a call owns; deeds in memory. No walk.
-/
namespace Go.Proofs.YtcbnnfeelhlapadGreatDoor
open Go.RowKit
def chCells (x : Ch) : List Value := [.int .u8 x.c, .int .i64 x.by_, .int .i64 x.no, .int .i64 x.k, .int .i64 x.inn, .int .i64 x.out, .int .i64 x.gone]
def cells7 : List Ch → List Value
 | [] => []
 | x :: r => chCells x ++ cells7 r
theorem cells7_len : ∀ l : List Ch, (cells7 l).length = l.length * 7
 | [] => rfl
 | x :: r => by
  rw [cells7, List.length_append, cells7_len r, List.length_cons]
  show 7 + _ = _
  omega
theorem cells7_app : ∀ a b : List Ch, cells7 (a ++ b) = cells7 a ++ cells7 b
 | [], b => rfl
 | x :: r, b => by rw [List.cons_append, cells7, cells7_app r b, cells7, List.append_assoc]
theorem cells7_one : ∀ (l : List Ch) (u : Value), u ∈ cells7 l → u.oneCell' = true
 | [], u, h => by simp [cells7] at h
 | x :: r, u, h => by
  rw [cells7, List.mem_append] at h
  rcases h with h | h
  ·simp [chCells] at h
   rcases h with rfl | rfl | rfl | rfl | rfl | rfl | rfl <;> rfl
  ·exact cells7_one r u h
theorem cells7_get : ∀ (l : List Ch) (i r : Nat) (hi : i < l.length), r < 7 → (cells7 l)[i * 7 + r]? = (chCells l[i])[r]?
 | [], i, r, hi, _ => absurd hi (Nat.not_lt_zero _)
 | x :: l, 0, r, _, hr => by
  rw [cells7, Nat.zero_mul, Nat.zero_add, List.getElem?_append_left (by exact hr)]
  rfl
 | x :: l, i + 1, r, hi, hr => by
  rw [cells7, List.getElem?_append_right (by show 7 ≤ _; omega)]
  show (cells7 l)[(i + 1) * 7 + r - 7]? = _
  rw [show (i + 1) * 7 + r - 7 = i * 7 + r by omega, cells7_get l i r (by simpa using hi) hr]
  rfl
theorem addr_add (b off j : Nat) : (⟨b, off, none⟩ : Addr).add j = ⟨b, off + j, none⟩ := by
 unfold Addr.add
 split <;> simp_all
theorem src_cells {w : World} {b : Nat} : ∀ (l : List Ch) (off : Nat), (∀ i (h : i < l.length), At w b (off + i * 7) l[i]) → ∀ j u, (cells7 l)[j]? = some u → w.cell? ((⟨b, off, none⟩ : Addr).add j) = some u
 | [], off, _, j, u, hu => by simp [cells7] at hu
 | x :: l, off, h, j, u, hu => by
  rw [addr_add]
  rw [cells7] at hu
  by_cases hj : j < 7
  ·rw [List.getElem?_append_left (by exact hj)] at hu
   obtain ⟨h0, h1, h2, h3, h4, h5, h6⟩ := h 0 (by simp)
   simp only [Nat.zero_mul, Nat.add_zero, List.getElem_cons_zero] at h0 h1 h2 h3 h4 h5 h6
   rcases (show j = 0 ∨ j = 1 ∨ j = 2 ∨ j = 3 ∨ j = 4 ∨ j = 5 ∨ j = 6 by omega) with rfl | rfl | rfl | rfl | rfl | rfl | rfl <;> simp [chCells] at hu <;> subst hu <;> assumption
  ·rw [List.getElem?_append_right (by show 7 ≤ j; omega)] at hu
   have hu' : (cells7 l)[j - 7]? = some u := hu
   have := src_cells l (off + 7) (fun i hi => by
    have := h (i + 1) (by simpa using hi)
    rw [show off + (i + 1) * 7 = off + 7 + i * 7 by omega] at this
    exact this) (j - 7) u hu'
   rw [addr_add, show off + 7 + (j - 7) = off + j by omega] at this
   exact this
def Own (w : World) (base : Nat) (v : Value) (l : List Ch) : Prop := w.ownsRow base 127 7 v l.length (cells7 l)
theorem own_nil (w : World) (base : Nat) : Own w base (.slice none 0 0) [] := World.ownsRow_nil _ _ _ _
theorem own_row {w : World} {base g n cap : Nat} {l : List Ch} (hg : g < w.heap.size) (hn : l.length = n) (h : w.ownsRow base 127 7 (.slice (some ⟨g, 0, none⟩) n cap) n (cells7 l)) : Row w g 0 l := by
 refine ⟨hg, fun i hi => ?_⟩
 have key : ∀ r, r < 7 → w.cell? ⟨g, 0 + i * 7 + r, none⟩ = (chCells l[i])[r]? := fun r hr => by
  rw [Nat.zero_add, h.cellAt (i * 7 + r) (by omega), cells7_get l i r hi hr]
 have k0 := key 0 (by omega)
 have k1 := key 1 (by omega)
 have k2 := key 2 (by omega)
 have k3 := key 3 (by omega)
 have k4 := key 4 (by omega)
 have k5 := key 5 (by omega)
 have k6 := key 6 (by omega)
 exact ⟨k0, k1, k2, k3, k4, k5, k6⟩
theorem Own.lst {w : World} {base : Nat} {v : Value} {l : List Ch} (h : Own w base v l) : Lst w v l := by
 have h' := h
 obtain ⟨_, h2⟩ := h
 rcases h2 with ⟨rfl, hn⟩ | ⟨g, cap, cur, rfl, hb, hg, hnc, _⟩
 ·obtain rfl : l = [] := List.length_eq_zero_iff.1 hn
  exact lst_nil w
 ·exact ⟨_, _, _, rfl, rfl, hnc, .inr ⟨g, 0, rfl, own_row (Array.getElem?_eq_some_iff.1 hg).1 rfl h'⟩⟩
theorem Own.below {w w' : World} {base : Nat} {v : Value} {l : List Ch} (h : Own w base v l) (hb : Below w.heap.size w w') : Own w' base v l := owns_below h hb
theorem Own.mono {w : World} {base base' : Nat} {v : Value} {l : List Ch} (h : Own w base v l) (hb : base' ≤ base) : Own w base' v l := by
 obtain ⟨h1, h2⟩ := h
 refine ⟨h1, ?_⟩
 rcases h2 with h2 | ⟨g, cap, cur, e, hg, r⟩
 ·exact .inl h2
 ·exact .inr ⟨g, cap, cur, e, Nat.le_trans hb hg, r⟩
structure DdAt (w : World) (B o : Nat) (d : Dd) : Prop where
 lt : B < w.heap.size
 c0 : w.cell? ⟨B, o, none⟩ = some (.int .i64 d.kind)
 c1 : w.cell? ⟨B, o + 1, none⟩ = some (.int .i64 d.by_)
 c2 : w.cell? ⟨B, o + 2, none⟩ = some (.int .i64 d.no)
 c3 : w.cell? ⟨B, o + 3, none⟩ = some (.int .i64 d.seen)
 c4 : w.cell? ⟨B, o + 4, none⟩ = some (.int .i64 d.at_)
 c5 : w.cell? ⟨B, o + 5, none⟩ = some (.int .i64 d.many)
 c6 : w.cell? ⟨B, o + 6, none⟩ = some (.string d.text)
abbrev dObj (d : Dd) : Obj := .cells #[.int .i64 d.kind, .int .i64 d.by_, .int .i64 d.no, .int .i64 d.seen, .int .i64 d.at_, .int .i64 d.many, .string d.text] 124
theorem ddat_start (w : World) (d : Dd) : DdAt (w.alloc (dObj d)) w.heap.size 0 d := by
 refine ⟨by simp, ?_, ?_, ?_, ?_, ?_, ?_, ?_⟩ <;> simp [go_sem]
theorem DdAt.below {w w' : World} {B o : Nat} {d : Dd} (h : DdAt w B o d) (hb : Below w.heap.size w w') : DdAt w' B o d := by
 obtain ⟨hc, _⟩ := bcell hb
 refine ⟨by have := hb.size; have := h.lt; omega, ?_, ?_, ?_, ?_, ?_, ?_, ?_⟩ <;> rw [hc _ _ h.lt]
 ·exact h.c0
 ·exact h.c1
 ·exact h.c2
 ·exact h.c3
 ·exact h.c4
 ·exact h.c5
 ·exact h.c6
theorem Lst.len {w : World} {v : Value} {l : List Ch} (h : Lst w v l) : ∃ a cap, v = .slice a l.length cap ∧ l.length ≤ cap := by
 obtain ⟨a, len, cap, rfl, rfl, h2, _⟩ := h
 exact ⟨a, cap, rfl, h2⟩
theorem Row.drop' {w : World} {b off : Nat} {l : List Ch} (h : Row w b off l) (k : Nat) : Row w b (off + k * 7) (l.drop k) :=
 ⟨h.lt, fun i hi => by
  have hi' : k + i < l.length := by rw [List.length_drop] at hi; omega
  rw [List.getElem_drop]
  have := h.at_ (k + i) hi'
  rw [show off + (k + i) * 7 = off + k * 7 + i * 7 by rw [Nat.add_mul]; omega] at this
  exact this⟩
def FitsL (l : List Ch) : Prop := ∀ x ∈ l, -9223372036854775808 ≤ x.gone ∧ x.gone ≤ 9223372036854775807
end Go.Proofs.YtcbnnfeelhlapadGreatDoor

/-
  The contracts of slices.Clone, slices.Grow and slices.Concat at lists of bytes.
-/
namespace Go.Proofs.YtcbnnfeelhlapadGreatDoor
set_option maxRecDepth 20000
open Go.RowKit
abbrev zeroCh : Value := .agg #[.int .u8 0, .int .i64 0, .int .i64 0, .int .i64 0, .int .i64 0, .int .i64 0, .int .i64 0]
theorem Tryz.infoChar : (Tryz.prog.info? 127).map (fun i => (i.zero, i.size, i.bytes)) = some (some zeroCh, 7, 56) := by kernel_rfl
theorem Lst.src {w : World} {v : Value} {l : List Ch} (h : Lst w v l) :
 (∃ cap, v = .slice none 0 cap ∧ l = []) ∨ ∃ ad cap, v = .slice (some ad) l.length cap ∧ l.length ≤ cap ∧ (∀ j u, (cells7 l)[j]? = some u → w.cell? (ad.add j) = some u) := by
 obtain ⟨a, len, cap, rfl, rfl, h2, h3⟩ := h
 cases a with
 | none =>
  rcases h3 with h3 | ⟨b, off, h3, _⟩
  ·exact .inl ⟨cap, by rw [h3], List.length_eq_zero_iff.1 h3⟩
  ·cases h3
 | some ad =>
  refine .inr ⟨ad, cap, rfl, h2, ?_⟩
  rcases h3 with h3 | ⟨b, off, h3, hr⟩
  ·obtain rfl : l = [] := List.length_eq_zero_iff.1 h3
   intro j u hu
   simp [cells7] at hu
  ·cases h3
   exact src_cells l off hr.at_
set_option maxHeartbeats 400000 in
theorem clone_lst {w : World} {v : Value} {l : List Ch} (h : Lst w v l) (hl : l.length ≤ 100000) :
 Calls Tryz.prog 160 #[v] w fun e w' => ∃ v', e = .returned v' ∧ Own w' w.heap.size v' l ∧ Below w.heap.size w w' := by
 obtain ⟨i0, hi, hz0, hz1, hz2⟩ := info_parts Tryz.infoChar
 have q22 : ∀ (w : World) (a : Option Addr) (n c n' c' : Nat), (binOp .eql 91 (.slice a n c) (.slice none n' c')).run Tryz.prog w = .ok (.bool a.isNone) w := fun w a n c n' c' => Lib.run_eql_slice_nil w _ _ a n c n' c' Tryz.underlying91
 rcases h.src with ⟨cap, rfl, rfl⟩ | ⟨ad, cap, rfl, hc, hs⟩
 ·go_enter Tryz.func160, Tryz.ntmps160
  go_wp2
  go_ret
  exact ⟨_, rfl, own_nil _ _, Below.refl _ _⟩
 ·have HS : Hid (∀ j u, (cells7 l)[j]? = some u → w.cell? (ad.add j) = some u) := hs
  have HL : Hid _ := cells7_len l
  have HO : Hid _ := cells7_one l
  clear hs h
  generalize hn : l.length = n at *
  go_enter Tryz.func160, Tryz.ntmps160
  go_wp2_with (at_builtin; refine wpList_append_own _ rfl (.tmp 5) (.tmp 6) 91 rfl w.heap.size 127 i0 zeroCh 7 56 Tryz.underlying91 hi hz0 hz1 hz2 rfl (by decide) _ _ _ rfl (World.ownsRow_made w #[] 0 (Nat.le_refl _) (Nat.zero_le _) rfl) ad n cap (cells7 l) rfl ?c0 ?c1 ?c2 ?c3 ?c4 ?c5 ?_)
  case c0 => rw [HL.out]
  case c1 =>
   intro j u hj
   exact Lib.cell?_alloc_some _ (HS.out j u hj)
  case c2 => exact HO.out
  case c3 => unfold maxLen; omega
  case c4 => omega
  case c5 => simp
  ·intro v' w1 hown hgrow _
   have HW : Hid _ := hown
   have HB : Hid (Below w.heap.size w w1) := ((Below.refl _ w).alloc (Nat.le_refl _) _).grown hgrow (by simp) (by intro k hk; simp [Value.ownBlock] at hk; omega)
   clear hown hgrow
   go_wp2
   go_ret
   refine ⟨v', rfl, ?_, HB.out⟩
   have := HW.out
   unfold Own
   rw [hn]
   exact this
set_option maxHeartbeats 400000 in
theorem grow_nil (n : Nat) (hn : n ≤ 100000) (w : World) :
 Calls Tryz.prog 239 #[.slice none 0 0, .int .i64 n] w fun e w' => ∃ v, e = .returned v ∧ Own w' w.heap.size v [] ∧ Below w.heap.size w w' := by
 by_cases h0 : n = 0
 ·subst h0
  go_enter Tryz.func239, Tryz.ntmps239
  go_wp2
  go_ret
  exact ⟨_, rfl, own_nil _ _, Below.refl _ _⟩
 ·have hp : 0 < n := by omega
  have e56 : Tryz.t127.bytes = 56 := rfl
  have hx : ¬ 281474976710656 < Builtin.nextslicecap n 0 * Tryz.t127.bytes := by rw [e56, nextslicecap_zero hp]; omega
  have hx7 : ¬ n * 7 = 0 := by omega
  have hx8 : (n : Int) * (Tryz.t127.bytes : Int) ≤ 281474976710656 := by rw [e56]; omega
  have hx9 : (n : Int) ≤ 9223372036854775807 := by omega
  go_enter Tryz.func239, Tryz.ntmps239
  go_wp2
  go_ret
  have g1 := grownCap_ge w n 0 127
  have g2 := grownCap_le_maxLen w n 0 127 (by unfold maxLen; omega)
  unfold grownCap at g1 g2
  refine ⟨_, rfl, ⟨rfl, .inr ⟨w.heap.size, _, _, rfl, Nat.le_refl _, heap_alloc_new w _, Nat.zero_le _, g2, ?_, by simp [cells7]⟩⟩, ((Below.refl _ _).alloc (Nat.le_refl _) _).drew⟩
  rw [Array.size_append, size_zeroCells, size_zeroCells]
  show n * 7 + _ * 7 = _ * 7
  rw [← Nat.add_mul]
  congr 1
  omega
structure Three (w : World) (b : Nat) (va vb vc : Value) (a bl c : List Ch) : Prop where
 lt : b < w.heap.size
 c0 : w.cell? ⟨b, 0, none⟩ = some va
 c1 : w.cell? ⟨b, 1, none⟩ = some vb
 c2 : w.cell? ⟨b, 2, none⟩ = some vc
 la : Lst w va a
 lb : Lst w vb bl
 lc : Lst w vc c
theorem Three.below {w w' : World} {b : Nat} {va vb vc : Value} {a bl c : List Ch} (h : Three w b va vb vc a bl c) (hb : Below w.heap.size w w') : Three w' b va vb vc a bl c := by
 obtain ⟨hc, _⟩ := bcell hb
 exact ⟨by have := hb.size; have := h.lt; omega, by rw [hc _ _ h.lt]; exact h.c0, by rw [hc _ _ h.lt]; exact h.c1, by rw [hc _ _ h.lt]; exact h.c2, h.la.below hb, h.lb.below hb, h.lc.below hb⟩
theorem run_append_none (w : World) (base : Nat) (t ty e : TypeId) (i : TypeInfo) (size c : Nat) (ht : Tryz.prog.underlying t = some (.slice e)) (hi : Tryz.prog.info? e = some i)
 (v : Value) (n : Nat) (xs : List Value) (hown : w.ownsRow base e size v n xs) :
 (Builtin.append_ #[t, t] ty #[v, .slice none 0 c]).run Tryz.prog w = .ok v w := by
 rcases hown.2 with ⟨rfl, rfl⟩ | ⟨g, cap, cur, rfl, _, _, hnc, _⟩
 ·simp [Builtin.append_, run_underlying ht, sizeOf, typeInfo, hi, Builtin.lenOf, Builtin.firstCells]
 ·simp [Builtin.append_, run_underlying ht, sizeOf, typeInfo, hi, Builtin.lenOf, Builtin.firstCells, hnc, storeCells]
theorem grown_refl (w : World) (row : Option Nat) : w.grownBy w row := ⟨rfl, rfl, rfl, Nat.le_refl _, fun _ _ _ => rfl⟩
theorem append_lst {ops : Array Oper} {rest : List Oper} {o : Oper} {act : Act} {Q : Exit → Act → World → Prop} (w : World) (hgd : o.guard = none) (s x : Operand)
 (ho : o.op = .call { callee := .builtin .append, args := #[s, x], argTypes := #[91, 91] }) (base : Nat) {v u : Value} {a b : List Ch} (hs : act.eval s = v) (hx : act.eval x = u) (hv : Own w base v a) (hu : Lst w u b) (hl : a.length + b.length ≤ 100000) (hbase : base ≤ w.heap.size)
 (h : ∀ v' w', Own w' base v' (a ++ b) → w.grownBy w' v.ownBlock → wpList Tryz.prog ops Q rest (act.put o.dst v') w') : wpList Tryz.prog ops Q (o :: rest) act w := by
 obtain ⟨i0, hi, hz0, hz1, hz2⟩ := info_parts Tryz.infoChar
 rcases hu.src with ⟨cap, rfl, rfl⟩ | ⟨ad, cap, rfl, hc, hsrc⟩
 ·refine wpList_plain hgd fun K hK => ?_
  have hrun := run_append_none w base 91 o.type 127 i0 7 cap Tryz.underlying91 hi v a.length (cells7 a) hv
  have hh := h v w (by rw [List.append_nil]; exact hv) (grown_refl w _)
  unfold Oper.wp
  simp [execOp, ho, resolve, invoke, builtin, hs, hx, hrun, Result.andThen]
  exact hK _ _ hh
 ·refine wpList_append_own w hgd s x 91 ho base 127 i0 zeroCh 7 56 Tryz.underlying91 hi hz0 hz1 hz2 rfl (by decide) v a.length (cells7 a) hs hv ad b.length cap (cells7 b) hx (cells7_len b) hsrc (cells7_one b) (by unfold maxLen; omega) (by omega) hbase ?_
  intro v' w' ho hg _
  refine h v' w' ?_ hg
  unfold Own
  rw [List.length_append, cells7_app]
  exact ho
def sum3 (a b c : List Ch) : Nat → Nat
 | 0 => 0
 | 1 => a.length
 | 2 => a.length + b.length
 | _ => a.length + b.length + c.length
def cat3 (a b c : List Ch) : Nat → List Ch
 | 0 => []
 | 1 => a
 | 2 => a ++ b
 | _ => a ++ b ++ c
theorem Three.nth {w : World} {g : Nat} {va vb vc : Value} {a b c : List Ch} (h : Three w g va vb vc a b c) {k : Nat} (hk : k < 3) :
 ∃ v l, w.cell? ⟨g, k, none⟩ = some v ∧ Lst w v l ∧ sum3 a b c (k + 1) = sum3 a b c k + l.length ∧ cat3 a b c (k + 1) = cat3 a b c k ++ l := by
 rcases (show k = 0 ∨ k = 1 ∨ k = 2 by omega) with rfl | rfl | rfl
 ·exact ⟨va, a, h.c0, h.la, by simp [sum3], by simp [cat3]⟩
 ·exact ⟨vb, b, h.c1, h.lb, rfl, rfl⟩
 ·exact ⟨vc, c, h.c2, h.lc, rfl, rfl⟩
theorem sum3_le (a b c : List Ch) (k : Nat) : sum3 a b c k ≤ a.length + b.length + c.length := by
 unfold sum3
 split <;> omega
theorem cat3_len (a b c : List Ch) (k : Nat) : (cat3 a b c k).length = sum3 a b c k := by
 unfold cat3 sum3
 split <;> simp [Nat.add_assoc]
set_option maxHeartbeats 800000 in
theorem concat_three (g : Nat) (va vb vc : Value) (a b c : List Ch) (w : World) (h : Three w g va vb vc a b c) (hl : a.length + b.length + c.length ≤ 100000) :
 Calls Tryz.prog 233 #[.slice (some ⟨g, 0, none⟩) 3 3] w fun e w' => ∃ v, e = .returned v ∧ Own w' w.heap.size v (a ++ b ++ c) ∧ Below w.heap.size w w' := by
 have HT : Hid _ := h
 have hg := h.lt
 have HS : Hid _ := sum3_le a b c
 have HC : Hid _ := cat3_len a b c
 clear h
 go_enter Tryz.func233, Tryz.ntmps233
 go_wp2
 go_loop [3, 11] (fun n i => ∃ k : Nat, k ≤ 3 ∧ i = .int .i64 k ∧ n = .int .i64 (sum3 a b c k)) (fun _ i => 3 - (intOf i).toNat)
 case atStart => exact ⟨0, by omega, rfl, rfl⟩
 case round =>
  obtain ⟨k, hk, rfl, rfl⟩ := hrel
  by_cases hlt : k < 3
  ·obtain ⟨v, l, hv, hL, hs, _⟩ := HT.out.nth hlt
   have h1 := HS.out k
   have h2 := HS.out (k + 1)
   have HN : Hid _ := hs
   obtain ⟨ad, cap, rfl, _⟩ := hL.len
   generalize sum3 a b c k = n at *
   generalize l.length = m at *
   clear hL
   rw [hs] at h2
   clear hs
   go_wp2
   go_round
   case rel => exact ⟨k + 1, by omega, by go_num, by rw [HN.out]; go_num⟩
   case measure => simp [intOf]; omega
  ·obtain rfl : k = 3 := by omega
   have h3 := HS.out 3
   generalize hn : sum3 a b c 3 = n at *
   go_wp2_with fail
   refine (grow_nil n (by omega) _).mono ?_
   rintro e w1 ⟨v0, rfl, hown, hb⟩
   have HO : Hid _ := hown
   have HB : Hid _ := hb
   clear hown hb
   go_wp2
   go_loopw [6, 27] (fun v i wr => ∃ k : Nat, k ≤ 3 ∧ i = .int .i64 k ∧ Hid (Own wr w.heap.size v (cat3 a b c k)) ∧ Hid (Below w.heap.size w wr)) (fun _ i _ => 3 - (intOf i).toNat)
   case atStart => exact ⟨0, by omega, rfl, HO, HB⟩
   case round =>
    obtain ⟨k, hk, rfl, HOk, HBk⟩ := hrel
    by_cases hlt : k < 3
    ·obtain ⟨u, l, hu, hL, hs, hcat⟩ := (HT.out.below HBk.out).nth hlt
     have h1 := HS.out (k + 1)
     have hck := HC.out k
     have HN : Hid _ := hcat
     have HL : Hid _ := hL
     obtain ⟨ad, cap, rfl, _⟩ := hL.len
     clear hL hcat
     rw [hs] at h1
     go_wp2_with (at_builtin; refine append_lst _ rfl (.tmp 31) (.tmp 32) rfl w.heap.size rfl rfl HOk.out HL.out ?c0 ?c1 ?_)
     case c0 => rw [hck]; omega
     case c1 => exact HBk.out.size
     ·intro v' w2 hown' hgrow
      have HO2 : Hid (Own w2 w.heap.size v' (cat3 a b c (k + 1))) := by show Own _ _ _ _; rw [HN.out]; exact hown'
      have HB2 : Hid (Below w.heap.size w w2) := HBk.out.grown hgrow HBk.out.size (fun j hj => (World.ownsRow.lt HOk.out j hj).1)
      clear hown' hgrow
      go_wp2
      go_roundw
      case rel => exact ⟨k + 1, by omega, by go_num, HO2, HB2⟩
      case measure => simp [intOf]; omega
    ·obtain rfl : k = 3 := by omega
     go_wp2
     go_ret
     exact ⟨_, rfl, HOk.out, HBk.out⟩
end Go.Proofs.YtcbnnfeelhlapadGreatDoor
