/-
  The walk of the law CharsBehind, for lists that lie in memory and for those without elements.
-/
import Derived.Test.YtebhbhcjfnohmabBegun
namespace Go.Proofs.Ytebhbhcjfnohmab
open Go.RowKit

set_option maxRecDepth 20000 in
set_option maxHeartbeats 400000 in
theorem count_empty (a : Option Addr) (cap : Nat) (seen by_ : Int) (w : World) :
    Calls Try.prog 46 #[.slice a 0 cap, .int .i64 seen, .int .i64 by_] w fun e w' => e = .returned (.int .i64 0) ∧ Below w.heap.size w w' := by
  go_enter Try.func46, Try.ntmps46
  go_wp2
  refine wp_loop_rounds 1 ?_
  rw [rounds_succ]
  go_wp2
  go_ret
  exact ⟨rfl, Below.refl _ _⟩

set_option maxRecDepth 20000 in
set_option maxHeartbeats 400000 in
theorem indexFunc_empty (a : Option Addr) (cap : Nat) (f : Value) (w : World) :
    Calls Try.prog 71 #[.slice a 0 cap, f] w fun e w' => e = .returned (.int .i64 (-1)) ∧ Below w.heap.size w w' := by
  go_enter Try.func71, Try.ntmps71
  go_wp2
  refine wp_loop_rounds 1 ?_
  rw [rounds_succ]
  go_wp2
  go_ret
  exact ⟨rfl, Below.refl _ _⟩

def emptyBehind (n : Int) : Int := if n = 0 then 0 else -1

theorem below4 (w : World) (o1 o2 o3 o4 : Obj) : Below w.heap.size w ((((w.alloc o1).alloc o2).alloc o3).alloc o4) :=
  ((((Below.refl _ _).alloc (Nat.le_refl _) _).alloc (by simp) _).alloc (by simp; omega) _).alloc (by simp; omega) _

set_option maxRecDepth 20000 in
set_option maxHeartbeats 400000 in
theorem behind_empty (a : Option Addr) (cap : Nat) (seen by_ n : Int) (w : World) :
    Calls Try.prog 91 #[.slice a 0 cap, .int .i64 seen, .int .i64 by_, .int .i64 n] w fun e w' => e = .returned (.int .i64 (emptyBehind n)) ∧ Below w.heap.size w w' := by
  by_cases h0 : n = 0
  · have h0' : (n == 0) = true := by simp [h0]
    have H0 : Hid (n = 0) := h0
    clear h0
    go_enter Try.func91, Try.ntmps91
    go_wp2
    go_ret
    exact ⟨ret_int (by simp [emptyBehind, H0.out]), (((Below.refl _ _).alloc (Nat.le_refl _) _).alloc (by simp) _).alloc (by simp; omega) _⟩
  · have h0' : (n == 0) = false := by simp [h0]
    have H0 : Hid (n ≠ 0) := h0
    clear h0
    have hmf : ∀ (fn : Fn) (first cap : Array Value) (w : World), (Instr.makeFunc fn first cap).run Try.prog w = .ok (.func fn first cap) w := fun _ _ _ _ => rfl
    go_enter Try.func91, Try.ntmps91
    go_wp2_with fail
    refine (indexFunc_empty _ _ _ _).mono ?_
    rintro e w1 ⟨rfl, hb⟩
    have HB : Hid (Below w.heap.size w w1) := below_after (below4 w _ _ _ _) hb
    clear hb
    go_wp2
    go_ret
    exact ⟨ret_int (by simp [emptyBehind, H0.out]), HB.out⟩

theorem cnt_take_le (l : List Ch) (seen by_ : Int) (k : Nat) : cnt (l.take k) seen by_ ≤ cnt l seen by_ := by
  have h : cnt (l.take k ++ l.drop k) seen by_ = cnt (l.take k) seen by_ + cnt (l.drop k) seen by_ := by
    unfold cnt
    rw [List.filter_append, List.length_append]
    omega
  rw [List.take_append_drop] at h
  have := (cnt_bd (l.drop k) seen by_).1
  omega

theorem hit_iff (l : List Ch) (seen by_ nn : Int) (k : Nat) (hk : k < l.length) : hitAt l seen by_ nn k = true ↔ seesC seen by_ l[k] = true ∧ cnt (l.take (k + 1)) seen by_ = nn := by
  unfold hitAt
  rw [List.getElem?_eq_getElem hk, take_snoc l k hk, cnt_snoc]
  simp only [stepH]
  by_cases h : seesC seen by_ l[k] = true
  · simp [h]
  · simp [h]

theorem hit_ex (l : List Ch) (seen by_ nn : Int) (h1 : 0 < nn) : ∀ m, m ≤ l.length → nn ≤ cnt (l.take m) seen by_ → ∃ k, k < m ∧ hitAt l seen by_ nn k = true := by
  intro m
  induction m with
  | zero => intro _ h; simp [cnt] at h; omega
  | succ m ih =>
    intro hm h
    by_cases hle : nn ≤ cnt (l.take m) seen by_
    · obtain ⟨k, hk, hh⟩ := ih (by omega) hle
      exact ⟨k, by omega, hh⟩
    · refine ⟨m, by omega, (hit_iff l seen by_ nn m (by omega)).2 ?_⟩
      have hs := cnt_snoc (l.take m) l[m] seen by_
      rw [← take_snoc l m (by omega)] at hs
      by_cases hx : seesC seen by_ l[m] = true
      · rw [if_pos hx] at hs
        exact ⟨hx, by omega⟩
      · rw [if_neg hx] at hs
        omega

theorem behind_none {l : List Ch} {seen by_ n r : Int} (h : BehindIs l seen by_ n r) (hn : n < 0 ∨ cnt l seen by_ < n) : r = -1 := by
  rcases h with ⟨rfl, _⟩ | ⟨_, ⟨k, hk, _, hyes, _⟩ | ⟨_, hr⟩⟩
  · have := (cnt_bd l seen by_).1
    omega
  · have h1 := ((hit_iff l seen by_ n k hk).1 hyes).2
    have h2 := cnt_take_le l seen by_ (k + 1)
    have h3 := (cnt_bd (l.take (k + 1)) seen by_).1
    omega
  · exact hr

theorem behind_zero {l : List Ch} {seen by_ r : Int} (h : BehindIs l seen by_ 0 r) : r = 0 := by
  rcases h with ⟨_, hr⟩ | ⟨h, _⟩
  · exact hr
  · exact absurd rfl h

theorem behind_pos {l : List Ch} {seen by_ n r : Int} (h : BehindIs l seen by_ n r) (h0 : 0 < n) (hn : n ≤ cnt l seen by_) :
    ∃ m : Nat, ∃ hm : m < l.length, r = m + 1 ∧ cnt (l.take (m + 1)) seen by_ = n ∧ seesC seen by_ l[m] = true := by
  rcases h with ⟨rfl, _⟩ | ⟨_, ⟨k, hk, _, hyes, hr⟩ | ⟨hno, _⟩⟩
  · omega
  · have h1 := (hit_iff l seen by_ n k hk).1 hyes
    exact ⟨k, hk, hr, h1.2, h1.1⟩
  · obtain ⟨k, hk, hh⟩ := hit_ex l seen by_ n h0 l.length (Nat.le_refl _) (by rw [List.take_length]; exact hn)
    rw [hno k hk] at hh
    cases hh

end Go.Proofs.Ytebhbhcjfnohmab
