/-
  The walk of the law CharsBehind, for lists that lie in memory and for those without elements.
-/
import Derived.Test.YtgcklgiapjbkhaaBegun
namespace Go.Proofs.Ytgcklgiapjbkhaa
open Go.RowKit

set_option maxHeartbeats 400000 in
theorem count_empty (a : Option Addr) (cap : Nat) (seen by_ : Int) (w : World) :
    Calls Try.prog 12 #[.slice a 0 cap, .int .i64 seen, .int .i64 by_] w fun e w' => e = .returned (.int .i64 0) ∧ Below w.heap.size w w' := by
  go_enter Try.func12, Try.ntmps12
  go_wp2
  refine wp_loop_rounds 1 ?_
  rw [rounds_succ]
  go_wp2
  go_ret
  exact ⟨rfl, Below.refl _ _⟩

set_option maxHeartbeats 400000 in
theorem indexFunc_empty (a : Option Addr) (cap : Nat) (f : Value) (w : World) :
    Calls Try.prog 29 #[.slice a 0 cap, f] w fun e w' => e = .returned (.int .i64 (-1)) ∧ Below w.heap.size w w' := by
  go_enter Try.func29, Try.ntmps29
  go_wp2
  refine wp_loop_rounds 1 ?_
  rw [rounds_succ]
  go_wp2
  go_ret
  exact ⟨rfl, Below.refl _ _⟩

def emptyBehind (n : Int) : Int := if n = 0 then 0 else -1

theorem below4 (w : World) (o1 o2 o3 o4 : Obj) : Below w.heap.size w ((((w.alloc o1).alloc o2).alloc o3).alloc o4) :=
  ((((Below.refl _ _).alloc (Nat.le_refl _) _).alloc (by simp) _).alloc (by simp; omega) _).alloc (by simp; omega) _

set_option maxHeartbeats 400000 in
theorem behind_empty (a : Option Addr) (cap : Nat) (seen by_ n : Int) (w : World) :
    Calls Try.prog 11 #[.slice a 0 cap, .int .i64 seen, .int .i64 by_, .int .i64 n] w fun e w' => e = .returned (.int .i64 (emptyBehind n)) ∧ Below w.heap.size w w' := by
  by_cases h0 : n = 0
  · have h0' : (n == 0) = true := by simp [h0]
    have H0 : Hid (n = 0) := h0
    clear h0
    go_enter Try.func11, Try.ntmps11
    go_wp2
    go_ret
    exact ⟨ret_int (by simp [emptyBehind, H0.out]), (((Below.refl _ _).alloc (Nat.le_refl _) _).alloc (by simp) _).alloc (by simp; omega) _⟩
  · have h0' : (n == 0) = false := by simp [h0]
    have H0 : Hid (n ≠ 0) := h0
    clear h0
    have hmf : ∀ (fn : Fn) (first cap : Array Value) (w : World), (Instr.makeFunc fn first cap).run Try.prog w = .ok (.func fn first cap) w := fun _ _ _ _ => rfl
    go_enter Try.func11, Try.ntmps11
    go_wp2_with fail
    refine (indexFunc_empty _ _ _ _).mono ?_
    rintro e w1 ⟨rfl, hb⟩
    have HB : Hid (Below w.heap.size w w1) := below_after (below4 w _ _ _ _) hb
    clear hb
    go_wp2
    go_ret
    exact ⟨ret_int (by simp [emptyBehind, H0.out]), HB.out⟩

set_option maxHeartbeats 400000 in
theorem law_behind_empty (a : Option Addr) (cap : Nat) (seen by_ n : Int) (w : World) :
    Calls Try.prog 3 #[.slice a 0 cap, .int .i64 seen, .int .i64 by_, .int .i64 n] w fun e w' => e = .returned (.bool true) ∧ Below w.heap.size w w' := by
  by_cases hn : n < 0
  · go_enter Try.func3, Try.ntmps3
    go_wp2_with fail
    refine (begun_any _).mono ?_
    rintro e w1 ⟨rfl, hb1⟩
    have HB1 : Hid (Below w.heap.size w w1) := hb1
    clear hb1
    go_wp2_with fail
    refine (behind_empty _ _ _ _ _ _).mono ?_
    rintro e w2 ⟨rfl, hb2⟩
    have HB2 : Hid (Below w.heap.size w w2) := below_after HB1.out hb2
    clear hb2
    rw [show emptyBehind n = -1 from if_neg (by omega)]
    go_wp2
    go_ret
    exact ⟨rfl, HB2.out⟩
  · by_cases h0 : n = 0
    · subst h0
      cases a
      all_goals
        go_enter Try.func3, Try.ntmps3
        go_wp2_with fail
        refine (begun_any _).mono ?_
        rintro e w1 ⟨rfl, hb1⟩
        have HB1 : Hid (Below w.heap.size w w1) := hb1
        clear hb1
        go_wp2_with fail
        refine (behind_empty _ _ _ _ _ _).mono ?_
        rintro e w2 ⟨rfl, hb2⟩
        have HB2 : Hid (Below w.heap.size w w2) := below_after HB1.out hb2
        clear hb2
        rw [show emptyBehind 0 = 0 from rfl]
        go_wp2_with fail
        refine (count_empty _ _ _ _ _).mono ?_
        rintro e w3 ⟨rfl, hb3⟩
        have HB3 : Hid (Below w.heap.size w w3) := below_after HB2.out hb3
        clear hb3
        go_wp2_with fail
        refine (count_empty _ _ _ _ _).mono ?_
        rintro e w4 ⟨rfl, hb4⟩
        have HB4 : Hid (Below w.heap.size w w4) := below_after HB3.out hb4
        clear hb4
        go_wp2
        go_ret
        exact ⟨rfl, HB4.out⟩
    · have hp : 0 < n := by omega
      clear h0 hn
      go_enter Try.func3, Try.ntmps3
      go_wp2_with fail
      refine (begun_any _).mono ?_
      rintro e w1 ⟨rfl, hb1⟩
      have HB1 : Hid (Below w.heap.size w w1) := hb1
      clear hb1
      go_wp2_with fail
      refine (behind_empty _ _ _ _ _ _).mono ?_
      rintro e w2 ⟨rfl, hb2⟩
      have HB2 : Hid (Below w.heap.size w w2) := below_after HB1.out hb2
      clear hb2
      rw [show emptyBehind n = -1 from if_neg (by omega)]
      go_wp2_with fail
      refine (count_empty _ _ _ _ _).mono ?_
      rintro e w3 ⟨rfl, hb3⟩
      have HB3 : Hid (Below w.heap.size w w3) := below_after HB2.out hb3
      clear hb3
      go_wp2
      go_ret
      exact ⟨rfl, HB3.out⟩

theorem cnt_take_le (l : List Ch) (seen by_ : Int) (k : Nat) : cnt (l.take k) seen by_ ≤ cnt l seen by_ := by
  have h : cnt (l.take k ++ l.drop k) seen by_ = cnt (l.take k) seen by_ + cnt (l.drop k) seen by_ := by
    unfold cnt
    rw [List.filter_append, List.length_append]
    omega
  rw [List.take_append_drop] at h
  have := (cnt_bd (l.drop k) seen by_).1
  omega

theorem hit_iff (l : List Ch) (seen by_ nn : Int) (k : Nat) (hk : k < l.length) : hitAt l seen by_ nn k = true ↔ seesC seen by_ l[k] = true ∧ cnt (l.take (k + 1)) seen by_ = nn := by
  unfold hitAt
  rw [List.getElem?_eq_getElem hk, take_snoc l k hk, cnt_snoc]
  simp only [stepH]
  by_cases h : seesC seen by_ l[k] = true
  · simp [h]
  · simp [h]

theorem hit_ex (l : List Ch) (seen by_ nn : Int) (h1 : 0 < nn) : ∀ m, m ≤ l.length → nn ≤ cnt (l.take m) seen by_ → ∃ k, k < m ∧ hitAt l seen by_ nn k = true := by
  intro m
  induction m with
  | zero => intro _ h; simp [cnt] at h; omega
  | succ m ih =>
    intro hm h
    by_cases hle : nn ≤ cnt (l.take m) seen by_
    · obtain ⟨k, hk, hh⟩ := ih (by omega) hle
      exact ⟨k, by omega, hh⟩
    · refine ⟨m, by omega, (hit_iff l seen by_ nn m (by omega)).2 ?_⟩
      have hs := cnt_snoc (l.take m) l[m] seen by_
      rw [← take_snoc l m (by omega)] at hs
      by_cases hx : seesC seen by_ l[m] = true
      · rw [if_pos hx] at hs
        exact ⟨hx, by omega⟩
      · rw [if_neg hx] at hs
        omega

theorem behind_none {l : List Ch} {seen by_ n r : Int} (h : BehindIs l seen by_ n r) (hn : n < 0 ∨ cnt l seen by_ < n) : r = -1 := by
  rcases h with ⟨rfl, _⟩ | ⟨_, ⟨k, hk, _, hyes, _⟩ | ⟨_, hr⟩⟩
  · have := (cnt_bd l seen by_).1
    omega
  · have h1 := ((hit_iff l seen by_ n k hk).1 hyes).2
    have h2 := cnt_take_le l seen by_ (k + 1)
    have h3 := (cnt_bd (l.take (k + 1)) seen by_).1
    omega
  · exact hr

theorem behind_zero {l : List Ch} {seen by_ r : Int} (h : BehindIs l seen by_ 0 r) : r = 0 := by
  rcases h with ⟨_, hr⟩ | ⟨h, _⟩
  · exact hr
  · exact absurd rfl h

theorem behind_pos {l : List Ch} {seen by_ n r : Int} (h : BehindIs l seen by_ n r) (h0 : 0 < n) (hn : n ≤ cnt l seen by_) :
    ∃ m : Nat, ∃ hm : m < l.length, r = m + 1 ∧ cnt (l.take (m + 1)) seen by_ = n ∧ seesC seen by_ l[m] = true := by
  rcases h with ⟨rfl, _⟩ | ⟨_, ⟨k, hk, _, hyes, hr⟩ | ⟨hno, _⟩⟩
  · omega
  · have h1 := (hit_iff l seen by_ n k hk).1 hyes
    exact ⟨k, hk, hr, h1.2, h1.1⟩
  · obtain ⟨k, hk, hh⟩ := hit_ex l seen by_ n h0 l.length (Nat.le_refl _) (by rw [List.take_length]; exact hn)
    rw [hno k hk] at hh
    cases hh

set_option maxHeartbeats 400000 in
theorem law_behind_great (b off len cap : Nat) (seen by_ n : Int) (w : World) (hm : 300 < len) :
    Calls Try.prog 3 #[.slice (some ⟨b, off, none⟩) len cap, .int .i64 seen, .int .i64 by_, .int .i64 n] w fun e w' => e = .returned (.bool true) ∧ Below w.heap.size w w' := by
  go_enter Try.func3, Try.ntmps3
  go_wp2_with fail
  refine (begun_any _).mono ?_
  rintro e w1 ⟨rfl, hb1⟩
  have HB1 : Hid (Below w.heap.size w w1) := hb1
  clear hb1
  go_wp2
  go_ret
  exact ⟨rfl, HB1.out⟩

set_option maxHeartbeats 400000 in
theorem law_behind_some (b off len cap : Nat) (l : List Ch) (seen by_ n : Int) (w : World) (hl : l.length = len) (hc : len ≤ cap) (hm : len ≤ 300) (hr : Row w b off l) :
    Calls Try.prog 3 #[.slice (some ⟨b, off, none⟩) len cap, .int .i64 seen, .int .i64 by_, .int .i64 n] w fun e w' => e = .returned (.bool true) ∧ Below w.heap.size w w' := by
  have HL : Hid (l.length = len) := hl
  have HR : Hid (Row w b off l) := hr
  clear hl hr
  go_enter Try.func3, Try.ntmps3
  go_wp2_with fail
  refine (begun_any _).mono ?_
  rintro e w1 ⟨rfl, hb1⟩
  have HB1 : Hid (Below w.heap.size w w1) := hb1
  have HR1 : Hid (Row w1 b off l) := HR.out.below hb1
  clear hb1 HR
  go_wp2_with fail
  refine (behind_some b off len cap l seen by_ n _ HL.out (by omega) HR1.out).mono ?_
  rintro e w2 ⟨r, rfl, hbe, hb2⟩
  have HB2 : Hid (Below w.heap.size w w2) := below_after HB1.out hb2
  have HR2 : Hid (Row w2 b off l) := HR1.out.below hb2
  have HBE : Hid (BehindIs l seen by_ n r) := hbe
  clear hb2 HB1 HR1 hbe
  by_cases hn : n < 0
  · rw [behind_none HBE.out (.inl hn)]
    go_wp2
    go_ret
    exact ⟨rfl, HB2.out⟩
  · go_wp2_with fail
    refine (count_some b off len cap l seen by_ _ HL.out (by omega) HR2.out).mono ?_
    rintro e w3 ⟨rfl, hb3⟩
    have HB3 : Hid (Below w.heap.size w w3) := below_after HB2.out hb3
    have HR3 : Hid (Row w3 b off l) := HR2.out.below hb3
    clear hb3 HB2 HR2
    by_cases hgt : cnt l seen by_ < n
    · rw [behind_none HBE.out (.inr hgt)]
      go_wp2
      go_ret
      exact ⟨rfl, HB3.out⟩
    · by_cases h0 : n = 0
      · subst h0
        rw [behind_zero HBE.out]
        go_wp2_with fail
        refine (count_some b off 0 cap [] seen by_ _ rfl (by omega) (HR3.out.take 0)).mono ?_
        rintro e w4 ⟨rfl, hb4⟩
        have HB4 : Hid (Below w.heap.size w w4) := below_after HB3.out hb4
        clear hb4
        rw [show cnt [] seen by_ = 0 from rfl]
        go_wp2
        go_ret
        exact ⟨rfl, HB4.out⟩
      · obtain ⟨m, hml, hrm, hcm, hsm⟩ := behind_pos HBE.out (by omega) (by omega)
        have hml' : m < len := by rw [← HL.out]; exact hml
        have HCM : Hid (cnt (l.take (m + 1)) seen by_ = n) := hcm
        have HSM : Hid (seesC seen by_ l[m] = true) := hsm
        rw [hrm]
        clear hrm hcm hsm HBE
        have hp : 0 < n := by omega
        have hnn : (n == 0) = false := by simp; omega
        go_wp2_with fail
        refine (count_some b off (m + 1) cap (l.take (m + 1)) seen by_ _ (by rw [List.length_take]; omega) (by omega) (HR3.out.take (m + 1))).mono ?_
        rintro e w4 ⟨rfl, hb4⟩
        rw [HCM.out]
        have HB4 : Hid (Below w.heap.size w w4) := below_after HB3.out hb4
        have HR4 : Hid (Row w4 b off l) := HR3.out.below hb4
        obtain ⟨g0, g1, g2, g3, g4, g5, g6⟩ := HR4.out.at_ m hml
        generalize l[m] = x at g0 g1 g2 g3 g4 g5 g6 HSM
        clear hb4 HB3 HR3 HR4 HCM
        go_wp2_with fail
        refine (sees_any x seen by_ _).mono ?_
        rintro e w5 ⟨rfl, hb5⟩
        have HB5 : Hid (Below w.heap.size w w5) := below_after HB4.out hb5
        have hx : seesB x.by_ x.inn x.out x.gone seen by_ = true := HSM.out
        rw [hx]
        clear hb5 HB4 g0 g1 g2 g3 g4 g5 g6 hx
        go_wp2
        go_ret
        exact ⟨rfl, HB5.out⟩

end Go.Proofs.Ytgcklgiapjbkhaa
