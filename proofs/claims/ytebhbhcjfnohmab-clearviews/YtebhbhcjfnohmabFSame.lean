/-
  The contracts of the reference's Same and SameChars.
-/
import Derived.Test.YtebhbhcjfnohmabFMem
namespace Go.Proofs.Ytebhbhcjfnohmab
open Go.RowKit

set_option maxRecDepth 20000 in
set_option maxHeartbeats 400000 in
theorem refSame_any (x y : Ch) (w : World) :
    Calls Try.prog 89 #[chV x, chV y] w fun e w' => e = .returned (.bool (sameB x y)) ∧ Below w.heap.size w w' := by
  obtain ⟨c, b, no, k, i, o, g⟩ := x
  obtain ⟨c', b', no', k', i', o', g'⟩ := y
  cases h1 : (b == b')
  · go_enter Try.func89, Try.ntmps89
    go_wp2
    go_ret
    refine ⟨ret_b ?_, ((Below.refl _ _).alloc (Nat.le_refl _) _).alloc (by simp) _⟩
    simp only [beq_eq_false_iff_ne] at h1
    simp [sameB, h1]
  · cases h2 : (no == no')
    · go_enter Try.func89, Try.ntmps89
      go_wp2
      go_ret
      refine ⟨ret_b ?_, ((Below.refl _ _).alloc (Nat.le_refl _) _).alloc (by simp) _⟩
      simp only [beq_eq_false_iff_ne] at h2
      simp [sameB, h2]
    · cases h3 : (k == k')
      all_goals
        go_enter Try.func89, Try.ntmps89
        go_wp2
        go_ret
        refine ⟨ret_b ?_, ((Below.refl _ _).alloc (Nat.le_refl _) _).alloc (by simp) _⟩
        simp only [beq_eq_false_iff_ne, beq_iff_eq] at h1 h2 h3
        simp [sameB, h1, h2, h3]

theorem Lst.row {w : World} {a : Option Addr} {n cap : Nat} {l : List Ch} (h : Lst w (.slice a n cap) l) (hp : 0 < n) : ∃ b off, a = some ⟨b, off, none⟩ ∧ l.length = n ∧ Row w b off l := by
  obtain ⟨a', len, cap', he, h1, h2, h3⟩ := h
  simp only [Value.slice.injEq] at he
  obtain ⟨rfl, rfl, rfl⟩ := he
  rcases h3 with h3 | ⟨b, off, rfl, hr⟩
  · omega
  · exact ⟨b, off, rfl, h1, hr⟩

theorem take_same {a b : List Ch} {k : Nat} (ha : k < a.length) (hb : k < b.length) (h : a.take k = b.take k) (e : a[k] = b[k]) : a.take (k + 1) = b.take (k + 1) := by
  rw [take_snoc a k ha, take_snoc b k hb, h, e]

theorem ch_diff {a0 a1 a2 a3 a4 a5 a6 b0 b1 b2 b3 b4 b5 b6 : Int} (h : (⟨a0, a1, a2, a3, a4, a5, a6⟩ : Ch) ≠ ⟨b0, b1, b2, b3, b4, b5, b6⟩) :
    ((a0 == b0) = false) ∨ ((a0 == b0) = true ∧ (a1 == b1) = false) ∨ ((a0 == b0) = true ∧ (a1 == b1) = true ∧ (a2 == b2) = false) ∨ ((a0 == b0) = true ∧ (a1 == b1) = true ∧ (a2 == b2) = true ∧ (a3 == b3) = false)
      ∨ ((a0 == b0) = true ∧ (a1 == b1) = true ∧ (a2 == b2) = true ∧ (a3 == b3) = true ∧ (a4 == b4) = false) ∨ ((a0 == b0) = true ∧ (a1 == b1) = true ∧ (a2 == b2) = true ∧ (a3 == b3) = true ∧ (a4 == b4) = true ∧ (a5 == b5) = false)
      ∨ ((a0 == b0) = true ∧ (a1 == b1) = true ∧ (a2 == b2) = true ∧ (a3 == b3) = true ∧ (a4 == b4) = true ∧ (a5 == b5) = true ∧ (a6 == b6) = false) := by
  simp only [beq_eq_false_iff_ne, beq_iff_eq]
  by_cases h0 : a0 = b0
  · by_cases h1 : a1 = b1
    · by_cases h2 : a2 = b2
      · by_cases h3 : a3 = b3
        · by_cases h4 : a4 = b4
          · by_cases h5 : a5 = b5
            · exact .inr (.inr (.inr (.inr (.inr (.inr ⟨h0, h1, h2, h3, h4, h5, fun e => h (by rw [h0, h1, h2, h3, h4, h5, e])⟩)))))
            · exact .inr (.inr (.inr (.inr (.inr (.inl ⟨h0, h1, h2, h3, h4, h5⟩)))))
          · exact .inr (.inr (.inr (.inr (.inl ⟨h0, h1, h2, h3, h4⟩))))
        · exact .inr (.inr (.inr (.inl ⟨h0, h1, h2, h3⟩)))
      · exact .inr (.inr (.inl ⟨h0, h1, h2⟩))
    · exact .inr (.inl ⟨h0, h1⟩)
  · exact .inl h0

def SameIs (a b : List Ch) (w : World) (e : Ending) (w' : World) : Prop := ∃ r, e = .returned (.bool r) ∧ (r = true ↔ a = b) ∧ Below w.heap.size w w'

theorem same_no {a b : List Ch} {w w' : World} (h : a ≠ b) (hb : Below w.heap.size w w') : SameIs a b w (.returned (.bool false)) w' := ⟨false, rfl, ⟨fun e => (by cases e), fun e => absurd e h⟩, hb⟩
theorem same_yes {a b : List Ch} {w w' : World} (h : a = b) (hb : Below w.heap.size w w') : SameIs a b w (.returned (.bool true)) w' := ⟨true, rfl, ⟨fun _ => h, fun _ => rfl⟩, hb⟩

set_option maxRecDepth 20000 in
set_option maxHeartbeats 1600000 in
theorem sameChars_lst {w : World} {va vb : Value} {a b : List Ch} (ha : Lst w va a) (hb : Lst w vb b) (hl : a.length ≤ 1000) (hl2 : b.length ≤ 1000) :
    Calls Try.prog 29 #[va, vb] w fun e w' => SameIs a b w e w' := by
  have HA : Hid (Lst w va a) := ha
  have HB : Hid (Lst w vb b) := hb
  obtain ⟨aa, ca, rfl, _⟩ := ha.len
  obtain ⟨ab, cb, rfl, _⟩ := hb.len
  clear ha hb
  by_cases hn : a.length = b.length
  · have HN : Hid (a.length = b.length) := hn
    rw [← hn] at HB
    go_enter Try.func29, Try.ntmps29
    rw [← hn]
    clear hn
    go_wp2
    go_loopw [5] (fun i wr => ∃ k : Nat, k ≤ a.length ∧ i = .int .i64 k ∧ Hid (a.take k = b.take k) ∧ Hid (Below w.heap.size w wr)) (fun i _ => a.length - (intOf i).toNat)
    case atStart => exact ⟨0, Nat.zero_le _, rfl, rfl, Below.refl _ _⟩
    case round =>
      obtain ⟨k, hk, rfl, HK, HW⟩ := hrel
      by_cases hlt : k < a.length
      · have hlb : k < b.length := by have := HN.out; omega
        obtain ⟨b1, o1, rfl, _, r1⟩ := (HA.out.below HW.out).row (by omega)
        obtain ⟨b2, o2, rfl, _, r2⟩ := (HB.out.below HW.out).row (by omega)
        obtain ⟨g0, g1, g2, g3, g4, g5, g6⟩ := r1.at_ k hlt
        obtain ⟨e0, e1, e2, e3, e4, e5, e6⟩ := r2.at_ k hlb
        have HS : Hid (a[k] = b[k] → a.take (k + 1) = b.take (k + 1)) := take_same hlt hlb HK.out
        have HD : Hid (a[k] ≠ b[k] → a ≠ b) := fun h e => h (by subst e; rfl)
        generalize a[k] = x at *
        generalize b[k] = y at *
        clear r1 r2 hlb
        by_cases hxy : x = y
        · subst hxy
          obtain ⟨c, bb, no, kk, i, o, g⟩ := x
          simp only at g0 g1 g2 g3 g4 g5 g6 e0 e1 e2 e3 e4 e5 e6
          go_wp2
          go_region
          go_wp2
          go_roundw
          case rel => exact ⟨k + 1, by omega, by go_num, HS.out trivial, below_drewN HW.out _⟩
          case measure => simp [intOf]; omega
        · have HX : Hid (a ≠ b) := HD.out hxy
          obtain ⟨c, bb, no, kk, i, o, g⟩ := x
          obtain ⟨c', bb', no', kk', i', o', g'⟩ := y
          have HZ : Hid _ := ch_diff hxy
          simp only at g0 g1 g2 g3 g4 g5 g6 e0 e1 e2 e3 e4 e5 e6
          clear hxy HS HD
          rcases HZ.out with q | ⟨q0, q⟩ | ⟨q0, q1, q⟩ | ⟨q0, q1, q2, q⟩ | ⟨q0, q1, q2, q3, q⟩ | ⟨q0, q1, q2, q3, q4, q⟩ | ⟨q0, q1, q2, q3, q4, q5, q⟩
          all_goals
            clear HZ
            go_wp2
            go_region
            go_wp2
            go_ret
            exact same_no HX.out (below_drewN HW.out _)
      · go_wp2
        go_ret
        obtain rfl : k = a.length := by omega
        refine same_yes ?_ HW.out
        have := HK.out
        rwa [List.take_length, HN.out, List.take_length] at this
  · have hne : ((a.length : Int) == (b.length : Int)) = false := by simp; omega
    have HX : Hid (a ≠ b) := fun e => hn (by rw [e])
    go_enter Try.func29, Try.ntmps29
    go_wp2
    go_ret
    exact same_no HX.out (Below.refl _ _)

end Go.Proofs.Ytebhbhcjfnohmab
