/-
  The contract of slices.IndexFunc over a list of bytes, whatever closure is handed to it; chars.Behind and chars.Find by it.
-/
import Derived.Test.YtebhbhcjfnohmabLists
namespace Go.Proofs.Ytebhbhcjfnohmab
open Go.RowKit

structure Step (F : Nat) (caps : Array Value) (b off : Nat) (l : List Ch) (I : Nat → World → Prop) (hit : Nat → Bool) : Prop where
  row : ∀ k w, I k w → Row w b off l
  step : ∀ k (h : k < l.length) w, I k w → Calls Try.prog F (#[chV l[k]] ++ caps) w fun e w' => e = .returned (.bool (hit k)) ∧ I (k + 1) w'

theorem no_step (hit : Nat → Bool) (k : Nat) (h : ∀ j, j < k → hit j = false) (hk : hit k = false) : ∀ j, j < k + 1 → hit j = false := by
  intro j hj
  by_cases e : j = k
  · rw [e]; exact hk
  · exact h j (by omega)

set_option maxRecDepth 20000 in
set_option maxHeartbeats 400000 in
theorem indexFunc_some (F : Nat) (caps : Array Value) (b off len cap : Nat) (l : List Ch) (I : Nat → World → Prop) (hit : Nat → Bool) (w : World) (hl : l.length = len) (hm : len ≤ 281474976710656)
    (hcall : ∀ args w, Sem.run Try.prog (callFunc F args) w = .ok (.enter F args) w) (hS : Step F caps b off l I hit) (h0 : I 0 w) :
    Calls Try.prog 71 #[.slice (some ⟨b, off, none⟩) len cap, .func (Fn.func F) #[] caps] w fun e w' =>
      (∃ k, k < len ∧ (∀ j, j < k → hit j = false) ∧ hit k = true ∧ e = .returned (.int .i64 k) ∧ I (k + 1) w') ∨ ((∀ j, j < len → hit j = false) ∧ e = .returned (.int .i64 (-1)) ∧ I len w') := by
  have HL : Hid (l.length = len) := hl
  have HI : Hid (I 0 w) := h0
  clear hl h0
  go_enter Try.func71, Try.ntmps71
  go_wp2
  go_loopw [8] (fun i wr => ∃ k : Nat, k ≤ len ∧ i = .int .i64 k ∧ (∀ j, j < k → hit j = false) ∧ Hid (I k wr)) (fun i _ => len - (intOf i).toNat)
  case atStart => exact ⟨0, Nat.zero_le _, rfl, fun j hj => absurd hj (Nat.not_lt_zero _), HI⟩
  case round =>
    obtain ⟨k, hk, rfl, hno, hik⟩ := hrel
    have HNO : Hid (∀ j, j < k → hit j = false) := hno
    clear hno
    by_cases hlt : k < len
    · have hkl : k < l.length := by rw [HL.out]; exact hlt
      obtain ⟨h0, h1, h2, h3, h4, h5, h6⟩ := (hS.row k wr hik.out).at_ k hkl
      have HST := hS.step k hkl wr hik.out
      have HST' : Hid (Calls Try.prog F (#[chV l[k]] ++ caps) wr fun e w' => e = .returned (.bool (hit k)) ∧ I (k + 1) w') := HST
      clear HST
      generalize l[k] = x at h0 h1 h2 h3 h4 h5 h6 HST'
      go_wp2_with fail
      refine HST'.out.mono ?_
      rintro e w1 ⟨rfl, hi1⟩
      have HI1 : Hid (I (k + 1) w1) := hi1
      clear hi1 hik h0 h1 h2 h3 h4 h5 h6 HST' hcall hS
      cases hh : hit k
      · go_wp2
        go_roundw
        case rel => exact ⟨k + 1, by omega, by go_num, no_step hit k HNO.out hh, HI1⟩
        case measure => simp [intOf]; omega
      · go_wp2
        go_ret
        exact .inl ⟨k, hlt, HNO.out, hh, rfl, HI1.out⟩
    · obtain rfl : k = len := by omega
      clear hS hcall
      go_wp2
      go_ret
      exact .inr ⟨HNO.out, rfl, hik.out⟩

end Go.Proofs.Ytebhbhcjfnohmab
