/-
  The contract of chars.Behind over a list as a value, and that of fold.put.
-/
import Derived.Test.YtebhbhcjfnohmabFNew
import Derived.Test.YtebhbhcjfnohmabFMay
namespace Go.Proofs.Ytebhbhcjfnohmab
open Go.RowKit

theorem behindL_char {seen by_ : Int} : ∀ (l : List Ch) (m n : Nat) (hm : m < l.length), seesC seen by_ l[m] = true → (vw (l.take (m + 1)) seen by_).length = n → behindL seen by_ n l = some (m + 1)
  | [], m, n, hm, _, _ => absurd hm (Nat.not_lt_zero _)
  | x :: r, 0, n, _, hs, hn => by
    have hs' : seesC seen by_ x = true := hs
    rw [List.take_succ_cons, List.take_zero, vw_cons_yes _ hs'] at hn
    obtain rfl : n = 1 := by simpa [vw] using hn.symm
    rw [behindL, if_pos hs']
    cases r <;> rfl
  | x :: r, m + 1, n, hm, hs, hn => by
    have hm' : m < r.length := by simpa using hm
    have hs' : seesC seen by_ r[m] = true := hs
    rw [List.take_succ_cons] at hn
    by_cases hx : seesC seen by_ x = true
    · rw [vw_cons_yes _ hx, List.length_cons] at hn
      obtain ⟨n', rfl⟩ : ∃ n', n = n' + 1 := ⟨_, hn.symm⟩
      rw [behindL, if_pos hx, behindL_char r m n' hm' hs' (by omega)]
      rfl
    · rw [vw_cons_no _ (by simpa using hx)] at hn
      have hpos : 0 < n := by
        rw [take_snoc r m hm', vw_app, vw_cons_yes _ hs', List.length_append, List.length_cons] at hn
        omega
      obtain ⟨n', rfl⟩ : ∃ n', n = n' + 1 := ⟨n - 1, by omega⟩
      rw [behindL, if_neg hx, behindL_char r m (n' + 1) hm' hs' hn]
      rfl

theorem behind_lst {w : World} {v : Value} {l : List Ch} (h : Lst w v l) (hl : l.length ≤ 1000) (seen by_ n : Int) (h0 : 0 ≤ n) (hn : n ≤ cnt l seen by_) :
    Calls Try.prog 91 #[v, .int .i64 seen, .int .i64 by_, .int .i64 n] w fun e w' => ∃ p : Nat, e = .returned (.int .i64 p) ∧ behindL seen by_ n.toNat l = some p ∧ p ≤ l.length ∧ Below w.heap.size w w' := by
  obtain ⟨a, len, cap, rfl, h1, h2, h3⟩ := h
  rcases h3 with rfl | ⟨b, off, rfl, hr⟩
  · obtain rfl : l = [] := List.length_eq_zero_iff.1 h1
    have hz : n = 0 := by simp [cnt] at hn; omega
    subst hz
    refine (behind_empty a cap seen by_ 0 w).mono ?_
    rintro e w' ⟨rfl, hb⟩
    exact ⟨0, rfl, rfl, Nat.le_refl _, hb⟩
  · refine (behind_some b off len cap l seen by_ n w h1 (by omega) hr).mono ?_
    rintro e w' ⟨r, rfl, hbi, hb⟩
    by_cases hz : n = 0
    · subst hz
      rw [behind_zero hbi]
      exact ⟨0, rfl, by cases l <;> rfl, Nat.zero_le _, hb⟩
    · obtain ⟨m, hm, rfl, hc, hs⟩ := behind_pos hbi (by omega) hn
      refine ⟨m + 1, rfl, behindL_char l m n.toNat hm hs ?_, hm, hb⟩
      have := vw_len (l.take (m + 1)) seen by_
      omega

/-- What the run of a slice expression comes to. -/
theorem exec_slice {P : Program} {ρ : Operand → Value} {o : Oper} {t : TypeId} {x : Operand} {lo hi mx : Option Operand} {u : Value} {w : World} (h : o.op = .slice t x lo hi mx)
    (hr : (Instr.sliceAt t (ρ x) (lo.map ρ) (hi.map ρ) (mx.map ρ)).run P w = .ok u w) : (execOp ρ o).run P w = .ok (.value u) w := by
  unfold execOp
  rw [h]
  simp [hr]

theorem elem_chars : Try.prog.elem 29 = 65 := by kernel_rfl
theorem und_chars : Try.prog.underlying 29 = some (.slice (Try.prog.elem 29)) := by kernel_rfl

theorem size_char (w : World) : (sizeOf 65).run Try.prog w = .ok 7 w := by
  obtain ⟨i0, hi, _, hz1, _⟩ := info_parts Try.infoChar
  simp [sizeOf, typeInfo, hi, hz1]

theorem run_take_val (a : Option Addr) (len cap k : Nat) (hk : k ≤ cap) (w : World) : (Instr.sliceAt 29 (.slice a len cap) none (some (.int .i64 k)) none).run Try.prog w = .ok (sliced a 0 k cap 7) w := by
  rw [run_sliceAt_slice _ _ _ _ _ _ und_chars, run_slice_h _ _ _ _ _ und_chars _ _ (by omega) (by omega), elem_chars, size_char]
  rfl

theorem run_drop_val (a : Option Addr) (len cap k : Nat) (hk : k ≤ len) (w : World) : (Instr.sliceAt 29 (.slice a len cap) (some (.int .i64 k)) none none).run Try.prog w = .ok (sliced a k len cap 7) w := by
  rw [run_sliceAt_slice _ _ _ _ _ _ und_chars, run_slice_l _ _ _ _ _ und_chars _ _ (by omega) (by omega), elem_chars, size_char]
  rfl

theorem lst_take {w : World} {a : Option Addr} {cap : Nat} {l : List Ch} (h : Lst w (.slice a l.length cap) l) {k : Nat} (hk : k ≤ l.length) : Lst w (sliced a 0 k cap 7) (l.take k) := by
  obtain ⟨a', len, cap', he, h1, h2, h3⟩ := h
  simp only [Value.slice.injEq] at he
  obtain ⟨rfl, rfl, rfl⟩ := he
  have e : (if cap = 0 then a else a.map (·.add (0 * 7))) = a := by
    split
    · rfl
    · cases a with
      | none => rfl
      | some ad => rcases h3 with h3 | ⟨b, off, h3, _⟩
                   · obtain ⟨b, off, spot⟩ := ad
                     cases spot <;> simp [Addr.add]
                   · cases h3
                     simp [addr_add]
  refine ⟨a, k, cap, ?_, by rw [List.length_take]; omega, by omega, ?_⟩
  · unfold sliced
    rw [e]
    rfl
  · rcases h3 with h3 | ⟨b, off, rfl, hr⟩
    · exact .inl (by omega)
    · exact .inr ⟨b, off, rfl, hr.take k⟩

theorem lst_drop {w : World} {a : Option Addr} {cap : Nat} {l : List Ch} (h : Lst w (.slice a l.length cap) l) {k : Nat} (hk : k ≤ l.length) : Lst w (sliced a k l.length cap 7) (l.drop k) := by
  obtain ⟨a', len, cap', he, h1, h2, h3⟩ := h
  simp only [Value.slice.injEq] at he
  obtain ⟨rfl, rfl, rfl⟩ := he
  refine ⟨_, l.length - k, cap - k, rfl, by rw [List.length_drop], by omega, ?_⟩
  rcases h3 with h3 | ⟨b, off, rfl, hr⟩
  · exact .inl (by omega)
  · by_cases hc : cap = k
    · exact .inl (by omega)
    · rw [if_neg hc]
      exact .inr ⟨b, off + k * 7, by simp [addr_add], hr.drop' k⟩

end Go.Proofs.Ytebhbhcjfnohmab
