/-
  The contract of fold.taken.
-/
import Derived.Test.YtebhbhcjfnohmabFMem
import Derived.BigRegion
namespace Go.Proofs.Ytebhbhcjfnohmab
open Go.RowKit

theorem or_bit (g w : Int) (hw : wrB w = true) (h : tookB g w = false) (h0 : -9223372036854775808 ≤ g) (h1 : g ≤ 9223372036854775807) : bits .or .i64 g (IntKind.i64.wrap (2 ^ w.toNat)) = g + 2 ^ w.toNat := by
  have hw' : 0 ≤ w ∧ w ≤ 3 := by simpa [wrB] using hw
  obtain ⟨k, rfl⟩ := Int.eq_ofNat_of_zero_le hw'.1
  have hk : k ≤ 3 := by omega
  have hf := add_fits hw h h1
  have e : IntKind.i64.wrap ((2 : Int) ^ (k : Int).toNat) = 2 ^ k := by
    rcases (show k = 0 ∨ k = 1 ∨ k = 2 ∨ k = 3 by omega) with rfl | rfl | rfl | rfl <;> decide
  rw [tookB, hw, Bool.true_and, bitB, Int.toNat_natCast] at h
  have h' : ¬ g / 2 ^ k % 2 = 1 := by simpa using h
  have h2 : (BitVec.ofInt 64 (2 ^ k)).toNat = 2 ^ k := by
    rcases (show k = 0 ∨ k = 1 ∨ k = 2 ∨ k = 3 by omega) with rfl | rfl | rfl | rfl <;> decide
  have hz : BitVec.ofInt 64 g &&& BitVec.ofInt 64 (2 ^ k) = 0#64 := by
    apply BitVec.eq_of_toNat_eq
    rw [BitVec.toNat_and, BitVec.toNat_ofInt, h2, nat_bit]
    rcases (show k = 0 ∨ k = 1 ∨ k = 2 ∨ k = 3 by omega) with rfl | rfl | rfl | rfl <;> simp at h' ⊢ <;> omega
  rw [e, Int.toNat_natCast] at *
  show IntKind.i64.wrap ((BitVec.ofInt 64 g ||| BitVec.ofInt 64 (2 ^ k)).toNat : Nat) = _
  rw [← BitVec.add_eq_or_of_and_eq_zero _ _ hz, BitVec.toNat_add, h2, BitVec.toNat_ofInt, IntKind.wrap_i64]
  rcases (show k = 0 ∨ k = 1 ∨ k = 2 ∨ k = 3 by omega) with rfl | rfl | rfl | rfl <;> simp at hf ⊢ <;> omega

theorem wrapEq (x : Int) : IntKind.i64.wrap x = wrap64 x := by rw [IntKind.wrap_i64]; unfold wrap64; omega

/-- The end of a function whose result is a byte: what its block holds. -/
theorem char_end {fn : Func} {p : Tmp} {R : Ending → World → Prop} {a : Act} {w : World} {B : Nat} {x : Ch} (hf : fn.results = #[.cell p 65]) (h : w.heap[B]? = some (.cells (chCells x).toArray 65 (0, 0))) (h2 : a.tmps.getD p undef = .pointer (some ⟨B, 0, none⟩)) (hd : a.defers = [])
    (hR : R (.returned (chV x)) w) : bodyPost Try.prog fn R Exit.ret a w :=
  bodyPost_ret (results_cell_row hf _ _ B 65 (chCells x).toArray (0, 0) _ h2 h Try.underlying65 rfl (by kernel_rfl)) hd hR

theorem last_heap (w : World) (o1 o2 : Obj) : ((w.alloc o1).alloc o2).drew.heap[w.heap.size + 1]? = some o2 := by
  have h : ((w.alloc o1).alloc o2).heap[(w.alloc o1).heap.size]? = some o2 := heap_alloc_new (w.alloc o1) o2
  have e : (w.alloc o1).heap.size = w.heap.size + 1 := by simp
  rw [e] at h
  exact h

theorem ret_ch {x y : Ch} (h : x = y) : Ending.returned (chV x) = .returned (chV y) := by rw [h]

set_option maxRecDepth 20000 in
set_option maxHeartbeats 800000 in
theorem taken_any (x : Ch) (by_ number : Int) (w : World) (hw : wrB by_ = true) (ht : tookB x.gone by_ = false) (h0 : -9223372036854775808 ≤ x.gone) (h1 : x.gone ≤ 9223372036854775807) :
    Calls Try.prog 93 #[chV x, .int .i64 by_, .int .i64 number] w fun e w' => e = .returned (chV (mark by_ number x)) ∧ Below w.heap.size w w' := by
  have HO : Hid (bits .or .i64 x.gone (wrap64 (2 ^ by_.toNat)) = x.gone + 2 ^ by_.toNat) := by
    show bits .or .i64 x.gone (wrap64 (2 ^ by_.toNat)) = _
    rw [← wrapEq]
    exact or_bit x.gone by_ hw ht h0 h1
  have hb : 0 ≤ by_ ∧ by_ ≤ 3 := by simpa [wrB] using hw
  obtain ⟨hb0, hb3⟩ := hb
  have HB : Hid (∀ o1 o2, Below w.heap.size w ((w.alloc o1).alloc o2)) := fun o1 o2 => ((Below.refl _ _).alloc (Nat.le_refl _) _).alloc (by simp) _
  by_cases hn : number = openN
  · have HM : Hid (mark by_ number x = ⟨x.c, x.by_, x.no, x.k, x.inn, x.out, x.gone + 2 ^ by_.toNat⟩) := by
      show mark by_ number x = _
      rw [mark, markOut, if_neg (by simp [hn])]
    have hn' : (number != 1073741824) = false := by simp [hn]
    obtain ⟨c, b, no, k, i, o, g⟩ := x
    simp only at HO HM 
    clear hn hw ht h0 h1
    go_enter Try.func93, Try.ntmps93
    go_wp2
    go_region
    rw [HO.out]
    go_wp2
    exact char_end (x := ⟨c, b, no, k, i, o, g + 2 ^ by_.toNat⟩) rfl (last_heap w _ _) rfl rfl ⟨ret_ch HM.out.symm, (HB.out _ _).drew⟩
  · have hn' : (number != 1073741824) = true := by simp; exact hn
    by_cases ho : x.out = 0
    · have HM : Hid (mark by_ number x = ⟨x.c, x.by_, x.no, x.k, x.inn, number, x.gone + 2 ^ by_.toNat⟩) := by
        show mark by_ number x = _
        rw [mark, markOut, if_pos ⟨hn, .inl ho⟩]
      have ho' : (x.out == 0) = true := by simp [ho]
      obtain ⟨c, b, no, k, i, o, g⟩ := x
      simp only at HO HM ho'
      clear hn ho hw ht h0 h1
      go_enter Try.func93, Try.ntmps93
      go_wp2
      go_region
      rw [HO.out]
      go_wp2
      exact char_end (x := ⟨c, b, no, k, i, number, g + 2 ^ by_.toNat⟩) rfl (last_heap w _ _) rfl rfl ⟨ret_ch HM.out.symm, (HB.out _ _).drew⟩
    · have ho' : (x.out == 0) = false := by simp [ho]
      by_cases hl : number < x.out
      · have HM : Hid (mark by_ number x = ⟨x.c, x.by_, x.no, x.k, x.inn, number, x.gone + 2 ^ by_.toNat⟩) := by
          show mark by_ number x = _
          rw [mark, markOut, if_pos ⟨hn, .inr hl⟩]
        
        obtain ⟨c, b, no, k, i, o, g⟩ := x
        simp only at HO HM ho' hl
        clear hn ho hw ht h0 h1
        go_enter Try.func93, Try.ntmps93
        go_wp2
        go_region
        rw [HO.out]
        go_wp2
        exact char_end (x := ⟨c, b, no, k, i, number, g + 2 ^ by_.toNat⟩) rfl (last_heap w _ _) rfl rfl ⟨ret_ch HM.out.symm, (HB.out _ _).drew⟩
      · have HM : Hid (mark by_ number x = ⟨x.c, x.by_, x.no, x.k, x.inn, x.out, x.gone + 2 ^ by_.toNat⟩) := by
          show mark by_ number x = _
          rw [mark, markOut, if_neg (fun e => by rcases e.2 with e | e; exact ho e; exact hl e)]
        
        obtain ⟨c, b, no, k, i, o, g⟩ := x
        simp only at HO HM ho' hl
        clear hn ho hw ht h0 h1
        go_enter Try.func93, Try.ntmps93
        go_wp2
        go_region
        rw [HO.out]
        go_wp2
        exact char_end (x := ⟨c, b, no, k, i, o, g + 2 ^ by_.toNat⟩) rfl (last_heap w _ _) rfl rfl ⟨ret_ch HM.out.symm, (HB.out _ _).drew⟩

end Go.Proofs.Ytebhbhcjfnohmab
