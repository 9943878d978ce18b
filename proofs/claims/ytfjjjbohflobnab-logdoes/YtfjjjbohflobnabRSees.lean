/-
  The document's own KnowsIn, KnowsOut, Sees and ViewOf: their contracts, over bytes whose Out is not below 0.
-/
import Derived.Test.YtfjjjbohflobnabRPlain
import Derived.Test.YtfjjjbohflobnabFMem
namespace Go.Proofs.Ytfjjjbohflobnab
open Go.RowKit

set_option maxHeartbeats 400000 in
theorem knowsIn_any (x : Ch) (seen by_ : Int) (w : World) :
    Calls Try.prog 74 #[chV x, .int .i64 seen, .int .i64 by_] w fun e w' => e = .returned (.bool (inB x.inn x.by_ seen by_)) ∧ Below w.heap.size w w' := by
  obtain ⟨c, b, no, k, i, o, g⟩ := x
  by_cases h2 : b = by_
  · have h2' : (b == by_) = true := by simp [h2]
    have H2 : Hid (b = by_) := h2
    clear h2
    go_enter Try.func74, Try.ntmps74
    go_wp2
    go_ret
    exact ⟨ret_b (by simp [inB, H2.out]), (Below.refl _ _).alloc (Nat.le_refl _) _⟩
  · have h2' : (b == by_) = false := by simp [h2]
    have H2 : Hid (b ≠ by_) := h2
    clear h2
    go_enter Try.func74, Try.ntmps74
    go_wp2
    go_ret
    exact ⟨ret_b (by have := H2.out; simp [inB, this]), (Below.refl _ _).alloc (Nat.le_refl _) _⟩

set_option maxHeartbeats 400000 in
theorem knowsOut_any (x : Ch) (seen by_ : Int) (w : World) (h0 : 0 ≤ x.out) (hg : -9223372036854775808 ≤ x.gone) (hg' : x.gone ≤ 9223372036854775807) :
    Calls Try.prog 75 #[chV x, .int .i64 seen, .int .i64 by_] w fun e w' => e = .returned (.bool (outB x.out x.gone seen by_)) ∧ Below w.heap.size w w' := by
  obtain ⟨c, b, no, k, i, o, g⟩ := x
  have HE : Hid (∀ t, t = tookB g by_ → (t || (decide (0 < o) && decide (o ≤ seen))) = outB o g seen by_) := fun t e => by rw [e]; exact out_tame h0
  cases ht : tookB g by_
  · have HT : Hid ((decide (0 < o) && decide (o ≤ seen)) = outB o g seen by_) := HE.out false ht.symm
    by_cases h1 : 0 < o
    · have HT1 : Hid (decide (o ≤ seen) = outB o g seen by_) := by show _ = _; rw [← HT.out]; simp [h1]
      clear HE HT
      go_enter Try.func75, Try.ntmps75
      go_wp2_with (go_at_call 84; refine (refTook_any g by_ _ hg hg').mono ?_; rintro e w' ⟨rfl, rfl⟩; rw [ht])
      go_ret
      exact ⟨ret_b HT1.out, (Below.refl _ _).alloc (Nat.le_refl _) _⟩
    · have HT1 : Hid (false = outB o g seen by_) := by show _ = _; rw [← HT.out]; simp [h1]
      clear HE HT
      go_enter Try.func75, Try.ntmps75
      go_wp2_with (go_at_call 84; refine (refTook_any g by_ _ hg hg').mono ?_; rintro e w' ⟨rfl, rfl⟩; rw [ht])
      go_ret
      exact ⟨ret_b HT1.out, (Below.refl _ _).alloc (Nat.le_refl _) _⟩
  · have HT1 : Hid (true = outB o g seen by_) := HE.out true ht.symm
    clear HE
    go_enter Try.func75, Try.ntmps75
    go_wp2_with (go_at_call 84; refine (refTook_any g by_ _ hg hg').mono ?_; rintro e w' ⟨rfl, rfl⟩; rw [ht])
    go_ret
    exact ⟨ret_b HT1.out, (Below.refl _ _).alloc (Nat.le_refl _) _⟩

set_option maxHeartbeats 400000 in
theorem refSees_any (x : Ch) (seen by_ : Int) (w : World) (h0 : 0 ≤ x.out) (hg : -9223372036854775808 ≤ x.gone) (hg' : x.gone ≤ 9223372036854775807) :
    Calls Try.prog 63 #[chV x, .int .i64 seen, .int .i64 by_] w fun e w' => e = .returned (.bool (seesC seen by_ x)) ∧ Below w.heap.size w w' := by
  obtain ⟨c, b, no, k, i, o, g⟩ := x
  cases hi : inB i b seen by_
  · go_enter Try.func63, Try.ntmps63
    go_wp2_with (go_at_call 74; refine (knowsIn_any ⟨c, b, no, k, i, o, g⟩ _ _ _).mono ?_; rintro e w' ⟨rfl, hb⟩; rw [hi])
    go_ret
    exact ⟨ret_b (by simp [seesC, seesB, hi]), below_after ((Below.refl _ _).alloc (Nat.le_refl _) _) hb⟩
  · go_enter Try.func63, Try.ntmps63
    go_wp2_with fail
    refine (knowsIn_any ⟨c, b, no, k, i, o, g⟩ _ _ _).mono ?_
    rintro e w1 ⟨rfl, hb⟩
    rw [hi]
    obtain ⟨hc, hf⟩ := bcell hb
    go_wp2_with fail
    refine (knowsOut_any ⟨c, b, no, k, i, o, g⟩ _ _ _ h0 hg hg').mono ?_
    rintro e w2 ⟨rfl, hb2⟩
    clear hc hf
    go_wp2
    go_ret
    exact ⟨ret_b (by simp [seesC, seesB, hi]), below_after (below_after ((Below.refl _ _).alloc (Nat.le_refl _) _) hb) hb2⟩

theorem strOf_one (x : Int) : strOfNums [x] = strOfNums ([] ++ [x]) := rfl

set_option maxHeartbeats 800000 in
theorem refView_some (b off len cap : Nat) (l : List Ch) (seen by_ : Int) (w : World) (hl : l.length = len) (hm : len ≤ 1000) (hr : Row w b off l) (ht : Tame l) :
    Calls Try.prog 46 #[.slice (some ⟨b, off, none⟩) len cap, .int .i64 seen, .int .i64 by_] w fun e w' => e = .returned (.string (strOfNums (vw l seen by_))) ∧ Below w.heap.size w w' := by
  have HR : Hid (Row w b off l) := hr
  have HL : Hid (l.length = len) := hl
  have HT : Hid (Tame l) := ht
  have hb := hr.lt
  clear hr hl ht
  go_enter Try.func46, Try.ntmps46
  go_wp2
  go_loopw [7, 8] (fun s i wr => ∃ k : Nat, k ≤ len ∧ i = .int .i64 k ∧ s = .string (strOfNums (vw (l.take k) seen by_)) ∧ Hid (Below w.heap.size w wr)) (fun _ i _ => len - (intOf i).toNat)
  case atStart => exact ⟨0, Nat.zero_le _, rfl, rfl, Below.refl _ _⟩
  case round =>
    obtain ⟨k, hk, rfl, rfl, HB⟩ := hrel
    by_cases hlt : k < len
    · have hkl : k < l.length := by rw [HL.out]; exact hlt
      obtain ⟨t1, t2, t3, t4⟩ := tame_get HT.out k hkl
      have hd := vw_le (l.take k) seen by_
      have hle : (l.take k).length ≤ k := List.length_take_le _ _
      have HN : Hid (vw (l.take (k + 1)) seen by_ = vw (l.take k) seen by_ ++ if seesC seen by_ l[k] = true then [l[k].c] else []) := by rw [take_snoc l k hkl]; exact vw_snoc _ _ _ _
      obtain ⟨h0, h1, h2, h3, h4, h5, h6⟩ := (HR.out.below HB.out).at_ k hkl
      have HF : Hid (Row w b off l → ∀ w1, Below w.heap.size w w1 → w1.cell? ⟨b, off + k * 7, none⟩ = some (.int .u8 l[k].c)) := fun hr w1 hb1 => ((hr.below hb1).at_ k hkl).1
      generalize l[k] = x at h0 h1 h2 h3 h4 h5 h6 HN t1 t2 t3 t4 HF
      generalize vw (l.take k) seen by_ = zs at *
      have hz : (strOfNums zs).size ≤ 1000 := by rw [strOfNums_size]; omega
      clear hd hle t2
      go_wp2_with fail
      refine (refSees_any x _ _ _ t1 (by omega) (by omega)).mono ?_
      rintro e w1 ⟨rfl, hb1⟩
      have HB1 : Hid (Below w.heap.size w w1) := below_after HB.out hb1
      have g0 := HF.out HR.out w1 HB1.out
      clear h0 h1 h2 h3 h4 h5 h6 hb1 HF
      cases hs : seesC seen by_ x
      · rw [hs] at HN
        clear g0
        go_wp2
        go_roundw
        case rel => exact ⟨k + 1, by omega, by go_num, by rw [HN.out]; simp, HB1⟩
        case measure => simp [intOf]; omega
      · rw [hs] at HN
        have hown : (w1.alloc (.cells #[.int .u8 x.c] 5)).ownsRow w.heap.size 5 1 (.slice (some ⟨w1.heap.size, 0, none⟩) 1 1) [x.c].length (cells8 [x.c]) :=
          ⟨rfl, .inr ⟨w1.heap.size, 1, #[.int .u8 x.c], rfl, HB1.out.size, heap_alloc_new w1 _, Nat.le_refl _, by unfold maxLen; omega, rfl, rfl⟩⟩
        have hs1 := own_string hown
        have HC : Hid (Below w.heap.size w (w1.alloc (.cells #[.int .u8 x.c] 5))) := HB1.out.alloc HB1.out.size _
        have hsz : (strOfNums [x.c]).size = 1 := strOfNums_size [x.c]
        clear hown
        go_wp2
        go_roundw
        case rel => exact ⟨k + 1, by omega, by go_num, by rw [HN.out, if_pos trivial, strOfNums_app], HC⟩
        case measure => simp [intOf]; omega
    · obtain rfl : k = len := by omega
      have HE : Hid (l.take k = l) := by show _ = _; rw [← HL.out, List.take_length]
      rw [HE.out]
      go_wp2
      go_ret
      exact ⟨rfl, HB.out⟩

set_option maxHeartbeats 400000 in
theorem refView_empty (a : Option Addr) (cap : Nat) (seen by_ : Int) (w : World) :
    Calls Try.prog 46 #[.slice a 0 cap, .int .i64 seen, .int .i64 by_] w fun e w' => e = .returned (.string (strOfNums [])) ∧ Below w.heap.size w w' := by
  go_enter Try.func46, Try.ntmps46
  go_wp2
  refine wp_loop_rounds 1 ?_
  rw [rounds_succ]
  go_wp2
  go_ret
  exact ⟨rfl, Below.refl _ _⟩

theorem refView_lst {w : World} {v : Value} {l : List Ch} (h : Lst w v l) (hl : l.length ≤ 1000) (ht : Tame l) (seen by_ : Int) :
    Calls Try.prog 46 #[v, .int .i64 seen, .int .i64 by_] w fun e w' => e = .returned (.string (strOfNums (vw l seen by_))) ∧ Below w.heap.size w w' := by
  obtain ⟨a, len, cap, rfl, h1, h2, h3⟩ := h
  rcases h3 with rfl | ⟨b, off, rfl, hr⟩
  · obtain rfl : l = [] := List.length_eq_zero_iff.1 h1
    exact refView_empty a cap seen by_ w
  · exact refView_some b off len cap l seen by_ w h1 (by omega) hr ht

end Go.Proofs.Ytfjjjbohflobnab
