/-
  The law DeskJoins.
-/
import Derived.Test.YtcbnnfeelhlapadGreatDoorKJh
namespace Go.Proofs.YtcbnnfeelhlapadGreatDoor
set_option maxRecDepth 20000
open Go Go.RowKit
theorem faultFrom_app : ∀ (a b : List (List UInt8)) (i : Nat), (faultFrom i (a ++ b)).1 = 0 ↔ (faultFrom i a).1 = 0 ∧ (faultFrom (i + a.length) b).1 = 0
 | [], b, i => by simp [faultFrom]
 | s :: a, b, i => by
  rw [List.cons_append, faultFrom, faultFrom]
  by_cases hs : hasNl s = true
  ·rw [if_pos hs, if_pos hs]; simp
  ·rw [if_neg hs, if_neg hs, faultFrom_app a b (i + 1), List.length_cons, show i + 1 + a.length = i + (a.length + 1) by omega]
theorem faultFrom_any : ∀ (a : List (List UInt8)) (i j : Nat), (faultFrom i a).1 = (faultFrom j a).1
 | [], _, _ => rfl
 | s :: a, i, j => by
  rw [faultFrom, faultFrom]
  by_cases hs : hasNl s = true
  ·rw [if_pos hs, if_pos hs]
  ·rw [if_neg hs, if_neg hs]; exact faultFrom_any a _ _
theorem fault_join {L : List (List UInt8)} (h : L.length ≤ 150) (k : Nat) : (faultK L).1 = 0 ↔ (faultK (L.take k)).1 = 0 ∧ (faultK (L.drop k)).1 = 0 := by
 have h1 : ¬ 150 < L.length := by omega
 have h2 : ¬ 150 < (L.take k).length := by rw [List.length_take]; omega
 have h3 : ¬ 150 < (L.drop k).length := by rw [List.length_drop]; omega
 rw [fault_few h1, fault_few h2, fault_few h3]
 have := faultFrom_app (L.take k) (L.drop k) 0
 rw [List.take_append_drop] at this
 rw [this, faultFrom_any (L.drop k) _ 0]
theorem outK_join {L : List (List UInt8)} (h : L.length ≤ 150) (hf : (faultK L).1 = 0) (k : Nat) : (outK twn0 (L.take k)).1 ++ (outK (outK twn0 (L.take k)).2 (L.drop k)).1 = (outK twn0 L).1 := by
 obtain ⟨h1, h2⟩ := (fault_join h k).1 hf
 have e : ∀ t, outK t (L.drop k) = doK t (L.drop k) := fun t => if_pos h2
 rw [show outK twn0 (L.take k) = doK twn0 (L.take k) from if_pos h1, e, show outK twn0 L = doK twn0 L from if_pos hf]
 have := doK_app (L.take k) (L.drop k) twn0
 rw [List.take_append_drop] at this
 rw [this]
theorem elem_strs : Tryz.prog.elem 22 = 9 := by kernel_rfl
theorem und_strs : Tryz.prog.underlying 22 = some (.slice (Tryz.prog.elem 22)) := by kernel_rfl
theorem size_str (w : World) : (sizeOf 9).run Tryz.prog w = .ok 1 w := by
 obtain ⟨i0, hi, _, hz1, _⟩ := info_parts infoStr
 simp [sizeOf, typeInfo, hi, hz1]
theorem take_strs {W : World} {a : Option Addr} {cap k : Nat} {ls : List ByteArray} (h : StrLst W (.slice a ls.length cap) ls) (hk : k ≤ ls.length) : ∃ aa na ca, (∀ w, (Instr.sliceAt 22 (.slice a ls.length cap) none (some (.int .i64 k)) none).run Tryz.prog w = .ok (.slice aa na ca) w) ∧ StrLst W (.slice aa na ca) (ls.take k) := by
 obtain ⟨a', len, cap', he, h1, h2, h3⟩ := h
 simp only [Value.slice.injEq] at he
 obtain ⟨rfl, rfl, rfl⟩ := he
 refine ⟨_, _, _, fun w => by rw [run_sliceAt_slice _ _ _ _ _ _ und_strs, run_slice_h _ _ _ _ _ und_strs _ _ (by omega) (by omega), elem_strs, size_str]; rfl, ?_⟩
 refine ⟨_, k - 0, cap - 0, rfl, by rw [List.length_take]; omega, by omega, ?_⟩
 rcases h3 with h3 | ⟨b, off, rfl, hr⟩
 ·exact .inl (by omega)
 ·by_cases hc : k = 0
  ·exact .inl (by omega)
  ·rw [if_neg (by omega)]
   refine .inr ⟨b, off, by simp [addr_add], hr.lt, fun i hi => ?_⟩
   rw [List.length_take] at hi
   rw [hr.cell i (by omega), List.getElem_take]
theorem drop_strs {W : World} {a : Option Addr} {cap k : Nat} {ls : List ByteArray} (h : StrLst W (.slice a ls.length cap) ls) (hk : k ≤ ls.length) : ∃ aa na ca, (∀ w, (Instr.sliceAt 22 (.slice a ls.length cap) (some (.int .i64 k)) none none).run Tryz.prog w = .ok (.slice aa na ca) w) ∧ StrLst W (.slice aa na ca) (ls.drop k) := by
 obtain ⟨a', len, cap', he, h1, h2, h3⟩ := h
 simp only [Value.slice.injEq] at he
 obtain ⟨rfl, rfl, rfl⟩ := he
 refine ⟨_, _, _, fun w => by rw [run_sliceAt_slice _ _ _ _ _ _ und_strs, run_slice_l _ _ _ _ _ und_strs _ _ (by omega) (by omega), elem_strs, size_str]; rfl, ?_⟩
 refine ⟨_, ls.length - k, cap - k, rfl, by rw [List.length_drop], by omega, ?_⟩
 rcases h3 with h3 | ⟨b, off, rfl, hr⟩
 ·exact .inl (by omega)
 ·by_cases hc : cap = k
  ·exact .inl (by omega)
  ·rw [Int.toNat_natCast, if_neg hc]
   refine .inr ⟨b, off + k * 1, by simp [addr_add], hr.lt, fun i hi => ?_⟩
   rw [List.length_drop] at hi
   rw [show off + k * 1 + i = off + (k + i) by omega, hr.cell (k + i) (by omega), List.getElem_drop]
theorem cutN_at (cut : Int) (n : Nat) (hn : n ≤ 1000) : ∃ k : Nat, wrap64 ((IntKind.u64.wrap cut).tmod ((n : Int) + 1)) = k ∧ k ≤ n := by
 have h0 : 0 ≤ IntKind.u64.wrap cut := by rw [IntKind.wrap_u64]; omega
 rw [Int.tmod_eq_emod_of_nonneg h0]
 have h1 := Int.emod_nonneg (IntKind.u64.wrap cut) (show (n : Int) + 1 ≠ 0 by omega)
 have h2 := Int.emod_lt_of_pos (IntKind.u64.wrap cut) (show 0 < (n : Int) + 1 by omega)
 generalize IntKind.u64.wrap cut % ((n : Int) + 1) = m at *
 refine ⟨m.toNat, ?_, by omega⟩
 unfold wrap64
 omega
set_option maxHeartbeats 6400000 in
theorem law_joins (W : World) (hR : Ready W) {v : Value} {ls : List ByteArray} (hl : StrLst W v ls) (hz : ∀ s ∈ ls, s.size ≤ 140737488355328) (cut : Int) :
 Calls Tryz.prog 4 #[v, .int .i64 cut] W fun e w' => e = .returned (.bool true) ∧ Below W.heap.size W w' := by
 have HL : Hid (StrLst W v ls) := hl
 have HZ : Hid (∀ s ∈ ls, s.size ≤ 140737488355328) := hz
 have HR : Hid (Ready W) := hR
 obtain ⟨a, cap, rfl, hcap⟩ := hl.len
 clear hl hz hR
 go_enter Tryz.func4, Tryz.ntmps4
 go_wp2_with fail
 refine (kbegun_any W HR.out).mono ?_
 rintro e w1 ⟨rfl, hb⟩
 have H1 : Hid (Jn W (fun _ => Th.no _) w1) := (jn_start W).after hb
 clear hb
 by_cases hn : 150 < ls.length
 ·have hni : (150 : Int) < (ls.length : Int) := by omega
  go_wp2_with fail
  go_ret
  exact ⟨rfl, H1.out.below⟩
 have hni : ¬ (150 : Int) < (ls.length : Int) := by omega
 go_wp2_with fail
 refine (slow_any (HL.out.below H1.out.below) (by omega) HZ.out).mono ?_
 rintro e w2 ⟨g, rfl, hg, rfl⟩
 cases g
 case true =>
  go_wp2_with fail
  go_ret
  exact ⟨rfl, H1.out.below⟩
 have HSZ : Hid (∀ s ∈ ls, s.size ≤ 10000) := hg rfl
 clear hg HZ
 go_upto_region 6 with fail
 obtain ⟨k, hk, hkn⟩ := cutN_at cut ls.length (by omega)
 rw [hk]
 have HLL : Hid ((ls.map (·.data.toList)).length = ls.length) := List.length_map ..
 have HFJ : Hid ((faultK (ls.map (·.data.toList))).1 = 0 ↔ (faultK ((ls.take k).map (·.data.toList))).1 = 0 ∧ (faultK ((ls.drop k).map (·.data.toList))).1 = 0) := by
  show _ ↔ _
  rw [List.map_take, List.map_drop]
  exact fault_join (by rw [HLL.out]; omega) k
 have HOJ : Hid ((faultK (ls.map (·.data.toList))).1 = 0 → (outK twn0 ((ls.take k).map (·.data.toList))).1 ++ (outK (outK twn0 ((ls.take k).map (·.data.toList))).2 ((ls.drop k).map (·.data.toList))).1 = (outK twn0 (ls.map (·.data.toList))).1) := fun hf => by
  rw [List.map_take, List.map_drop]
  exact outK_join (by rw [HLL.out]; omega) hf k
 obtain ⟨ta, tn, tc, hrt, htl⟩ := take_strs HL.out hkn
 obtain ⟨da, dn, dc, hrd, hdl⟩ := drop_strs HL.out hkn
 have HTL : Hid (StrLst W (.slice ta tn tc) (ls.take k) ∧ ∀ s ∈ ls.take k, s.size ≤ 10000) := ⟨htl, fun s hs => HSZ.out s (List.mem_of_mem_take hs)⟩
 have HDL : Hid (StrLst W (.slice da dn dc) (ls.drop k) ∧ ∀ s ∈ ls.drop k, s.size ≤ 10000) := ⟨hdl, fun s hs => HSZ.out s (List.mem_of_mem_drop hs)⟩
 have HTN : Hid ((ls.take k).length ≤ 150 ∧ (ls.drop k).length ≤ 150) := by rw [List.length_take, List.length_drop]; exact ⟨by omega, by omega⟩
 generalize hx1 : (ls.take k).map (·.data.toList) = X1 at *
 generalize hx2 : (ls.drop k).map (·.data.toList) = X2 at *
 generalize hx3 : ls.map (·.data.toList) = X3 at *
 have HX1 : Hid ((ls.take k).map (·.data.toList) = X1) := hx1
 have HX2 : Hid ((ls.drop k).map (·.data.toList) = X2) := hx2
 have HX3 : Hid (ls.map (·.data.toList) = X3) := hx3
 clear htl hdl hk hx1 hx2 hx3
 go_wp2_with fail
 refine (H1.out.new 1 (by decide)).mono ?_
 rintro e w3 ⟨R1, rfl, D1, G1, p1, h3⟩
 have H3 : Hid (Jn W (updT (fun _ => Th.no _) 1 (Th.kd W.heap.size R1 D1 G1 p1 twn0)) w3) := h3
 clear h3 H1
 go_wp2_with fail
 refine (H3.out.new 2 (by decide)).mono ?_
 rintro e w4 ⟨R2, rfl, D2, G2, p2, h4⟩
 have H4 : Hid (Jn W (updT (updT (fun _ => Th.no _) 1 (Th.kd W.heap.size R1 D1 G1 p1 twn0)) 2 (Th.kd W.heap.size R2 D2 G2 p2 twn0)) w4) := h4
 clear h4 H3
 go_wp2_with fail
 refine (H4.out.done (i := 1) (by decide) rfl HR.out HTL.out.1 HTL.out.2).mono ?_
 rintro e w5 ⟨rfl, hln1, p3, h5⟩
 rw [HX1.out] at hln1 h5 ⊢
 have hlt : (ls.take k).length ≤ 150 := HTN.out.1
 have hldr : (ls.drop k).length ≤ 150 := HTN.out.2
 obtain ⟨c1, hc1⟩ : ∃ c, (faultK X1).1 = c := ⟨_, rfl⟩
 obtain ⟨i1, hi1⟩ : ∃ c, (faultK X1).2 = c := ⟨_, rfl⟩
 obtain ⟨s1, hs1⟩ : ∃ c, bl (outK twn0 X1).1 = c := ⟨_, rfl⟩
 have hz1 : s1.size ≤ 4500000 := by rw [← hs1]; show (outK twn0 X1).1.length ≤ _; omega
 have HF1 : Hid ((faultK X1).1 = c1) := hc1
 have HS1 : Hid (bl (outK twn0 X1).1 = s1) := hs1
 have H5 : Hid (Jn W (updT (updT (updT (updT (fun _ => Th.no _) 1 (Th.kd W.heap.size R1 D1 G1 p1 twn0)) 2 (Th.kd W.heap.size R2 D2 G2 p2 twn0)) 1 (Th.kd W.heap.size R1 D1 G1 p3 (outK twn0 X1).2)) 3 (Th.ft W.heap.size w5.heap.size c1 i1)) (w5.alloc (.cells #[.int .i64 c1, .int .i64 i1] 31))) := h5.fault 3 (by decide) c1 i1
 rw [hc1, hi1, hs1]
 clear hc1 hi1 hs1 h5 hln1 H4 hlt
 go_upto_region 8 with fail
 generalize w5.heap.size = B1 at *
 generalize w5.alloc (.cells #[.int .i64 c1, .int .i64 i1] 31) = w6 at *
 go_wp2_with fail
 refine (H5.out.done (i := 2) (by decide) rfl HR.out HL.out HSZ.out).mono ?_
 rintro e w7 ⟨rfl, hln3, p4, h7⟩
 rw [HX3.out] at hln3 h7 ⊢
 obtain ⟨c3, hc3⟩ : ∃ c, (faultK X3).1 = c := ⟨_, rfl⟩
 obtain ⟨i3, hi3⟩ : ∃ c, (faultK X3).2 = c := ⟨_, rfl⟩
 obtain ⟨s3, hs3⟩ : ∃ c, bl (outK twn0 X3).1 = c := ⟨_, rfl⟩
 have HF3 : Hid ((faultK X3).1 = c3) := hc3
 have HS3 : Hid (bl (outK twn0 X3).1 = s3) := hs3
 have h7' := h7.fault 4 (by decide) c3 i3
 rw [hc3, hi3, hs3]
 clear hc3 hi3 hs3 h7 hln3
 have H7 : Hid (Jn W _ _) := h7'
 clear h7' H5
 go_upto_region 9 with fail
 generalize w7.heap.size = B3 at *
 generalize w7.alloc (.cells #[.int .i64 c3, .int .i64 i3] 31) = w8 at *
 go_wp2_with fail
 refine (H7.out.done (i := 1) (by decide) rfl HR.out HDL.out.1 HDL.out.2).mono ?_
 rintro e w9 ⟨rfl, hln2, p5, h9⟩
 rw [HX2.out] at hln2 h9 ⊢
 obtain ⟨c2, hc2⟩ : ∃ c, (faultK X2).1 = c := ⟨_, rfl⟩
 obtain ⟨i2, hi2⟩ : ∃ c, (faultK X2).2 = c := ⟨_, rfl⟩
 obtain ⟨s2, hs2⟩ : ∃ c, bl (outK (outK twn0 X1).2 X2).1 = c := ⟨_, rfl⟩
 have hz2 : s2.size ≤ 4500000 := by rw [← hs2]; show (outK (outK twn0 X1).2 X2).1.length ≤ _; omega
 have h9' := h9.fault 5 (by decide) c2 i2
 rw [hc2, hi2, hs2]
 have HFC : Hid (c3 = 0 ↔ c1 = 0 ∧ c2 = 0) := by show _ ↔ _; rw [← HF3.out, ← HF1.out, ← hc2]; exact HFJ.out
 have HSC : Hid (c3 = 0 → s1 ++ s2 = s3) := fun h => by
  rw [← HS1.out, ← HS3.out, ← hs2, ← HOJ.out (HF3.out.trans h)]
  exact bl_app _ _
 clear hc2 hi2 hs2 h9 hln2 HF1 HF3 HFJ HOJ HS1
 obtain ⟨f1, g1⟩ := h9'.code (i := 3) (by decide) rfl
 obtain ⟨f3, g3⟩ := h9'.code (i := 4) (by decide) rfl
 obtain ⟨f2, g2⟩ := h9'.code (i := 5) (by decide) rfl
 have H9 : Hid (Jn W _ _) := h9'
 clear h9' H7
 go_upto_region 10 with fail
 generalize w9.heap.size = B2 at *
 generalize w9.alloc (.cells #[.int .i64 c2, .int .i64 i2] 31) = wa at *
 by_cases h3 : c3 = 0
 ·obtain ⟨rfl, rfl⟩ := HFC.out.1 h3
  subst h3
  have HSS : Hid (s1 ++ s2 = s3) := HSC.out rfl
  clear HSC HFC
  go_upto_region 12 with fail
  go_wp2_with fail
  refine (H9.out.new 6 (by decide)).mono ?_
  rintro e wb ⟨R6, rfl, D6, G6, p6, hb⟩
  have HB : Hid (Jn W _ wb) := hb
  clear hb H9 f1 f2 f3 g1 g2 g3
  go_wp2_with fail
  refine (HB.out.done (i := 6) (by decide) rfl HR.out HL.out HSZ.out).mono ?_
  rintro e wc ⟨rfl, hln4, p7, hc⟩
  rw [HX3.out] at hc ⊢
  rw [HS3.out]
  obtain ⟨c4, hc4⟩ : ∃ c, (faultK X3).1 = c := ⟨_, rfl⟩
  obtain ⟨i4, hi4⟩ : ∃ c, (faultK X3).2 = c := ⟨_, rfl⟩
  rw [hc4, hi4]
  have hc' := hc.fault 7 (by decide) c4 i4
  obtain ⟨f1, g1⟩ := hc'.code (i := 3) (by decide) rfl
  obtain ⟨f2, g2⟩ := hc'.code (i := 5) (by decide) rfl
  have HC : Hid (Jn W _ _) := hc'
  clear hc4 hi4 hc hc' HB hln4
  go_upto_region 13 with fail
  generalize wc.heap.size = B4 at *
  generalize wc.alloc (.cells #[.int .i64 c4, .int .i64 i4] 31) = wd at *
  have hq : (s1 ++ s2).toList = s3.toList := congrArg _ HSS.out
  go_wp2_with fail
  go_ret
  exact ⟨rfl, HC.out.below⟩
 ·by_cases h1 : c1 = 0
  ·have h2 : c2 ≠ 0 := fun e => h3 (HFC.out.2 ⟨h1, e⟩)
   subst h1
   go_wp2_with fail
   go_ret
   refine ⟨?_, H9.out.below⟩
   show Ending.returned (.bool (c2 != 0)) = _
   rw [bne_iff_ne.2 h2]
  ·go_wp2_with fail
   go_ret
   exact ⟨rfl, H9.out.below⟩
end Go.Proofs.YtcbnnfeelhlapadGreatDoor
