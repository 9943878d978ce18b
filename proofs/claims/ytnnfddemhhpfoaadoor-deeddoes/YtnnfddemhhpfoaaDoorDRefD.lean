/-
  The contract of the document's DeedOf.
-/
import Derived.Test.YtnnfddemhhpfoaaDoorDRefP
namespace Go.Proofs.YtnnfddemhhpfoaaDoor
open Go.RowKit

theorem wordV_none {s : ByteArray} (h : cut1 s.data.toList = none) : wordV s = .tuple #[.string s, .string ⟨#[]⟩, .bool false] := by rw [wordV, h]
theorem wordV_some {s : ByteArray} {x y : List UInt8} (h : cut1 s.data.toList = some (x, y)) : wordV s = .tuple #[.string (bl x), .string (bl y), .bool true] := by rw [wordV, h]

set_option maxHeartbeats 400000 in
theorem deedOf_nocut (s : ByteArray) (w : World) (hs : s.size ≤ 1000) (h : cut1 s.data.toList = none) :
    Calls Tryd.prog 10 #[.string s] w fun e w' => e = .returned (.tuple #[ddV (valD (parseD s)), .int .i64 (codeD (parseD s))]) ∧ Below w.heap.size w w' := by
  have HP : Hid _ := parse_nocut h
  have HV : Hid _ := wordV_none h
  have HA0 : Hid _ := at7_start w zeroD
  have HF0 : Hid _ := fr7_start w zeroD
  have HB0 : Hid (Below w.heap.size w (w.alloc (ddObj zeroD))) := (Below.refl _ _).alloc (Nat.le_refl _) _
  unfold ddObj zeroD at HA0 HF0 HB0
  clear h
  go_enter Tryd.func10, Tryd.ntmps10
  go_wp2_with fail
  refine (word_any s _ hs).mono ?_
  rintro e w1 ⟨rfl, hb1⟩
  rw [HV.out]
  have HA1 : Hid _ := HA0.out.below hb1
  have HF1 : Hid _ := HF0.out.below HA0.out.lt hb1
  have HB1 : Hid _ := below_after HB0.out hb1
  obtain ⟨_, c0, c1, c2, c3, c4, c5, c6⟩ := HA1.out
  obtain ⟨f0, f1, f2, f3, f4, f5, f6⟩ := HF1.out
  clear hb1 HA0 HF0 HB0
  go_wp2
  refine deed_end (v := .int .i64 3) rfl (at7_put HA1.out zeroD) rfl rfl rfl ?_
  rw [HP.out]
  exact ⟨rfl, below_put7 HB1.out (Nat.le_refl _) zeroD⟩

set_option maxHeartbeats 400000 in
theorem deedOf_kind (s : ByteArray) (w : World) (hs : s.size ≤ 1000) {k0 r0 : List UInt8} (h : cut1 s.data.toList = some (k0, r0)) (h1 : bl k0 ≠ putS) (h2 : bl k0 ≠ takeS) :
    Calls Tryd.prog 10 #[.string s] w fun e w' => e = .returned (.tuple #[ddV (valD (parseD s)), .int .i64 (codeD (parseD s))]) ∧ Below w.heap.size w w' := by
  have HP : Hid (parseD s = none) := by show parseD s = none; rw [parse_cut h]; exact six_kind h1 h2
  have HV : Hid _ := wordV_some h
  have HA0 : Hid _ := at7_start w zeroD
  have HF0 : Hid _ := fr7_start w zeroD
  have HB0 : Hid (Below w.heap.size w (w.alloc (ddObj zeroD))) := (Below.refl _ _).alloc (Nat.le_refl _) _
  unfold ddObj zeroD at HA0 HF0 HB0
  have hc : ((bl k0).toList == [112, 117, 116]) = false := by rw [ba_beq_list]; exact decide_eq_false h1
  have hc' : ((bl k0).toList == [116, 97, 107, 101]) = false := by rw [ba_beq_list]; exact decide_eq_false h2
  clear h h1 h2
  generalize bl k0 = a0 at *
  go_enter Tryd.func10, Tryd.ntmps10
  go_wp2_with fail
  refine (word_any s _ hs).mono ?_
  rintro e w1 ⟨rfl, hb1⟩
  rw [HV.out]
  have HA1 : Hid _ := HA0.out.below hb1
  have HF1 : Hid _ := HF0.out.below HA0.out.lt hb1
  have HB1 : Hid _ := below_after HB0.out hb1
  obtain ⟨_, c0, c1, c2, c3, c4, c5, c6⟩ := HA1.out
  obtain ⟨f0, f1, f2, f3, f4, f5, f6⟩ := HF1.out
  clear hb1 HA0 HF0 HB0
  go_wp2
  refine deed_end (v := .int .i64 3) rfl (at7_put HA1.out zeroD) rfl rfl rfl ?_
  rw [HP.out]
  exact ⟨rfl, below_put7 HB1.out (Nat.le_refl _) zeroD⟩

theorem three_put {w : World} {B : Nat} {z0 z1 z2 z3 : Int} {tx : ByteArray} (h : At7 w B ⟨1, z0, z1, z2, z3, 0, tx⟩) (v : Int) :
    At7 (((w.setCell ⟨B, 0, none⟩ (.int .i64 2)).setCell ⟨B, 6, none⟩ (.string ⟨#[]⟩)).setCell ⟨B, 5, none⟩ (.int .i64 v)) B ⟨2, z0, z1, z2, z3, v, ⟨#[]⟩⟩ := by
  obtain ⟨hl, c0, c1, c2, c3, c4, c5, c6⟩ := h
  refine ⟨by simpa using hl, ?_, ?_, ?_, ?_, ?_, ?_, ?_⟩
  · simp [go_sem, c0]
  · simp [go_sem, c1]
  · simp [go_sem, c2]
  · simp [go_sem, c3]
  · simp [go_sem, c4]
  · simp [go_sem, c5]
  · simp [go_sem, c6]

set_option maxHeartbeats 4000000 in
theorem deedOf_put (s : ByteArray) (w : World) (hw : Ready w) (hs : s.size ≤ 1000) {k0 r0 : List UInt8} (h : cut1 s.data.toList = some (k0, r0)) (h1 : bl k0 = putS) :
    Calls Tryd.prog 10 #[.string s] w fun e w' => e = .returned (.tuple #[ddV (valD (parseD s)), .int .i64 (codeD (parseD s))]) ∧ Below w.heap.size w w' := by
  have HW : Hid _ := hw
  have HP : Hid (parseD s = ofSix (bl k0 :: (cutK 4 r0).map bl)) := parse_cut h
  have HK : Hid _ := h1
  have HV : Hid _ := wordV_some h
  have HR0 : Hid (r0.length ≤ 1000) := by
    show r0.length ≤ 1000
    have := congrArg List.length (cut1_join h)
    rw [size_list] at this
    simp at this
    omega
  have hc : ((bl k0).toList == [112, 117, 116]) = true := by rw [ba_beq_list]; exact decide_eq_true h1
  have hc' : ((bl k0).toList == [116, 97, 107, 101]) = false := by rw [ba_beq_list, h1]; decide
  clear h h1 hw
  generalize bl k0 = a0 at *
  go_enter Tryd.func10, Tryd.ntmps10
  go_wp2_with fail
  refine (word_any s _ hs).mono ?_
  rintro e w1 ⟨rfl, hb1⟩
  rw [HV.out]
  have HO : Hid _ := o_start hb1
  unfold zero4 at HO
  clear hb1
  go_wp2
  go_loopw [5, 8] (fun t i wr => ∃ (k : Nat) (rest : List UInt8) (ws : List (List UInt8)) (zs : List Int), k ≤ 4 ∧ i = .int .i64 k ∧ t = .string (bl rest) ∧ rest.length ≤ 1000 ∧ ws.length = k ∧ cutK 4 r0 = ws ++ cutK (4 - k) rest ∧ readL (ws.map bl) = some zs ∧ OInv w w1.heap.size zs wr) (fun _ i _ => 4 - (intOf i).toNat)
  case atStart => exact ⟨0, r0, [], [], by omega, rfl, rfl, HR0.out, rfl, rfl, rfl, HO.out⟩
  case round =>
    obtain ⟨k, rest, ws, zs, hk, rfl, rfl, hrl, hwl, hcut, hread, ho⟩ := hrel
    have hzl : zs.length = k := by rw [readL_len _ _ hread, List.length_map]; exact hwl
    have HI : Hid _ := ho
    have HCut : Hid _ := hcut
    have HRead : Hid _ := hread
    have HRl : Hid _ := hrl
    have HWl : Hid _ := hwl
    have HRS : Hid ((bl rest).size ≤ 1000) := by show (bl rest).size ≤ 1000; rw [← size_list, data_bl]; exact hrl
    clear ho hcut hread hrl hwl
    by_cases hlt : k < 4
    · cases hcr : cut1 rest with
      | none =>
        have HV1 : Hid _ := wordV_none (s := bl rest) (by rw [data_bl]; exact hcr)
        have HF : Hid (parseD s = none) := by
          show parseD s = none
          rw [HP.out]
          refine six_few (rest := rest) (ws := ws) ?_ (by rw [HWl.out]; exact hlt)
          rw [HCut.out, cutK_stop hcr]
        clear hcr
        go_wp2_with fail
        refine (word_any (bl rest) _ HRS.out).mono ?_
        rintro e w2 ⟨rfl, hb2⟩
        rw [HV1.out]
        have HI2 : Hid _ := HI.out.after hb2
        clear hb2
        go_wp2_with fail
        refine (number_any (bl rest) _ (HW.out.below HI2.out.below) HRS.out).mono ?_
        rintro e w3 ⟨⟨v, rfl, -⟩, hb3⟩
        have HI3 : Hid _ := HI2.out.after hb3
        clear hb3
        obtain ⟨_, c0, c1, c2, c3, c4, c5, c6⟩ := HI3.out.at_
        obtain ⟨f0, f1, f2, f3, f4, f5, f6⟩ := HI3.out.fr
        go_wp2
        refine deed_end (v := .int .i64 3) rfl (at7_put HI3.out.at_ zeroD) rfl rfl rfl ?_
        rw [HF.out]
        exact ⟨rfl, below_put7 HI3.out.below (Nat.le_refl _) zeroD⟩
      | some p =>
        obtain ⟨x, y⟩ := p
        have HV1 : Hid _ := wordV_some (s := bl rest) (x := x) (y := y) (by rw [data_bl]; exact hcr)
        have hlen := congrArg List.length (cut1_join hcr)
        have hRl := HRl.out
        simp at hlen
        have HXS : Hid ((bl x).size ≤ 1000) := by show (bl x).size ≤ 1000; rw [← size_list, data_bl]; omega
        have HYS : Hid (y.length ≤ 1000) := by show y.length ≤ 1000; omega
        have HC2 : Hid (cutK 4 r0 = ws ++ x :: cutK (3 - k) y) := by
          show cutK 4 r0 = _
          rw [HCut.out, show 4 - k = (3 - k) + 1 by omega, cutK_step hcr]
        clear hcr hlen hRl
        cases hn : num1 (bl x) with
        | none =>
          have HF : Hid (parseD s = none) := by
            show parseD s = none
            rw [HP.out]
            exact six_bad HC2.out (by rw [HWl.out]; exact hlt) hn
          go_wp2_with fail
          refine (word_any (bl rest) _ HRS.out).mono ?_
          rintro e w2 ⟨rfl, hb2⟩
          rw [HV1.out]
          have HI2 : Hid _ := HI.out.after hb2
          clear hb2
          go_wp2_with fail
          refine (number_any (bl x) _ (HW.out.below HI2.out.below) HXS.out).mono ?_
          rintro e w3 ⟨⟨v, rfl, -⟩, hb3⟩
          rw [hn]
          have HI3 : Hid _ := HI2.out.after hb3
          clear hb3 hn
          obtain ⟨_, c0, c1, c2, c3, c4, c5, c6⟩ := HI3.out.at_
          obtain ⟨f0, f1, f2, f3, f4, f5, f6⟩ := HI3.out.fr
          simp only [Option.isSome_none]
          go_wp2
          refine deed_end (v := .int .i64 3) rfl (at7_put HI3.out.at_ zeroD) rfl rfl rfl ?_
          rw [HF.out]
          exact ⟨rfl, below_put7 HI3.out.below (Nat.le_refl _) zeroD⟩
        | some z =>
          have HC3 : Hid (cutK 4 r0 = (ws ++ [x]) ++ cutK (4 - (k + 1)) y) := by
            show cutK 4 r0 = _
            rw [HC2.out, show 4 - (k + 1) = 3 - k by omega]
            simp
          have HR3 : Hid (readL ((ws ++ [x]).map bl) = some (zs ++ [z])) := by
            show readL _ = _
            rw [List.map_append]
            exact readL_snoc _ _ _ _ HRead.out hn
          go_wp2_with fail
          refine (word_any (bl rest) _ HRS.out).mono ?_
          rintro e w2 ⟨rfl, hb2⟩
          rw [HV1.out]
          have HI2 : Hid _ := HI.out.after hb2
          clear hb2
          go_wp2_with fail
          refine (number_any (bl x) _ (HW.out.below HI2.out.below) HXS.out).mono ?_
          rintro e w3 ⟨⟨v, rfl, hv⟩, hb3⟩
          obtain rfl := hv z hn
          rw [hn]
          have HI3 : Hid _ := HI2.out.after hb3
          clear hb3 hn hv
          have c7 := HI3.out.four.c k hlt
          have f7 := HI3.out.four.f k
          simp only [Option.isSome_some]
          go_wp2
          go_roundw
          case rel => exact ⟨k + 1, y, ws ++ [x], zs ++ [v], by omega, by go_num, rfl, HYS.out, by simp [HWl.out], HC3.out, HR3.out, HI3.out.set hzl hlt v⟩
          case measure => simp [intOf]; omega
    · obtain rfl : k = 4 := by omega
      have hcut : cutK 4 r0 = ws ++ [rest] := HCut.out
      have HF : Hid (parseD s = some (putD zs (bl rest))) := by
        show parseD s = _
        rw [HP.out, HK.out]
        exact six_put hcut HWl.out HRead.out
      have n0 := HI.out.four.c 0 (by decide)
      have n1 := HI.out.four.c 1 (by decide)
      have n2 := HI.out.four.c 2 (by decide)
      have n3 := HI.out.four.c 3 (by decide)
      unfold putD at HF
      clear hcut hzl HRead
      have HI' : Hid (OInv w w1.heap.size zs wr) := HI.out
      clear HI
      generalize zs.getD 0 0 = z0 at *
      generalize zs.getD 1 0 = z1 at *
      generalize zs.getD 2 0 = z2 at *
      generalize zs.getD 3 0 = z3 at *
      generalize bl rest = tx at *
      have HX : Hid _ := at7_start wr ⟨1, z0, z1, z2, z3, 0, tx⟩
      have HBX : Hid (Below wr.heap.size wr (wr.alloc (ddObj ⟨1, z0, z1, z2, z3, 0, tx⟩))) := (Below.refl _ _).alloc (Nat.le_refl _) _
      unfold ddObj at HX HBX
      go_wp2_with fail
      clear n0 n1 n2 n3
      refine (fault_any ⟨1, z0, z1, z2, z3, 0, tx⟩ _).mono ?_
      rintro e w4 ⟨rfl, hb4⟩
      have HX4 : Hid _ := HX.out.below hb4
      have hbb := below_after HBX.out hb4
      have HA4 : Hid _ := HI'.out.at_.below hbb
      have HF4 : Hid _ := HI'.out.fr.below HI'.out.at_.lt hbb
      have HB4 : Hid _ := below_after HI'.out.below hbb
      clear hb4 hbb HX HBX HI'
      obtain ⟨_, c0, c1, c2, c3, c4, c5, c6⟩ := HA4.out
      obtain ⟨_, d0, d1, d2, d3, d4, d5, d6⟩ := HX4.out
      obtain ⟨f0, f1, f2, f3, f4, f5, f6⟩ := HF4.out
      by_cases hcd : checkC ⟨1, z0, z1, z2, z3, 0, tx⟩ = 0
      · rw [hcd]
        have HVV : Hid (valD (some ⟨1, z0, z1, z2, z3, 0, tx⟩) = ⟨1, z0, z1, z2, z3, 0, tx⟩) := by show valD _ = _; rw [valD, if_pos hcd]
        have HCC : Hid (codeD (some ⟨1, z0, z1, z2, z3, 0, tx⟩) = 0) := hcd
        clear hcd
        go_wp2
        refine deed_end (v := .int .i64 0) rfl (at7_put HA4.out ⟨1, z0, z1, z2, z3, 0, tx⟩) rfl rfl rfl ?_
        rw [HF.out]
        exact ⟨ret_deed HVV.out.symm HCC.out.symm, below_put7 HB4.out (Nat.le_refl _) ⟨1, z0, z1, z2, z3, 0, tx⟩⟩
      · have HVV : Hid (valD (some ⟨1, z0, z1, z2, z3, 0, tx⟩) = zeroD) := by show valD _ = _; rw [valD, if_neg hcd]
        have hne : (checkC ⟨1, z0, z1, z2, z3, 0, tx⟩ != 0) = true := by simp [hcd]
        clear hcd
        have HCC : Hid (codeD (some ⟨1, z0, z1, z2, z3, 0, tx⟩) = checkC ⟨1, z0, z1, z2, z3, 0, tx⟩) := rfl
        generalize checkC ⟨1, z0, z1, z2, z3, 0, tx⟩ = c at *
        go_wp2
        refine deed_end (v := .int .i64 c) rfl (at7_put HA4.out zeroD) rfl rfl rfl ?_
        rw [HF.out]
        exact ⟨ret_deed HVV.out.symm HCC.out.symm, below_put7 HB4.out (Nat.le_refl _) zeroD⟩

set_option maxHeartbeats 4000000 in
theorem deedOf_take (s : ByteArray) (w : World) (hw : Ready w) (hs : s.size ≤ 1000) {k0 r0 : List UInt8} (h : cut1 s.data.toList = some (k0, r0)) (h1 : bl k0 = takeS) :
    Calls Tryd.prog 10 #[.string s] w fun e w' => e = .returned (.tuple #[ddV (valD (parseD s)), .int .i64 (codeD (parseD s))]) ∧ Below w.heap.size w w' := by
  have HW : Hid _ := hw
  have HP : Hid (parseD s = ofSix (bl k0 :: (cutK 4 r0).map bl)) := parse_cut h
  have HK : Hid _ := h1
  have HV : Hid _ := wordV_some h
  have HR0 : Hid (r0.length ≤ 1000) := by
    show r0.length ≤ 1000
    have := congrArg List.length (cut1_join h)
    rw [size_list] at this
    simp at this
    omega
  have hc : ((bl k0).toList == [112, 117, 116]) = false := by rw [ba_beq_list, h1]; decide
  have hc' : ((bl k0).toList == [116, 97, 107, 101]) = true := by rw [ba_beq_list]; exact decide_eq_true h1
  clear h h1 hw
  generalize bl k0 = a0 at *
  go_enter Tryd.func10, Tryd.ntmps10
  go_wp2_with fail
  refine (word_any s _ hs).mono ?_
  rintro e w1 ⟨rfl, hb1⟩
  rw [HV.out]
  have HO : Hid _ := o_start hb1
  unfold zero4 at HO
  clear hb1
  go_wp2
  go_loopw [5, 8] (fun t i wr => ∃ (k : Nat) (rest : List UInt8) (ws : List (List UInt8)) (zs : List Int), k ≤ 4 ∧ i = .int .i64 k ∧ t = .string (bl rest) ∧ rest.length ≤ 1000 ∧ ws.length = k ∧ cutK 4 r0 = ws ++ cutK (4 - k) rest ∧ readL (ws.map bl) = some zs ∧ OInv w w1.heap.size zs wr) (fun _ i _ => 4 - (intOf i).toNat)
  case atStart => exact ⟨0, r0, [], [], by omega, rfl, rfl, HR0.out, rfl, rfl, rfl, HO.out⟩
  case round =>
    obtain ⟨k, rest, ws, zs, hk, rfl, rfl, hrl, hwl, hcut, hread, ho⟩ := hrel
    have hzl : zs.length = k := by rw [readL_len _ _ hread, List.length_map]; exact hwl
    have HI : Hid _ := ho
    have HCut : Hid _ := hcut
    have HRead : Hid _ := hread
    have HRl : Hid _ := hrl
    have HWl : Hid _ := hwl
    have HRS : Hid ((bl rest).size ≤ 1000) := by show (bl rest).size ≤ 1000; rw [← size_list, data_bl]; exact hrl
    clear ho hcut hread hrl hwl
    by_cases hlt : k < 4
    · cases hcr : cut1 rest with
      | none =>
        have HV1 : Hid _ := wordV_none (s := bl rest) (by rw [data_bl]; exact hcr)
        have HF : Hid (parseD s = none) := by
          show parseD s = none
          rw [HP.out]
          refine six_few (rest := rest) (ws := ws) ?_ (by rw [HWl.out]; exact hlt)
          rw [HCut.out, cutK_stop hcr]
        clear hcr
        go_wp2_with fail
        refine (word_any (bl rest) _ HRS.out).mono ?_
        rintro e w2 ⟨rfl, hb2⟩
        rw [HV1.out]
        have HI2 : Hid _ := HI.out.after hb2
        clear hb2
        go_wp2_with fail
        refine (number_any (bl rest) _ (HW.out.below HI2.out.below) HRS.out).mono ?_
        rintro e w3 ⟨⟨v, rfl, -⟩, hb3⟩
        have HI3 : Hid _ := HI2.out.after hb3
        clear hb3
        obtain ⟨_, c0, c1, c2, c3, c4, c5, c6⟩ := HI3.out.at_
        obtain ⟨f0, f1, f2, f3, f4, f5, f6⟩ := HI3.out.fr
        go_wp2
        refine deed_end (v := .int .i64 3) rfl (at7_put HI3.out.at_ zeroD) rfl rfl rfl ?_
        rw [HF.out]
        exact ⟨rfl, below_put7 HI3.out.below (Nat.le_refl _) zeroD⟩
      | some p =>
        obtain ⟨x, y⟩ := p
        have HV1 : Hid _ := wordV_some (s := bl rest) (x := x) (y := y) (by rw [data_bl]; exact hcr)
        have hlen := congrArg List.length (cut1_join hcr)
        have hRl := HRl.out
        simp at hlen
        have HXS : Hid ((bl x).size ≤ 1000) := by show (bl x).size ≤ 1000; rw [← size_list, data_bl]; omega
        have HYS : Hid (y.length ≤ 1000) := by show y.length ≤ 1000; omega
        have HC2 : Hid (cutK 4 r0 = ws ++ x :: cutK (3 - k) y) := by
          show cutK 4 r0 = _
          rw [HCut.out, show 4 - k = (3 - k) + 1 by omega, cutK_step hcr]
        clear hcr hlen hRl
        cases hn : num1 (bl x) with
        | none =>
          have HF : Hid (parseD s = none) := by
            show parseD s = none
            rw [HP.out]
            exact six_bad HC2.out (by rw [HWl.out]; exact hlt) hn
          go_wp2_with fail
          refine (word_any (bl rest) _ HRS.out).mono ?_
          rintro e w2 ⟨rfl, hb2⟩
          rw [HV1.out]
          have HI2 : Hid _ := HI.out.after hb2
          clear hb2
          go_wp2_with fail
          refine (number_any (bl x) _ (HW.out.below HI2.out.below) HXS.out).mono ?_
          rintro e w3 ⟨⟨v, rfl, -⟩, hb3⟩
          rw [hn]
          have HI3 : Hid _ := HI2.out.after hb3
          clear hb3 hn
          obtain ⟨_, c0, c1, c2, c3, c4, c5, c6⟩ := HI3.out.at_
          obtain ⟨f0, f1, f2, f3, f4, f5, f6⟩ := HI3.out.fr
          simp only [Option.isSome_none]
          go_wp2
          refine deed_end (v := .int .i64 3) rfl (at7_put HI3.out.at_ zeroD) rfl rfl rfl ?_
          rw [HF.out]
          exact ⟨rfl, below_put7 HI3.out.below (Nat.le_refl _) zeroD⟩
        | some z =>
          have HC3 : Hid (cutK 4 r0 = (ws ++ [x]) ++ cutK (4 - (k + 1)) y) := by
            show cutK 4 r0 = _
            rw [HC2.out, show 4 - (k + 1) = 3 - k by omega]
            simp
          have HR3 : Hid (readL ((ws ++ [x]).map bl) = some (zs ++ [z])) := by
            show readL _ = _
            rw [List.map_append]
            exact readL_snoc _ _ _ _ HRead.out hn
          go_wp2_with fail
          refine (word_any (bl rest) _ HRS.out).mono ?_
          rintro e w2 ⟨rfl, hb2⟩
          rw [HV1.out]
          have HI2 : Hid _ := HI.out.after hb2
          clear hb2
          go_wp2_with fail
          refine (number_any (bl x) _ (HW.out.below HI2.out.below) HXS.out).mono ?_
          rintro e w3 ⟨⟨v, rfl, hv⟩, hb3⟩
          obtain rfl := hv z hn
          rw [hn]
          have HI3 : Hid _ := HI2.out.after hb3
          clear hb3 hn hv
          have c7 := HI3.out.four.c k hlt
          have f7 := HI3.out.four.f k
          simp only [Option.isSome_some]
          go_wp2
          go_roundw
          case rel => exact ⟨k + 1, y, ws ++ [x], zs ++ [v], by omega, by go_num, rfl, HYS.out, by simp [HWl.out], HC3.out, HR3.out, HI3.out.set hzl hlt v⟩
          case measure => simp [intOf]; omega
    · obtain rfl : k = 4 := by omega
      have hcut : cutK 4 r0 = ws ++ [rest] := HCut.out
      have HF : Hid (parseD s = (num1 (bl rest)).map fun m => ⟨2, zs.getD 0 0, zs.getD 1 0, zs.getD 2 0, zs.getD 3 0, m, ⟨#[]⟩⟩) := by
        show parseD s = _
        rw [HP.out, HK.out, six_take hcut HWl.out HRead.out]
        congr 1
        funext m
        exact takeD_snoc hzl
      have n0 := HI.out.four.c 0 (by decide)
      have n1 := HI.out.four.c 1 (by decide)
      have n2 := HI.out.four.c 2 (by decide)
      have n3 := HI.out.four.c 3 (by decide)
      clear hcut hzl HRead
      have HI' : Hid (OInv w w1.heap.size zs wr) := HI.out
      clear HI
      generalize zs.getD 0 0 = z0 at *
      generalize zs.getD 1 0 = z1 at *
      generalize zs.getD 2 0 = z2 at *
      generalize zs.getD 3 0 = z3 at *
      generalize bl rest = tx at *
      have HX : Hid _ := at7_start wr ⟨1, z0, z1, z2, z3, 0, tx⟩
      have HXF : Hid _ := fr7_start wr ⟨1, z0, z1, z2, z3, 0, tx⟩
      have HBX : Hid (Below wr.heap.size wr (wr.alloc (ddObj ⟨1, z0, z1, z2, z3, 0, tx⟩))) := (Below.refl _ _).alloc (Nat.le_refl _) _
      unfold ddObj at HX HBX HXF
      go_wp2_with fail
      clear n0 n1 n2 n3
      refine (number_any tx _ (HW.out.below (below_after HI'.out.below HBX.out)) HRS.out).mono ?_
      rintro e w3 ⟨⟨v, rfl, hv⟩, hb3⟩
      have HX3 : Hid _ := HX.out.below hb3
      have HXF3 : Hid _ := HXF.out.below HX.out.lt hb3
      have hbb := below_after HBX.out hb3
      have HA3 : Hid _ := HI'.out.at_.below hbb
      have HF3 : Hid _ := HI'.out.fr.below HI'.out.at_.lt hbb
      have HB3 : Hid _ := below_after HI'.out.below hbb
      have hlt3 : w.heap.size < wr.heap.size := HI'.out.at_.lt
      clear hb3 hbb HX HBX HI' HXF
      cases hn : num1 tx with
      | none =>
        have HN : Hid (parseD s = none) := by show parseD s = none; rw [HF.out, hn]; rfl
        clear hn hv
        obtain ⟨_, c0, c1, c2, c3, c4, c5, c6⟩ := HA3.out
        obtain ⟨f0, f1, f2, f3, f4, f5, f6⟩ := HF3.out
        simp only [Option.isSome_none]
        go_wp2
        refine deed_end (v := .int .i64 3) rfl (at7_put HA3.out zeroD) rfl rfl rfl ?_
        rw [HN.out]
        exact ⟨rfl, below_put7 HB3.out (Nat.le_refl _) zeroD⟩
      | some m =>
      obtain rfl := hv m hn
      have HN : Hid (parseD s = some ⟨2, z0, z1, z2, z3, v, ⟨#[]⟩⟩) := by show parseD s = _; rw [HF.out, hn]; rfl
      clear hn hv HF
      have HF : Hid (parseD s = some ⟨2, z0, z1, z2, z3, v, ⟨#[]⟩⟩) := HN.out
      obtain ⟨_, d0, d1, d2, d3, d4, d5, d6⟩ := HX3.out
      obtain ⟨g0, g1, g2, g3, g4, g5, g6⟩ := HXF3.out
      have HX5 : Hid _ := three_put HX3.out v
      have HA5 : Hid _ := ((HA3.out.other (Nat.ne_of_gt hlt3) (k := 0) (.int .i64 2)).other (Nat.ne_of_gt hlt3) (k := 6) (.string ⟨#[]⟩)).other (Nat.ne_of_gt hlt3) (k := 5) (.int .i64 v)
      have HF5 : Hid _ := ((HF3.out.other ⟨wr.heap.size, 0, none⟩ (.int .i64 2)).other ⟨wr.heap.size, 6, none⟩ (.string ⟨#[]⟩)).other ⟨wr.heap.size, 5, none⟩ (.int .i64 v)
      have HB5 : Hid _ := ((HB3.out.setCell (p := ⟨wr.heap.size, 0, none⟩) (Nat.le_of_lt hlt3) (.int .i64 2)).setCell (p := ⟨wr.heap.size, 6, none⟩) (Nat.le_of_lt hlt3) (.string ⟨#[]⟩)).setCell (p := ⟨wr.heap.size, 5, none⟩) (Nat.le_of_lt hlt3) (.int .i64 v)
      simp only [Option.isSome_some]
      go_wp2_with fail
      clear d0 d1 d2 d3 d4 d5 d6 g0 g1 g2 g3 g4 g5 g6
      refine (fault_any ⟨2, z0, z1, z2, z3, v, ⟨#[]⟩⟩ _).mono ?_
      rintro e w4 ⟨rfl, hb4⟩
      have HX4 : Hid _ := HX5.out.below hb4
      have HA4 : Hid _ := HA5.out.below hb4
      have HF4 : Hid _ := HF5.out.below HA5.out.lt hb4
      have HB4 : Hid _ := below_after HB5.out hb4
      clear hb4 HX5 HA5 HF5 HB5
      obtain ⟨_, c0, c1, c2, c3, c4, c5, c6⟩ := HA4.out
      obtain ⟨_, d0, d1, d2, d3, d4, d5, d6⟩ := HX4.out
      obtain ⟨f0, f1, f2, f3, f4, f5, f6⟩ := HF4.out
      by_cases hcd : checkC ⟨2, z0, z1, z2, z3, v, ⟨#[]⟩⟩ = 0
      · rw [hcd]
        have HVV : Hid (valD (some ⟨2, z0, z1, z2, z3, v, ⟨#[]⟩⟩) = ⟨2, z0, z1, z2, z3, v, ⟨#[]⟩⟩) := by show valD _ = _; rw [valD, if_pos hcd]
        have HCC : Hid (codeD (some ⟨2, z0, z1, z2, z3, v, ⟨#[]⟩⟩) = 0) := hcd
        clear hcd
        go_wp2
        refine deed_end (v := .int .i64 0) rfl (at7_put HA4.out ⟨2, z0, z1, z2, z3, v, ⟨#[]⟩⟩) rfl rfl rfl ?_
        rw [HF.out]
        exact ⟨ret_deed HVV.out.symm HCC.out.symm, below_put7 HB4.out (Nat.le_refl _) ⟨2, z0, z1, z2, z3, v, ⟨#[]⟩⟩⟩
      · have HVV : Hid (valD (some ⟨2, z0, z1, z2, z3, v, ⟨#[]⟩⟩) = zeroD) := by show valD _ = _; rw [valD, if_neg hcd]
        have hne : (checkC ⟨2, z0, z1, z2, z3, v, ⟨#[]⟩⟩ != 0) = true := by simp [hcd]
        clear hcd
        have HCC : Hid (codeD (some ⟨2, z0, z1, z2, z3, v, ⟨#[]⟩⟩) = checkC ⟨2, z0, z1, z2, z3, v, ⟨#[]⟩⟩) := rfl
        generalize checkC ⟨2, z0, z1, z2, z3, v, ⟨#[]⟩⟩ = c at *
        go_wp2
        refine deed_end (v := .int .i64 c) rfl (at7_put HA4.out zeroD) rfl rfl rfl ?_
        rw [HF.out]
        exact ⟨ret_deed HVV.out.symm HCC.out.symm, below_put7 HB4.out (Nat.le_refl _) zeroD⟩

theorem deedOf_any (s : ByteArray) (w : World) (hw : Ready w) (hs : s.size ≤ 1000) :
    Calls Tryd.prog 10 #[.string s] w fun e w' => e = .returned (.tuple #[ddV (valD (parseD s)), .int .i64 (codeD (parseD s))]) ∧ Below w.heap.size w w' := by
  cases h : cut1 s.data.toList with
  | none => exact deedOf_nocut s w hs h
  | some p =>
    obtain ⟨k0, r0⟩ := p
    by_cases h1 : bl k0 = putS
    · exact deedOf_put s w hw hs h h1
    · by_cases h2 : bl k0 = takeS
      · exact deedOf_take s w hw hs h h2
      · exact deedOf_kind s w hs h h1 h2

end Go.Proofs.YtnnfddemhhpfoaaDoor
