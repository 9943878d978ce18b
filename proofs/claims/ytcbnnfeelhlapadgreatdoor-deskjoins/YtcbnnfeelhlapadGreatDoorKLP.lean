/-
  The desk's reading of a line: numbers, wordsOf, putStep.
-/
import Derived.Test.YtcbnnfeelhlapadGreatDoorKMath
import Derived.Test.YtcbnnfeelhlapadGreatDoorStB
import Derived.Test.YtcbnnfeelhlapadGreatDoorTRel
import Derived.BigRegion
import Derived.RegionTactic
namespace Go.Proofs.YtcbnnfeelhlapadGreatDoor
set_option maxRecDepth 20000
open Go Go.RowKit
def NumsIs (w : World) (ws : List ByteArray) (e : Ending) (w' : World) : Prop :=
 ((∃ zs v, readL ws = some zs ∧ e = .returned (.tuple #[v, .bool true]) ∧ ILst w' v zs) ∨ (readL ws = none ∧ e = .returned (.tuple #[.slice none 0 0, .bool false]))) ∧ Below w.heap.size w w'
structure NuI (w : World) (v : Value) (zs : List Int) (wk : World) : Prop where
 below : Below w.heap.size w wk
 own : OwnI wk w.heap.size v zs
theorem NuI.after {w wk w' : World} {v : Value} {zs : List Int} (h : NuI w v zs wk) (hb : Below wk.heap.size wk w') : NuI w v zs w' := ⟨bla h.below hb, h.own.below hb⟩
theorem NuI.grown {w wr w2 : World} {v v' : Value} {zs : List Int} {z : Int} (h : NuI w v zs wr) (ho : w2.ownsRow w.heap.size 3 1 v' (zs.length + 1) (cellsI zs ++ [.int .i64 z])) (hg : wr.grownBy w2 v.ownBlock) : NuI w v' (zs ++ [z]) w2 := by
 refine ⟨h.below.grown hg (by have := h.below.size; omega) (fun j hj => (World.ownsRow.lt h.own j hj).1), ?_⟩
 unfold OwnI
 rw [cellsI_app, List.length_append]
 exact ho
set_option maxHeartbeats 3200000 in
theorem numbers_any {w : World} {v : Value} {ws : List ByteArray} (h : StrLst w v ws) (hw : Ready w) (hn : ws.length ≤ 1000) (hz : ∀ s ∈ ws, s.size ≤ 100000) :
 Calls Tryz.prog 27 #[v] w fun e w' => NumsIs w ws e w' := by
 have HV : Hid (StrLst w v ws) := h
 have HZ : Hid (∀ s ∈ ws, s.size ≤ 100000) := hz
 have HR : Hid (Ready w) := hw
 have H0 : Hid (NuI w (.slice none 0 0) [] w) := ⟨Below.refl _ _, World.ownsRow_nil _ _ _ _⟩
 obtain ⟨i0, hi0, hz0, hz1, hz2⟩ := info_parts infoInt
 obtain ⟨a, cap, rfl, _⟩ := h.len
 clear h hw hz
 go_enter Tryz.func27, Tryz.ntmps27
 go_wp2_with fail
 go_loopw [4, 11] (fun v i wr => ∃ (k : Nat) (zs : List Int), k ≤ ws.length ∧ i = .int .i64 k ∧ Hid (readL (ws.take k) = some zs) ∧ Hid (NuI w v zs wr)) (fun _ i _ => ws.length - (intOf i).toNat)
 case atStart => exact ⟨0, [], Nat.zero_le _, rfl, rfl, H0.out⟩
 case round =>
  obtain ⟨k, zs, hk, rfl, HT, HW⟩ := hrel
  clear H0
  by_cases hlt : k < ws.length
  ·have hki : (k : Int) < (ws.length : Int) := by omega
   obtain ⟨bb, off, rfl, hst⟩ := (HV.out.below HW.out.below).row (by omega)
   have c0 := hst.cell k hlt
   have hbl := hst.lt
   have HSZ : Hid (ws[k].size ≤ 100000) := HZ.out _ (List.getElem_mem hlt)
   have HNO : Hid (num1 ws[k] = none → readL ws = none) := readL_no ws k hlt
   have HYS : Hid (∀ z, num1 ws[k] = some z → readL (ws.take (k + 1)) = some (zs ++ [z])) := fun z hz => by
    rw [take_snocB ws k hlt]
    exact readL_snoc _ _ _ _ HT.out hz
   have HZL : Hid (zs.length = k) := by show _ = _; rw [readL_len _ _ HT.out, List.length_take]; omega
   generalize ws[k] = s at *
   clear hst
   cases hnum : numAll s with
   | none =>
    have HE : Hid (readL ws = none) := HNO.out (by simp [num1, hnum])
    go_wp2_with fail
    refine (atoi_no s (by have := HSZ.out; omega) hnum _ (HR.out.below HW.out.below)).mono ?_
    rintro e w5 ⟨v5, t5, q5, rfl, _, hb⟩
    have H5 : Hid (Below w.heap.size w w5) := bla HW.out.below hb
    clear hb HW c0 hbl hnum
    go_wp2
    go_ret2
    exact ⟨.inr ⟨HE.out, rfl⟩, H5.out⟩
   | some z =>
    have HIN : Hid (inI z) := numAll_in hnum
    by_cases hs : strI z = s
    ·have HE : Hid (readL (ws.take (k + 1)) = some (zs ++ [z])) := HYS.out z (by simp [num1, hnum, hs])
     go_wp2_with fail
     refine (atoi_ok s z (by have := HSZ.out; omega) hnum _).mono ?_
     rintro e w5 ⟨rfl, hb⟩
     have H5 : Hid (NuI w u4 zs w5) := HW.out.after hb
     clear hb HW c0 hbl
     go_wp2_with fail
     refine (itoa_any z HIN.out _ (HR.out.below H5.out.below)).mono ?_
     rintro e w6 ⟨rfl, hb⟩
     have H6 : Hid (NuI w u4 zs (w6.alloc (.cells #[.int .i64 z] 3))) := (H5.out.after hb).after (below1 _ _)
     rw [hs]
     have hse : (s.toList == s.toList) = true := by simp
     clear hb H5 hs hnum
     go_wp2_with (at_builtin; refine wpList_append_own _ rfl (.tmp 28) (.tmp 30) 79 rfl w.heap.size 3 i0 (.int .i64 0) 1 8 Tryz.underlying79 hi0 hz0 hz1 hz2 rfl (by decide) u4 zs.length (cellsI zs) rfl H6.out.own ⟨w6.heap.size, 0, none⟩ 1 1 [.int .i64 z] (by simp [go_sem]) rfl (src_newI _ _) ?c2 ?c3 ?c4 ?c5 ?_)
     case c2 => intro u hu; simp at hu; subst hu; rfl
     case c3 => have := HZL.out; unfold maxLen; omega
     case c4 => have := HZL.out; omega
     case c5 => exact H6.out.below.size
     intro v' w7 hown' hgrow _
     have H7 : Hid (NuI w v' (zs ++ [z]) w7) := H6.out.grown hown' hgrow
     clear hown' hgrow H6
     go_wp2_with fail
     go_roundw
     case rel => exact ⟨k + 1, zs ++ [z], by omega, by go_num, HE.out, H7.out⟩
     case measure => simp [intOf]; omega
    ·have HE : Hid (readL ws = none) := HNO.out (by simp [num1, hnum, hs])
     go_wp2_with fail
     refine (atoi_ok s z (by have := HSZ.out; omega) hnum _).mono ?_
     rintro e w5 ⟨rfl, hb⟩
     have H5 : Hid (NuI w u4 zs w5) := HW.out.after hb
     clear hb HW c0 hbl
     go_wp2_with fail
     refine (itoa_any z HIN.out _ (HR.out.below H5.out.below)).mono ?_
     rintro e w6 ⟨rfl, hb⟩
     have H6 : Hid (Below w.heap.size w w6) := bla H5.out.below hb
     have hne : ((strI z).toList == s.toList) = false := by rw [ba_beq]; simpa using hs
     generalize strI z = sz at *
     clear hb H5 hnum
     go_wp2
     go_ret2
     exact ⟨.inr ⟨HE.out, rfl⟩, H6.out⟩
  ·obtain rfl : k = ws.length := by omega
   have HE : Hid (readL ws = some zs) := by have := HT.out; rw [List.take_length] at this; exact this
   go_wp2_with fail
   go_ret2
   exact ⟨.inl ⟨zs, u4, HE.out, rfl, HW.out.own.ilst⟩, HW.out.below⟩
def strN (v : Value) : Nat := match v with | .string s => s.size | _ => 0
theorem trim_any (s : ByteArray) (w : World) : Calls Tryz.prog 50 #[.string s, .string ⟨#[32]⟩] w fun e w' => e = .returned (.string (bl (Lib.trimLeftB s.data.toList 32))) ∧ w' = w :=
 Tryz.strings_TrimLeft_one s 32 (by decide) w
theorem cut_any (s : ByteArray) (w : World) (hw : Ready w) (hs : s.size ≤ 100000) : Calls Tryz.prog 51 #[.string s, .string ⟨#[32]⟩] w fun e w' => e = .returned (.tuple #[.string (bl (Lib.cut s.data.toList [32]).1), .string (bl (Lib.cut s.data.toList [32]).2.1), .bool (Lib.cut s.data.toList [32]).2.2]) ∧ Below w.heap.size w w' := by
 obtain ⟨m, hm⟩ := hw.mx
 exact (Tryz.strings_Cut s ⟨#[32]⟩ m w (by omega) hm).mono fun e w' ⟨e1, n, e2⟩ => ⟨e1, by rw [e2]; exact below_drewN (Below.refl _ _) n⟩
set_option maxHeartbeats 3200000 in
theorem wordsOf_any (s : ByteArray) (w : World) (hw : Ready w) (hs : s.size ≤ 100000) :
 Calls Tryz.prog 26 #[.string s] w fun e w' => ∃ v, e = .returned v ∧ OwnS w' w.heap.size v (((wordsOf s.data.toList).take 5).map bl) ∧ Below w.heap.size w w' := by
 have HR : Hid (Ready w) := hw
 have HSZ : Hid (s.data.toList.length ≤ 100000) := hs
 have H0 : Hid (LwI s.data.toList [] (Lib.trimLeftB s.data.toList 32)) := lwI_start _
 have HO0 : Hid (WoI w (.slice none 0 0) ([].map bl) w) := ⟨Below.refl _ _, ownS_nil _ _⟩
 obtain ⟨i0, hi0, hz0, hz1, hz2⟩ := info_parts infoStr
 clear hw hs
 go_enter Tryz.func26, Tryz.ntmps26
 go_wp2_with fail
 refine (trim_any s w).mono ?_
 rintro e w1 ⟨rfl, rfl⟩
 generalize Lib.trimLeftB s.data.toList 32 = rest0 at *
 go_wp2_with fail
 go_loopw [3, 4] (fun v u wr => ∃ (done : List (List UInt8)) (rest : List UInt8), u = .string (bl rest) ∧ Hid (LwI s.data.toList done rest) ∧ Hid (WoI w1 v (done.map bl) wr)) (fun _ u _ => strN u)
 case atStart => exact ⟨[], rest0, rfl, H0.out, HO0.out⟩
 case round =>
  obtain ⟨done, rest, rfl, HT, HW⟩ := hrel
  clear H0 HO0
  obtain ⟨va, vc, hvf, _⟩ := HW.out.own.lst.len
  have HDL : Hid ((done.map bl).length = done.length) := List.length_map ..
  by_cases hr : rest = []
  ·have HE : Hid (done = (wordsOf s.data.toList).take 5) := HT.out.ended (.inl hr)
   subst hr
   have hneb : ((bl []).toList == ([] : List UInt8)) = true := by rw [ba_beq_list]; simp
   obtain ⟨sr, hsr⟩ : ∃ sr, bl [] = sr := ⟨_, rfl⟩
   rw [hsr] at hneb
   rw [hsr]
   clear hsr
   go_wp2
   go_ret
   exact ⟨u3, rfl, by rw [← HE.out]; exact HW.out.own, HW.out.below⟩
  ·have hneb : ((bl rest).toList == ([] : List UInt8)) = false := by rw [ba_beq_list]; simpa using bl_ne hr
   by_cases hd : done.length ≤ 4
   ·obtain ⟨hn1, hn2, hn3, hn4⟩ := HT.out.next hr hd
    have HN1 : Hid (LwI s.data.toList (done ++ [(Lib.cut rest [32]).1]) (Lib.trimLeftB (Lib.cut rest [32]).2.1 32)) := hn1
    have HRL : Hid (rest.length ≤ 100000) := by show _ ≤ _; have := HT.out.lr; have := HSZ.out; omega
    have HC := fun wk (hwk : Ready wk) => cut_any (bl rest) wk hwk (by rw [bl_size]; exact HRL.out)
    rw [data_bl] at HC
    have HCC : Hid (∀ wk, Ready wk → Calls Tryz.prog 51 #[.string (bl rest), .string ⟨#[32]⟩] wk fun e w' => e = .returned (.tuple #[.string (bl (Lib.cut rest [32]).1), .string (bl (Lib.cut rest [32]).2.1), .bool (Lib.cut rest [32]).2.2]) ∧ Below wk.heap.size wk w') := HC
    have HM : Hid ((Lib.trimLeftB (Lib.cut rest [32]).2.1 32).length < (bl rest).size) := by show _ < _; rw [bl_size]; exact hn2
    clear HC hn1 hn2 hn3 hn4 hr
    generalize Lib.cut rest [32] = c at *
    obtain ⟨c1, c2, c3⟩ := c
    simp only at HCC HN1 HM
    obtain ⟨sr, hsr⟩ : ∃ sr, bl rest = sr := ⟨_, rfl⟩
    rw [hsr] at HCC hneb HM
    rw [hsr]
    have HTM : Hid (∀ wk, Calls Tryz.prog 50 #[.string (bl c2), .string ⟨#[32]⟩] wk fun e w' => e = .returned (.string (bl (Lib.trimLeftB c2 32))) ∧ w' = wk) := fun wk => by have := trim_any (bl c2) wk; rw [data_bl] at this; exact this
    obtain ⟨s1, hs1⟩ : ∃ s1, bl c1 = s1 := ⟨_, rfl⟩
    obtain ⟨s2, hs2⟩ : ∃ s2, bl c2 = s2 := ⟨_, rfl⟩
    rw [hs1, hs2] at HCC
    rw [hs2] at HTM
    have HS1 : Hid (bl c1 = s1) := hs1
    clear hs1 hs2 hsr
    have hd4 : ((done.map bl).length : Int) ≤ 4 := by rw [HDL.out]; omega
    have hd4n : (done.map bl).length ≤ 4 := by rw [HDL.out]; exact hd
    have HLN : Hid ((done.map bl).length ≤ 4) := hd4n
    obtain ⟨ws, hws⟩ : ∃ ws, done.map bl = ws := ⟨_, rfl⟩
    rw [hws] at HW hvf hd4 HLN hd4n
    have HWS : Hid (done.map bl = ws) := hws
    clear hws HDL hd
    have HV3 : Hid (u3 = .slice va ws.length vc) := hvf
    subst hvf
    go_wp2_with fail
    refine (HCC.out _ (HR.out.below HW.out.below)).mono ?_
    rintro e w5 ⟨rfl, hb⟩
    have H5 : Hid (WoI w1 (.slice va ws.length vc) ws (w5.alloc (.cells #[.string s1] 9))) := (HW.out.after hb).after (below1 _ _)
    clear hb HW HCC
    go_wp2_with (at_builtin; refine wpList_append_own _ rfl (.tmp 23) (.tmp 25) 22 rfl w1.heap.size 9 i0 (.string ⟨#[]⟩) 1 16 Tryz.underlying22 hi0 hz0 hz1 hz2 rfl (by decide) (.slice va ws.length vc) ws.length (cellsS ws) rfl H5.out.own ⟨w5.heap.size, 0, none⟩ 1 1 [.string s1] (by simp [go_sem]) rfl (src_newS _ _) ?c2 ?c3 ?c4 ?c5 ?_)
    case c2 => intro u hu; simp at hu; subst hu; rfl
    case c3 => have := HLN.out; unfold maxLen; omega
    case c4 => have := HLN.out; omega
    case c5 => exact H5.out.below.size
    intro v' w6 hown' hgrow _
    have H6 : Hid (WoI w1 v' ((done ++ [c1]).map bl) w6) := by
     show WoI _ _ _ _
     rw [List.map_append, HWS.out, List.map_cons, List.map_nil, HS1.out]
     exact H5.out.grown hown' hgrow
    clear hown' hgrow H5
    go_wp2_with fail
    refine (HTM.out _).mono ?_
    rintro e w7 ⟨rfl, rfl⟩
    go_wp2_with fail
    go_roundw
    case rel => exact ⟨done ++ [c1], Lib.trimLeftB c2 32, rfl, HN1.out, H6.out⟩
    case measure =>
     show strN (.string (bl (Lib.trimLeftB c2 32))) < strN (.string sr)
     show (bl (Lib.trimLeftB c2 32)).size < sr.size
     rw [bl_size]
     exact HM.out
   ·have HE : Hid (done = (wordsOf s.data.toList).take 5) := HT.out.ended (.inr (by omega))
    have hd4 : ¬ ((done.map bl).length : Int) ≤ 4 := by rw [HDL.out]; omega
    have hd4b : decide (((done.map bl).length : Int) ≤ 4) = false := decide_eq_false hd4
    have hd4c : ¬ (done.map bl).length ≤ 4 := by omega
    have HOW : Hid (OwnS wr w1.heap.size u3 (((wordsOf s.data.toList).take 5).map bl) ∧ Below w1.heap.size w1 wr) := ⟨by rw [← HE.out]; exact HW.out.own, HW.out.below⟩
    obtain ⟨sr, hsr⟩ : ∃ sr, bl rest = sr := ⟨_, rfl⟩
    rw [hsr] at hneb
    rw [hsr]
    obtain ⟨dn, hdn⟩ : ∃ dn, (done.map bl).length = dn := ⟨_, rfl⟩
    rw [hdn] at hvf hd4 hd4b hd4c
    subst hvf
    clear hsr HW HDL hdn hd
    go_wp2
    go_ret
    exact ⟨_, rfl, by have := HOW.out.1; simpa using this, HOW.out.2⟩
end Go.Proofs.YtcbnnfeelhlapadGreatDoor

/-
  The desk's reading of a line: putStep.
-/
namespace Go.Proofs.YtcbnnfeelhlapadGreatDoor
set_option maxRecDepth 20000
open Go Go.RowKit
def putX (o : Option (Int × Int × List UInt8)) : Tst := match o with
 | some (a, b, text) => ⟨2, a, b, 0, bl text⟩
 | none => ⟨0, 0, 0, 0, ⟨#[]⟩⟩
theorem split4_any (s : ByteArray) (w : World) (hw : Ready w) (hs : s.size ≤ 100000) :
 Calls Tryz.prog 46 #[.string s, .string ⟨#[32]⟩, .int .i64 4] w fun e w' =>
  e = .returned (.slice (some ⟨w.heap.size, 0, none⟩) (fourOf s).length (min 4 (s.size + 1))) ∧ w' = w.alloc (.cells (Lib.cellsOf (fourOf s) (min 4 (s.size + 1))) 9) := by
 obtain ⟨m, hm⟩ := hw.mx
 exact Tryz.strings_SplitN s ⟨#[32]⟩ 4 m w (by omega) hm (by decide) (by decide) (by decide)
theorem load_step {w : World} {B : Nat} {x : Tst} (h : TsAt w B 0 x) : (loadVar 74 ⟨B, 0, none⟩).run Tryz.prog w = .ok (tsV x) w := by
 obtain ⟨_, c0, c1, c2, c3, c4⟩ := h
 simp only [Nat.zero_add] at c0 c1 c2 c3 c4
 simp [go_sem, loadVar, loadCells, loadCellsFrom, Sem.run_bind, Tryz.isAgg74, Tryz.sizeOf74, c0, c1, c2, c3, c4]
theorem step_end {R : Ending → World → Prop} {a : Act} {w : World} {B : Nat} {x : Tst} {v : Value} (h : TsAt w B 0 x) (h2 : a.tmps.getD 2 undef = .pointer (some ⟨B, 0, none⟩)) (h3 : a.tmps.getD 3 undef = v) (hd : a.defers = [])
 (hR : R (.returned (.tuple #[tsV x, v])) w) : bodyPost Tryz.prog Tryz.f24 R Exit.ret a w := by
 refine bodyPost_ret ?_ hd hR
 rw [results_cell_tmp rfl, h2, h3]
 simp [asAddr, load_step h]
structure TsF (w : World) (B : Nat) (x : Tst) : Prop where
 at_ : TsAt w B 0 x
 free : ∀ o, o < 5 → w.frozen? ⟨B, o, none⟩ = false
theorem tsF_start (w : World) (x : Tst) : TsF (w.alloc (tsObj x)) w.heap.size x := ⟨tsat_start w x, fun o ho => by
 rcases (show o = 0 ∨ o = 1 ∨ o = 2 ∨ o = 3 ∨ o = 4 by omega) with rfl | rfl | rfl | rfl | rfl <;> simp [go_sem]⟩
theorem TsF.below {w w' : World} {B : Nat} {x : Tst} (h : TsF w B x) (hb : Below w.heap.size w w') : TsF w' B x := ⟨h.at_.below hb, fun o ho => by rw [frozen_on h.at_.lt hb]; exact h.free o ho⟩
abbrev put5S (w : World) (B : Nat) (x : Tst) : World := ((((w.setCell ⟨B, 0, none⟩ (.int .i64 x.kind)).setCell ⟨B, 1, none⟩ (.int .i64 x.w)).setCell ⟨B, 2, none⟩ (.int .i64 x.at_)).setCell ⟨B, 3, none⟩ (.int .i64 x.many)).setCell ⟨B, 4, none⟩ (.string x.text)
theorem TsF.put {w : World} {B : Nat} {x : Tst} (h : TsF w B x) (y : Tst) : TsAt (put5S w B y) B 0 y := by
 obtain ⟨⟨hl, c0, c1, c2, c3, c4⟩, _⟩ := h
 simp only [Nat.zero_add] at c0 c1 c2 c3 c4
 refine ⟨by simpa [World.setCell] using hl, ?_, ?_, ?_, ?_, ?_⟩ <;> simp [go_sem, c0, c1, c2, c3, c4]
theorem below_put5S {w w' : World} {B N : Nat} (h : Below N w w') (hN : N ≤ B) (x : Tst) : Below N w (put5S w' B x) :=
 ((((h.setCell (p := ⟨B, 0, none⟩) hN _).setCell (p := ⟨B, 1, none⟩) hN _).setCell (p := ⟨B, 2, none⟩) hN _).setCell (p := ⟨B, 3, none⟩) hN _).setCell (p := ⟨B, 4, none⟩) hN _
theorem strLst_twoN (w : World) (s t : ByteArray) : StrLst (w.alloc (.cells #[.string s, .string t] 9)) (.slice (some ⟨w.heap.size, 0, none⟩) 2 2) [s, t] :=
 ⟨_, 2, 2, rfl, rfl, Nat.le_refl _, .inr ⟨_, 0, rfl, by simp, fun i hi => by
  have h2 : i < 2 := hi
  rcases (show i = 0 ∨ i = 1 by omega) with rfl | rfl <;> simp [go_sem]⟩⟩
theorem ilst_rowN {w : World} {v : Value} {zs : List Int} (h : ILst w v zs) (hp : 0 < zs.length) : ∃ b off cap, v = .slice (some ⟨b, off, none⟩) zs.length cap ∧ b < w.heap.size ∧ ∀ i (h : i < zs.length), w.cell? ⟨b, off + i, none⟩ = some (.int .i64 zs[i]) := by
 obtain ⟨a, len, cap, rfl, h1, h2, h3⟩ := h
 rcases h3 with h3 | ⟨b, off, rfl, h4, h5⟩
 ·omega
 ·exact ⟨b, off, cap, by rw [h1], h4, h5⟩
theorem putFour_no {l : List (List UInt8)} (h : l.length ≠ 4) : putFour l = none := by
 unfold putFour
 split
 ·simp at h
 ·rfl
theorem strs_four (w : World) (a0 a1 a2 a3 : ByteArray) : Strs (w.alloc (.cells (Lib.cellsOf [a0, a1, a2, a3] 4) 9)) w.heap.size 0 [a0, a1, a2, a3] := by
 refine ⟨by simp, fun i hi => ?_⟩
 have h6 : i < 4 := hi
 rcases (show i = 0 ∨ i = 1 ∨ i = 2 ∨ i = 3 by omega) with rfl | rfl | rfl | rfl <;> simp [go_sem, Lib.cellsOf]
structure PsI (w : World) (B BW : Nat) (a0 a1 a2 a3 : ByteArray) (wk : World) : Prop where
 below : Below w.heap.size w wk
 step : TsF wk B ⟨0, 0, 0, 0, ⟨#[]⟩⟩
 words : Strs wk BW 0 [a0, a1, a2, a3]
theorem PsI.after {w wk w' : World} {B BW : Nat} {a0 a1 a2 a3 : ByteArray} (h : PsI w B BW a0 a1 a2 a3 wk) (hb : Below wk.heap.size wk w') : PsI w B BW a0 a1 a2 a3 w' := ⟨bla h.below hb, h.step.below hb, h.words.below hb⟩
abbrev zTs : Tst := ⟨0, 0, 0, 0, ⟨#[]⟩⟩
set_option maxHeartbeats 3200000 in
theorem putStep_any (s : ByteArray) (w : World) (hw : Ready w) (hs : s.size ≤ 100000) :
 Calls Tryz.prog 24 #[.string s] w fun e w' => e = .returned (.tuple #[tsV (putX (putOf s.data.toList)), .bool (putOf s.data.toList).isSome]) ∧ Below w.heap.size w w' := by
 have HR : Hid (Ready w) := hw
 have HSZ : Hid (s.size ≤ 100000) := hs
 have HPO : Hid (putOf s.data.toList = putFour (cutK 3 s.data.toList)) := putOf_cut _
 have HFW : Hid (fourOf s = (cutK 3 s.data.toList).map bl) := four_words s
 have HSP : Hid (∀ wk, Ready wk → Calls Tryz.prog 46 #[.string s, .string ⟨#[32]⟩, .int .i64 4] wk fun e w' => e = .returned (.slice (some ⟨wk.heap.size, 0, none⟩) (fourOf s).length (min 4 (s.size + 1))) ∧ w' = wk.alloc (.cells (Lib.cellsOf (fourOf s) (min 4 (s.size + 1))) 9)) := fun wk hwk => split4_any s wk hwk hs
 have HT0 : Hid (TsF (w.alloc (tsObj zTs)) w.heap.size zTs) := tsF_start w zTs
 have HB0 : Hid (Below w.heap.size w (w.alloc (tsObj zTs))) := below1 _ _
 have HCL : Hid ((cutK 3 s.data.toList).length = (fourOf s).length) := by show _ = _; rw [HFW.out, List.length_map]
 have HJL : Hid (joinL (cutK 3 s.data.toList) = s.data.toList) := cutK_join 3 _
 generalize cutK 3 s.data.toList = cl at *
 by_cases h4 : (fourOf s).length = 4
 ·have hcap : min 4 (s.size + 1) = 4 := by
   have h1 : (fourOf s).length ≤ min 4 (s.size + 1) := by
    have := Lib.splitB_length_le spS 0 (min 4 (s.size + 1) - 1) s
    unfold fourOf
    omega
   omega
  obtain ⟨b0, b1, b2, b3, rfl⟩ : ∃ b0 b1 b2 b3, cl = [b0, b1, b2, b3] := by
   match cl, HCL.out.trans h4 with
   | [a, b, c, d], _ => exact ⟨a, b, c, d, rfl⟩
  have hf : fourOf s = [bl b0, bl b1, bl b2, bl b3] := HFW.out
  have HS4 : Hid ((bl b1).size ≤ 100000 ∧ (bl b2).size ≤ 100000) := by
   have hjl := congrArg List.length HJL.out
   simp only [joinL, List.length_append, List.length_cons, size_list] at hjl
   have := HSZ.out
   exact ⟨by rw [bl_size]; omega, by rw [bl_size]; omega⟩
  rw [hf, hcap] at HSP
  have HPS : Hid (PsI w w.heap.size (w.heap.size + 1) (bl b0) (bl b1) (bl b2) (bl b3) ((w.alloc (tsObj zTs)).alloc (.cells (Lib.cellsOf [bl b0, bl b1, bl b2, bl b3] 4) 9))) := by
   refine ⟨bla (below1 _ _) (below1 _ _), (tsF_start w zTs).below (below1 _ _), ?_⟩
   have := strs_four (w.alloc (tsObj zTs)) (bl b0) (bl b1) (bl b2) (bl b3)
   simpa using this
  have HR1 : Hid (Ready (w.alloc (tsObj zTs))) := hw.below (below1 _ _)
  have hBe : w.heap.size ≠ w.heap.size + 1 := by omega
  clear hf hcap hw hs h4 HFW HCL HT0 HB0 HSZ HJL HR
  by_cases hp : b0 = [112, 117, 116]
  ·have hpb : ((bl b0).toList == ([112, 117, 116] : List UInt8)) = true := by rw [ba_beq_list, hp]; simp
   have HP2 : Hid (putOf s.data.toList = (match readL [bl b1, bl b2] with | some [w, at_] => some (w, at_, b3) | _ => none)) := by
    show _ = _
    rw [HPO.out]
    exact if_pos hp
   clear HPO hp
   obtain ⟨s0, hs0⟩ : ∃ s0, bl b0 = s0 := ⟨_, rfl⟩
   obtain ⟨s1, hs1⟩ : ∃ s1, bl b1 = s1 := ⟨_, rfl⟩
   obtain ⟨s2, hs2⟩ : ∃ s2, bl b2 = s2 := ⟨_, rfl⟩
   obtain ⟨s3, hs3⟩ : ∃ s3, bl b3 = s3 := ⟨_, rfl⟩
   have HS3 : Hid (bl b3 = s3) := hs3
   rw [hs0] at hpb
   rw [hs0, hs1, hs2, hs3] at HSP HPS
   rw [hs1, hs2] at HS4 HP2
   clear hs0 hs1 hs2 hs3
   go_enter Tryz.func24, Tryz.ntmps24
   go_wp2_with fail
   refine (HSP.out _ HR1.out).mono ?_
   rintro e w1 ⟨rfl, rfl⟩
   clear HSP
   have HR2 := HR1.out.below (below1 _ (.cells (Lib.cellsOf [s0, s1, s2, s3] 4) 9))
   have HR3 : Hid (Ready ((w.alloc (tsObj zTs)).alloc (.cells (Lib.cellsOf [s0, s1, s2, s3] 4) 9))) := HR2
   clear HR1 HR2
   simp only [World.size_alloc] at *
   generalize World.alloc _ (Obj.cells (Lib.cellsOf _ _) _) = w2 at *
   generalize hBW : w.heap.size + 1 = BW at *
   generalize hB : w.heap.size = B at *
   have c0 := HPS.out.words.cell 0 (by simp)
   have hlw := HPS.out.words.lt
   simp only [Nat.add_zero, List.getElem_cons_zero] at c0
   simp only [List.length_cons, List.length_nil, Nat.zero_add]
   go_wp2_with fail
   clear c0 hlw
   cases hrd : readL [s1, s2] with
   | none =>
    have HE : Hid (putOf s.data.toList = none) := by show _ = _; rw [HP2.out, hrd]
    have HRN : Hid (readL [s1, s2] = none) := hrd
    clear hrd HP2
    refine wp_region_lateD (fun wk => PsI w B BW s0 s1 s2 s3 wk) (fun wk => PsI w B BW s0 s1 s2 s3 wk ∧ Ready wk) (fun i => i == 6 || i == 7) (fun _ => false) (by kernel_rfl) (by kernel_rfl) (by kernel_rfl) (fun _ h => h.1) ⟨HPS.out.after (Below.refl _ _).drew, HR3.out.below (Below.refl _ _).drew⟩ ?_
    refine wlb (some 20) w rfl (.slice (some ⟨BW, 0, none⟩) 4 4) rfl (by kernel_rfl) (fun wk hwk => ?_) ?_
    ·generalize hA : Act.eval _ = ρ
     have s4 : ρ (.tmp 4) = .slice (some ⟨BW, 0, none⟩) 4 4 := by rw [← hA]; kernel_rfl
     clear hA
     go_simp
    go_big_quiet_op
    refine wlb (some 21) w rfl (.pointer (some ⟨BW, 1, none⟩)) rfl (by kernel_rfl) (fun wk hwk => ?_) ?_
    ·generalize hA : Act.eval _ = ρ
     have s20 : ρ (.tmp 20) = .slice (some ⟨BW, 0, none⟩) 4 4 := by rw [← hA]; kernel_rfl
     have k1 : ρ (.const (.int .i64 1)) = .int .i64 1 := by rw [← hA]; kernel_rfl
     clear hA
     go_simp
    go_big_quiet_op
    refine wlb (some 22) w rfl (.string s1) rfl (by kernel_rfl) (fun wk hwk => ?_) ?_
    ·generalize hA : Act.eval _ = ρ
     have s21 : ρ (.tmp 21) = .pointer (some ⟨BW, 1, none⟩) := by rw [← hA]; kernel_rfl
     clear hA
     have c0 := hwk.words.cell 1 (by simp)
     have hlw := hwk.words.lt
     simp only [Nat.zero_add, List.getElem_cons_succ, List.getElem_cons_zero] at c0
     go_simp
    go_big_quiet_op
    refine wlb (some 23) w rfl (.slice (some ⟨BW, 0, none⟩) 4 4) rfl (by kernel_rfl) (fun wk hwk => ?_) ?_
    ·generalize hA : Act.eval _ = ρ
     have s4 : ρ (.tmp 4) = .slice (some ⟨BW, 0, none⟩) 4 4 := by rw [← hA]; kernel_rfl
     clear hA
     go_simp
    go_big_quiet_op
    refine wlb (some 24) w rfl (.pointer (some ⟨BW, 2, none⟩)) rfl (by kernel_rfl) (fun wk hwk => ?_) ?_
    ·generalize hA : Act.eval _ = ρ
     have s23 : ρ (.tmp 23) = .slice (some ⟨BW, 0, none⟩) 4 4 := by rw [← hA]; kernel_rfl
     have k1 : ρ (.const (.int .i64 2)) = .int .i64 2 := by rw [← hA]; kernel_rfl
     clear hA
     go_simp
    go_big_quiet_op
    refine wlb (some 25) w rfl (.string s2) rfl (by kernel_rfl) (fun wk hwk => ?_) ?_
    ·generalize hA : Act.eval _ = ρ
     have s24 : ρ (.tmp 24) = .pointer (some ⟨BW, 2, none⟩) := by rw [← hA]; kernel_rfl
     clear hA
     have c0 := hwk.words.cell 2 (by simp)
     have hlw := hwk.words.lt
     simp only [Nat.zero_add, List.getElem_cons_succ, List.getElem_cons_zero] at c0
     go_simp
    go_big_quiet_op
    refine wls (some 26) w rfl rfl (by kernel_rfl) (fun u => ∃ E, u = .slice (some ⟨E, 0, none⟩) 2 2) (fun u wk => PsI w B BW s0 s1 s2 s3 wk) (fun u wk => (∃ E, u = .slice (some ⟨E, 0, none⟩) 2 2) ∧ StrLst wk u [s1, s2] ∧ PsI w B BW s0 s1 s2 s3 wk ∧ Ready wk) (⟨.slice (some ⟨0, 0, none⟩) 2 2, 0, rfl⟩) (fun _ _ h => h) (fun _ _ h => h.2.2.1) (fun wk hwk => ?_) (fun u9 hu9 => ?_)
    ·generalize hA : Act.eval _ = ρ
     have s22 : ρ (.tmp 22) = .string s1 := by rw [← hA]; kernel_rfl
     have s25 : ρ (.tmp 25) = .string s2 := by rw [← hA]; kernel_rfl
     clear hA
     go_simp
     have hq1 := strLst_twoN wk s1 s2
     have hq2 := hwk.1.after (below1 wk (.cells #[.string s1, .string s2] 9))
     have hq3 := hwk.2.below (below1 wk (.cells #[.string s1, .string s2] 9))
     go_simp
     exact ⟨⟨_, rfl⟩, hq1, hq2, hq3⟩
    obtain ⟨E, rfl⟩ := hu9
    go_big_quiet_op
    refine wls (some 27) w rfl rfl (by kernel_rfl) (fun u => u = .tuple #[.slice none 0 0, .bool false]) (fun u wk => PsI w B BW s0 s1 s2 s3 wk) (fun u wk => PsI w B BW s0 s1 s2 s3 wk) (⟨_, rfl⟩) (fun _ _ h => h) (fun _ _ h => h) (fun wk hwk => ?_) (fun u9 hu9 => ?_)
    ·generalize hA : Act.eval _ = ρ
     have s26 : ρ (.tmp 26) = .slice (some ⟨E, 0, none⟩) 2 2 := by rw [← hA]; kernel_rfl
     have sf : ρ (.func 27) = .func (.func 27) #[] #[] := by rw [← hA]; kernel_rfl
     clear hA
     go_simp
     refine (numbers_any hwk.2.1 hwk.2.2.2 (by simp) (fun s hs => ?_)).mono ?_
     ·have := HS4.out
      simp only [List.mem_cons, List.not_mem_nil, or_false] at hs
      rcases hs with rfl | rfl
      ·exact this.1
      ·exact this.2
     rintro e w7 ⟨h7, hb⟩
     rcases h7 with ⟨zs, v, h8, _⟩ | ⟨_, rfl⟩
     ·rw [HRN.out] at h8; cases h8
     ·exact ⟨_, rfl, rfl, hwk.2.2.1.after hb⟩
    subst hu9
    go_big_quiet_op
    refine wlb (some 19) w rfl (.tuple #[.slice none 0 0, .bool false]) rfl (by kernel_rfl) (fun wk hwk => ?_) ?_
    ·generalize hA : Act.eval _ = ρ
     have s27 : ρ (.tmp 27) = .tuple #[.slice none 0 0, .bool false] := by rw [← hA]; kernel_rfl
     clear hA
     go_simp
    go_big_quiet_op
    refine wlb (some 28) w rfl (.slice none 0 0) rfl (by kernel_rfl) (fun wk hwk => ?_) ?_
    ·generalize hA : Act.eval _ = ρ
     have s19 : ρ (.tmp 19) = .tuple #[.slice none 0 0, .bool false] := by rw [← hA]; kernel_rfl
     clear hA
     go_simp
    go_big_quiet_op
    refine wlb (some 29) w rfl (.bool false) rfl (by kernel_rfl) (fun wk hwk => ?_) ?_
    ·generalize hA : Act.eval _ = ρ
     have s19 : ρ (.tmp 19) = .tuple #[.slice none 0 0, .bool false] := by rw [← hA]; kernel_rfl
     clear hA
     go_simp
    go_big_quiet_op
    refine wlb (some 5) w rfl (.slice none 0 0) rfl (by kernel_rfl) (fun wk hwk => ?_) ?_
    ·generalize hA : Act.eval _ = ρ
     have s28 : ρ (.tmp 28) = .slice none 0 0 := by rw [← hA]; kernel_rfl
     clear hA
     go_simp
    go_big_quiet_op
    refine wlb (some 6) w rfl (.bool false) rfl (by kernel_rfl) (fun wk hwk => ?_) ?_
    ·generalize hA : Act.eval _ = ρ
     have s29 : ρ (.tmp 29) = .bool false := by rw [← hA]; kernel_rfl
     clear hA
     go_simp
    go_big_quiet_op
    refine wpLate_nil (fun w9 hw9 => ?_)
    have H9 : Hid (PsI w B BW s0 s1 s2 s3 w9) := hw9
    clear hw9 HPS HR3
    obtain ⟨⟨hlb, g0, g1, g2, g3, g4⟩, gf⟩ := H9.out.step
    have f0 := gf 0 (by omega)
    have f1 := gf 1 (by omega)
    have f2 := gf 2 (by omega)
    have f3 := gf 3 (by omega)
    have f4 := gf 4 (by omega)
    simp only [Nat.zero_add] at g0 g1 g2 g3 g4
    go_wp2
    refine step_end (x := zTs) (H9.out.step.put zTs) rfl rfl rfl ?_
    rw [HE.out]
    exact ⟨rfl, below_put5S H9.out.below (by omega) zTs⟩
   | some zs =>
    obtain ⟨z1, z2, rfl⟩ : ∃ z1 z2, zs = [z1, z2] := by
     have := readL_len _ _ hrd
     match zs, this with
     | [a, b], _ => exact ⟨a, b, rfl⟩
    have HE : Hid (putOf s.data.toList = some (z1, z2, b3)) := by show _ = _; rw [HP2.out, hrd]
    have HRN : Hid (readL [s1, s2] = some [z1, z2]) := hrd
    clear hrd HP2
    refine wp_region_lateD (fun wk => PsI w B BW s0 s1 s2 s3 wk) (fun wk => PsI w B BW s0 s1 s2 s3 wk ∧ Ready wk) (fun i => i == 6 || i == 7) (fun _ => false) (by kernel_rfl) (by kernel_rfl) (by kernel_rfl) (fun _ h => h.1) ⟨HPS.out.after (Below.refl _ _).drew, HR3.out.below (Below.refl _ _).drew⟩ ?_
    refine wlb (some 20) w rfl (.slice (some ⟨BW, 0, none⟩) 4 4) rfl (by kernel_rfl) (fun wk hwk => ?_) ?_
    ·generalize hA : Act.eval _ = ρ
     have s4 : ρ (.tmp 4) = .slice (some ⟨BW, 0, none⟩) 4 4 := by rw [← hA]; kernel_rfl
     clear hA
     go_simp
    go_big_quiet_op
    refine wlb (some 21) w rfl (.pointer (some ⟨BW, 1, none⟩)) rfl (by kernel_rfl) (fun wk hwk => ?_) ?_
    ·generalize hA : Act.eval _ = ρ
     have s20 : ρ (.tmp 20) = .slice (some ⟨BW, 0, none⟩) 4 4 := by rw [← hA]; kernel_rfl
     have k1 : ρ (.const (.int .i64 1)) = .int .i64 1 := by rw [← hA]; kernel_rfl
     clear hA
     go_simp
    go_big_quiet_op
    refine wlb (some 22) w rfl (.string s1) rfl (by kernel_rfl) (fun wk hwk => ?_) ?_
    ·generalize hA : Act.eval _ = ρ
     have s21 : ρ (.tmp 21) = .pointer (some ⟨BW, 1, none⟩) := by rw [← hA]; kernel_rfl
     clear hA
     have c0 := hwk.words.cell 1 (by simp)
     have hlw := hwk.words.lt
     simp only [Nat.zero_add, List.getElem_cons_succ, List.getElem_cons_zero] at c0
     go_simp
    go_big_quiet_op
    refine wlb (some 23) w rfl (.slice (some ⟨BW, 0, none⟩) 4 4) rfl (by kernel_rfl) (fun wk hwk => ?_) ?_
    ·generalize hA : Act.eval _ = ρ
     have s4 : ρ (.tmp 4) = .slice (some ⟨BW, 0, none⟩) 4 4 := by rw [← hA]; kernel_rfl
     clear hA
     go_simp
    go_big_quiet_op
    refine wlb (some 24) w rfl (.pointer (some ⟨BW, 2, none⟩)) rfl (by kernel_rfl) (fun wk hwk => ?_) ?_
    ·generalize hA : Act.eval _ = ρ
     have s23 : ρ (.tmp 23) = .slice (some ⟨BW, 0, none⟩) 4 4 := by rw [← hA]; kernel_rfl
     have k1 : ρ (.const (.int .i64 2)) = .int .i64 2 := by rw [← hA]; kernel_rfl
     clear hA
     go_simp
    go_big_quiet_op
    refine wlb (some 25) w rfl (.string s2) rfl (by kernel_rfl) (fun wk hwk => ?_) ?_
    ·generalize hA : Act.eval _ = ρ
     have s24 : ρ (.tmp 24) = .pointer (some ⟨BW, 2, none⟩) := by rw [← hA]; kernel_rfl
     clear hA
     have c0 := hwk.words.cell 2 (by simp)
     have hlw := hwk.words.lt
     simp only [Nat.zero_add, List.getElem_cons_succ, List.getElem_cons_zero] at c0
     go_simp
    go_big_quiet_op
    refine wls (some 26) w rfl rfl (by kernel_rfl) (fun u => ∃ E, u = .slice (some ⟨E, 0, none⟩) 2 2) (fun u wk => PsI w B BW s0 s1 s2 s3 wk) (fun u wk => (∃ E, u = .slice (some ⟨E, 0, none⟩) 2 2) ∧ StrLst wk u [s1, s2] ∧ PsI w B BW s0 s1 s2 s3 wk ∧ Ready wk) (⟨.slice (some ⟨0, 0, none⟩) 2 2, 0, rfl⟩) (fun _ _ h => h) (fun _ _ h => h.2.2.1) (fun wk hwk => ?_) (fun u9 hu9 => ?_)
    ·generalize hA : Act.eval _ = ρ
     have s22 : ρ (.tmp 22) = .string s1 := by rw [← hA]; kernel_rfl
     have s25 : ρ (.tmp 25) = .string s2 := by rw [← hA]; kernel_rfl
     clear hA
     go_simp
     have hq1 := strLst_twoN wk s1 s2
     have hq2 := hwk.1.after (below1 wk (.cells #[.string s1, .string s2] 9))
     have hq3 := hwk.2.below (below1 wk (.cells #[.string s1, .string s2] 9))
     go_simp
     exact ⟨⟨_, rfl⟩, hq1, hq2, hq3⟩
    obtain ⟨E, rfl⟩ := hu9
    go_big_quiet_op
    refine wls (some 27) w rfl rfl (by kernel_rfl) (fun u => ∃ va vc, u = .tuple #[.slice va 2 vc, .bool true]) (fun u wk => PsI w B BW s0 s1 s2 s3 wk) (fun u wk => PsI w B BW s0 s1 s2 s3 wk ∧ ∃ va vc, u = .tuple #[.slice va 2 vc, .bool true] ∧ ILst wk (.slice va 2 vc) [z1, z2]) (⟨.tuple #[.slice none 2 0, .bool true], _, _, rfl⟩) (fun _ _ h => h) (fun _ _ h => h.1) (fun wk hwk => ?_) (fun u8 hu8 => ?_)
    ·generalize hA : Act.eval _ = ρ
     have s26 : ρ (.tmp 26) = .slice (some ⟨E, 0, none⟩) 2 2 := by rw [← hA]; kernel_rfl
     have sf : ρ (.func 27) = .func (.func 27) #[] #[] := by rw [← hA]; kernel_rfl
     clear hA
     go_simp
     refine (numbers_any hwk.2.1 hwk.2.2.2 (by simp) (fun s hs => ?_)).mono ?_
     ·have := HS4.out
      simp only [List.mem_cons, List.not_mem_nil, or_false] at hs
      rcases hs with rfl | rfl
      ·exact this.1
      ·exact this.2
     rintro e w7 ⟨h7, hb⟩
     rcases h7 with ⟨zs, v, h8, rfl, h9⟩ | ⟨h8, _⟩
     ·rw [HRN.out] at h8
      obtain rfl := Option.some.inj h8
      obtain ⟨va, vc, rfl⟩ := h9.len
      exact ⟨_, rfl, ⟨va, vc, rfl⟩, hwk.2.2.1.after hb, va, vc, rfl, h9⟩
     ·rw [HRN.out] at h8; cases h8
    obtain ⟨va, vc, rfl⟩ := hu8
    go_big_quiet_op
    refine wlb (some 19) w rfl (.tuple #[.slice va 2 vc, .bool true]) rfl (by kernel_rfl) (fun wk hwk => ?_) ?_
    ·generalize hA : Act.eval _ = ρ
     have s27 : ρ (.tmp 27) = .tuple #[.slice va 2 vc, .bool true] := by rw [← hA]; kernel_rfl
     clear hA
     go_simp
    go_big_quiet_op
    refine wlb (some 28) w rfl (.slice va 2 vc) rfl (by kernel_rfl) (fun wk hwk => ?_) ?_
    ·generalize hA : Act.eval _ = ρ
     have s19 : ρ (.tmp 19) = .tuple #[.slice va 2 vc, .bool true] := by rw [← hA]; kernel_rfl
     clear hA
     go_simp
    go_big_quiet_op
    refine wlb (some 29) w rfl (.bool true) rfl (by kernel_rfl) (fun wk hwk => ?_) ?_
    ·generalize hA : Act.eval _ = ρ
     have s19 : ρ (.tmp 19) = .tuple #[.slice va 2 vc, .bool true] := by rw [← hA]; kernel_rfl
     clear hA
     go_simp
    go_big_quiet_op
    refine wlb (some 5) w rfl (.slice va 2 vc) rfl (by kernel_rfl) (fun wk hwk => ?_) ?_
    ·generalize hA : Act.eval _ = ρ
     have s28 : ρ (.tmp 28) = .slice va 2 vc := by rw [← hA]; kernel_rfl
     clear hA
     go_simp
    go_big_quiet_op
    refine wlb (some 6) w rfl (.bool true) rfl (by kernel_rfl) (fun wk hwk => ?_) ?_
    ·generalize hA : Act.eval _ = ρ
     have s29 : ρ (.tmp 29) = .bool true := by rw [← hA]; kernel_rfl
     clear hA
     go_simp
    go_big_quiet_op
    refine wpLate_nil (fun w9 hw9 => ?_)
    have H9 : Hid (PsI w B BW s0 s1 s2 s3 w9 ∧ ILst w9 (.slice va 2 vc) [z1, z2]) := by
     obtain ⟨h1, va', vc', h2, h3⟩ := hw9
     simp only [Value.tuple.injEq, Array.mk.injEq, List.cons.injEq, Value.slice.injEq, and_true, true_and] at h2
     obtain ⟨rfl, rfl⟩ := h2
     exact ⟨h1, h3⟩
    clear hw9 HPS HR3
    go_wp2_with fail
    obtain ⟨⟨hlb, g0, g1, g2, g3, g4⟩, gf⟩ := H9.out.1.step
    have f0 := gf 0 (by omega)
    have f1 := gf 1 (by omega)
    have f2 := gf 2 (by omega)
    have f3 := gf 3 (by omega)
    have f4 := gf 4 (by omega)
    simp only [Nat.zero_add] at g0 g1 g2 g3 g4
    have c3 := H9.out.1.words.cell 3 (by simp)
    have hlw := H9.out.1.words.lt
    simp only [Nat.zero_add, List.getElem_cons_succ, List.getElem_cons_zero] at c3
    obtain ⟨nb, no, nc, hnv, hnb, hrow⟩ := ilst_rowN H9.out.2 (by simp)
    simp only [Value.slice.injEq] at hnv
    obtain ⟨rfl, -, rfl⟩ := hnv
    have n0 := hrow 0 (by simp)
    have n1 := hrow 1 (by simp)
    simp only [Nat.add_zero, List.getElem_cons_succ, List.getElem_cons_zero] at n0 n1
    have HTS : Hid (TsF w9 B zTs) := H9.out.1.step
    have HBL : Hid (Below w.heap.size w w9) := H9.out.1.below
    have hP := HTS.out.put ⟨2, z1, z2, 0, s3⟩
    have hQ := below_put5S HBL.out (B := B) (by omega) ⟨2, z1, z2, 0, s3⟩
    unfold put5S at hP hQ
    dsimp only at hP hQ
    have HP9 : Hid (TsAt (((((w9.setCell ⟨B, 0, none⟩ (.int .i64 2)).setCell ⟨B, 1, none⟩ (.int .i64 z1)).setCell ⟨B, 2, none⟩ (.int .i64 z2)).setCell ⟨B, 3, none⟩ (.int .i64 0)).setCell ⟨B, 4, none⟩ (.string s3)).drew B 0 ⟨2, z1, z2, 0, s3⟩) := hP.below (Below.refl _ _).drew
    have HQ9 : Hid (Below w.heap.size w (((((w9.setCell ⟨B, 0, none⟩ (.int .i64 2)).setCell ⟨B, 1, none⟩ (.int .i64 z1)).setCell ⟨B, 2, none⟩ (.int .i64 z2)).setCell ⟨B, 3, none⟩ (.int .i64 0)).setCell ⟨B, 4, none⟩ (.string s3)).drew) := hQ.drew
    clear hrow gf H9 hP hQ
    go_region
    go_wp2
    refine step_end (v := .bool true) HP9.out rfl rfl rfl ?_
    rw [HE.out]
    refine ⟨?_, HQ9.out⟩
    rw [← HS3.out]
    rfl
  ·have hpb : ((bl b0).toList == ([112, 117, 116] : List UInt8)) = false := by rw [ba_beq_list]; simp only [decide_eq_false_iff_not]; exact fun e => hp (bl_inj e)
   have HE : Hid (putOf s.data.toList = none) := by show _ = _; rw [HPO.out]; exact if_neg hp
   clear HPO hp
   obtain ⟨s0, hs0⟩ : ∃ s0, bl b0 = s0 := ⟨_, rfl⟩
   obtain ⟨s1, hs1⟩ : ∃ s1, bl b1 = s1 := ⟨_, rfl⟩
   obtain ⟨s2, hs2⟩ : ∃ s2, bl b2 = s2 := ⟨_, rfl⟩
   obtain ⟨s3, hs3⟩ : ∃ s3, bl b3 = s3 := ⟨_, rfl⟩
   rw [hs0] at hpb
   rw [hs0, hs1, hs2, hs3] at HSP HPS
   clear hs0 hs1 hs2 hs3
   go_enter Tryz.func24, Tryz.ntmps24
   go_wp2_with fail
   refine (HSP.out _ HR1.out).mono ?_
   rintro e w1 ⟨rfl, rfl⟩
   clear HSP HR1
   simp only [World.size_alloc] at *
   generalize World.alloc _ (Obj.cells (Lib.cellsOf _ _) _) = w2 at *
   generalize hBW : w.heap.size + 1 = BW at *
   generalize hB : w.heap.size = B at *
   have c0 := HPS.out.words.cell 0 (by simp)
   have hlw := HPS.out.words.lt
   simp only [Nat.add_zero, List.getElem_cons_zero] at c0
   simp only [List.length_cons, List.length_nil, Nat.zero_add]
   obtain ⟨⟨hlb, g0, g1, g2, g3, g4⟩, gf⟩ := HPS.out.step
   have f0 := gf 0 (by omega)
   have f1 := gf 1 (by omega)
   have f2 := gf 2 (by omega)
   have f3 := gf 3 (by omega)
   have f4 := gf 4 (by omega)
   simp only [Nat.zero_add] at g0 g1 g2 g3 g4
   go_wp2
   refine step_end (x := zTs) (HPS.out.step.put zTs) rfl rfl rfl ?_
   rw [HE.out]
   exact ⟨rfl, below_put5S HPS.out.below (by omega) zTs⟩
 ·have HE : Hid (putOf s.data.toList = none) := by show _ = _; rw [HPO.out]; exact putFour_no (by rw [HCL.out]; exact h4)
  have hne : (((fourOf s).length : Int) != 4) = true := by simp; omega
  obtain ⟨nf, hnf⟩ : ∃ nf, (fourOf s).length = nf := ⟨_, rfl⟩
  obtain ⟨nc, hnc⟩ : ∃ nc, min 4 (s.size + 1) = nc := ⟨_, rfl⟩
  obtain ⟨cs, hcs⟩ : ∃ cs, Lib.cellsOf (fourOf s) nc = cs := ⟨_, rfl⟩
  rw [hnc, hcs, hnf] at HSP
  rw [hnf] at hne
  have HT1 : Hid (TsF ((w.alloc (tsObj zTs)).alloc (.cells cs 9)) w.heap.size zTs) := HT0.out.below (below1 _ _)
  have HB1 : Hid (Below w.heap.size w ((w.alloc (tsObj zTs)).alloc (.cells cs 9))) := bla (below1 _ _) (below1 _ _)
  have HR1 : Hid (Ready (w.alloc (tsObj zTs))) := hw.below (below1 _ _)
  clear hnf hnc hcs hw hs h4 HFW HCL HPO HT0 HB0 HR
  go_enter Tryz.func24, Tryz.ntmps24
  go_wp2_with fail
  refine (HSP.out _ HR1.out).mono ?_
  rintro e w1 ⟨rfl, rfl⟩
  clear HSP
  generalize World.alloc _ (Obj.cells cs _) = w2 at *
  obtain ⟨⟨hlb, g0, g1, g2, g3, g4⟩, gf⟩ := HT1.out
  have f0 := gf 0 (by omega)
  have f1 := gf 1 (by omega)
  have f2 := gf 2 (by omega)
  have f3 := gf 3 (by omega)
  have f4 := gf 4 (by omega)
  simp only [Nat.zero_add] at g0 g1 g2 g3 g4
  go_wp2
  refine step_end (x := zTs) (HT1.out.put zTs) rfl rfl rfl ?_
  rw [HE.out]
  exact ⟨rfl, below_put5S HB1.out (Nat.le_refl _) zTs⟩
end Go.Proofs.YtcbnnfeelhlapadGreatDoor
