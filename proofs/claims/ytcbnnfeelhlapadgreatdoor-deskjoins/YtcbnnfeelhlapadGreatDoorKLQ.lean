/-
  What is asked of all: askOfAll; and ask.
-/
import Derived.Test.YtcbnnfeelhlapadGreatDoorKLO
import Derived.Test.YtcbnnfeelhlapadGreatDoorLMem
namespace Go.Proofs.YtcbnnfeelhlapadGreatDoor
set_option maxRecDepth 20000
open Go Go.RowKit
section
variable {base R D G : Nat} {pw : Nat → Nat} {w0 wk w' : World} {S : Nat → Prop} {told : List UInt8} {t : Twn}
theorem LkIn.leasts (h : LkIn base w0 S R D G pw told t wk) : Calls Tryz.prog 84 #[.pointer (some ⟨G, 0, none⟩)] wk fun e w' => e = .returned (.int .i64 (leastL t.b)) ∧ Below wk.heap.size wk w' := by
 obtain ⟨tk, h1, h2⟩ := h.any
 obtain ⟨T, dv, lv, hl, _⟩ := h1.log
 exact least_lg hl h2.ti.good
theorem LkIn.numbersSaid (h : LkIn base w0 S R D G pw told t wk) (wd : ByteArray) {v : Value} {zs : List Int} (hv : ILst wk v zs) (hi : ∀ z ∈ zs, inI z) (hn : zs.length ≤ 1000) (hw : wd.size ≤ 100) (hz : told.length ≤ 800000000) :
 Calls Tryz.prog 68 #[.pointer (some ⟨R, 0, none⟩), .string wd, v] wk fun e w' => e = .returned (.tuple #[]) ∧ LkIn base w0 S R D G pw (told ++ ((wd.data.toList ++ numsW zs) ++ [10])) t w' :=
 h.tells (Below.refl _ _) fun _ a1 a2 _ a4 => sayNumbers_lk a1 a2 a4 wd hv hi hn hw hz
theorem ilst_two (w : World) (y z : Int) : ILst (w.alloc (.cells #[.int .i64 y, .int .i64 z] 3)) (.slice (some ⟨w.heap.size, 0, none⟩) 2 2) [y, z] :=
 ⟨_, 2, 2, rfl, rfl, Nat.le_refl _, .inr ⟨_, 0, rfl, by simp, fun i hi => by
  have h2 : i < 2 := hi
  rcases (show i = 0 ∨ i = 1 by omega) with rfl | rfl <;> simp [go_sem]⟩⟩
def all0 (t : Twn) (k : List UInt8) : List UInt8 × Twn :=
 if k = [116, 101, 120, 116] then (textW (textL t.b.chars), t)
 else if k = [108, 111, 103] then (linesW t.b.ds ++ endW, t)
 else if k = [115, 101, 116, 116, 108, 101] then (okW, settleT t)
 else if k = [108, 101, 97, 115, 116] then (leastWd (leastL t.b) t.b.len, t)
 else (whatW, t)
theorem cmd_all (t : Twn) (k : List UInt8) : cmdK t k [] = all0 t k := by
 unfold cmdK all0
 by_cases h0 : k = [116, 101, 120, 116]
 ·subst h0; simp
 by_cases h1 : k = [108, 111, 103]
 ·subst h1; simp
 by_cases h2 : k = [115, 101, 116, 116, 108, 101]
 ·subst h2; simp
 by_cases h3 : k = [108, 101, 97, 115, 116]
 ·subst h3; simp
 simp [h0, h1, h2, h3]
theorem cmd_three (t : Twn) (k : List UInt8) (a b c : Int) : cmdK t k [a, b, c] = if k = [116, 97, 107, 101] then stepK t ⟨3, a, b, c, ⟨#[]⟩⟩ else (whatW, t) := by
 unfold cmdK
 by_cases h : k = [116, 97, 107, 101]
 ·subst h; simp
 ·simp [h]
set_option maxHeartbeats 6400000 in
theorem askOfAll_lk (h : LkIn base w0 S R D G pw told t wk) (k : List UInt8) (hz : told.length ≤ 500000000) :
 Calls Tryz.prog 54 #[.pointer (some ⟨R, 0, none⟩), .string (bl k)] wk fun e w' => e = .returned (.tuple #[]) ∧ ∃ pw', LkIn base w0 S R D G pw' (told ++ (cmdK t k []).1) (cmdK t k []).2 w' := by
 have HI : Hid (LkIn base w0 S R D G pw told t wk) := h
 have HEQ : Hid (∀ wd : List UInt8, k = wd → ((bl k).toList == wd) = true) := fun wd e => by rw [ba_beq_list, e]; simp
 have HNE : Hid (∀ wd : List UInt8, k ≠ wd → ((bl k).toList == wd) = false) := fun wd e => by rw [ba_beq_list]; simp only [decide_eq_false_iff_not]; exact fun e' => e (bl_inj e')
 obtain ⟨sk, hsk⟩ : ∃ sk, bl k = sk := ⟨_, rfl⟩
 obtain ⟨c2, hR⟩ := h.cell
 obtain ⟨c3, hD⟩ := h.log
 rw [hsk] at HEQ HNE ⊢
 clear h hsk
 by_cases hc : k = [116, 101, 120, 116]
 ·have hb0 : (sk.toList == ([116, 101, 120, 116] : List UInt8)) = true := HEQ.out _ hc
  have HV : Hid (cmdK t k [] = (textW (textL t.b.chars), t)) := by
   show _ = _
   rw [cmd_all]
   unfold all0
   rw [if_pos hc]
  clear hc
  have HSZ : Hid ((strOfNums (textL t.b.chars)).size ≤ 200) := by
   show _ ≤ _
   rw [strOfNums_size]
   unfold textL
   rw [List.length_map]
   have := List.length_filter_le textB t.b.chars
   have := small_chars (b := t.b)
   omega
  have HTX : Hid (Calls Tryz.prog 80 #[.pointer (some ⟨G, 0, none⟩)] wk fun e w' => e = .returned (.string (strOfNums (textL t.b.chars))) ∧ Below wk.heap.size wk w') := HI.out.any.text
  have HTW : Hid (textW (textL t.b.chars) = jnB [[116, 101, 120, 116], (strOfNums (textL t.b.chars)).data.toList] ++ [10]) := text_join _
  rw [HTW.out] at HV
  obtain ⟨st, hst⟩ : ∃ st, strOfNums (textL t.b.chars) = st := ⟨_, rfl⟩
  rw [hst] at HSZ HTX HV
  clear hst HTW
  go_enter Tryz.func54, Tryz.ntmps54
  go_wp2_with fail
  clear c2 hR c3 hD
  refine HTX.out.mono ?_
  rintro e w5 ⟨rfl, hb⟩
  have H5 : Hid (LkIn base w0 S R D G pw told t w5) := HI.out.after hb
  clear hb HI HTX
  go_wp2_with fail
  refine (H5.out.says2 ⟨#[116, 101, 120, 116]⟩ st (by have := HSZ.out; show _ + (4 + _) ≤ _; omega)).mono ?_
  rintro e w6 ⟨rfl, h6⟩
  have H6 : Hid (∃ pw', LkIn base w0 S R D G pw' (told ++ (cmdK t k []).1) (cmdK t k []).2 w6) := by rw [HV.out]; exact ⟨pw, h6⟩
  clear h6 H5
  go_wp2_with fail
  go_end0
  exact ⟨rfl, H6.out⟩
 have hn0 : k ≠ [116, 101, 120, 116] := hc
 clear hc
 by_cases hc : k = [108, 111, 103]
 ·have hb0 : (sk.toList == ([116, 101, 120, 116] : List UInt8)) = false := HNE.out _ hn0
  have hb1 : (sk.toList == ([108, 111, 103] : List UInt8)) = true := HEQ.out _ hc
  have HV : Hid (cmdK t k [] = (linesW t.b.ds ++ endW, t)) := by
   show _ = _
   rw [cmd_all]
   unfold all0
   rw [if_neg hn0, if_pos hc]
  clear hn0 hc
  have HSM : Hid (t.b.ds.length ≤ 1000) := by show _ ≤ _; have := HI.out.ti.good.small; omega
  go_enter Tryz.func54, Tryz.ntmps54
  go_wp2_with fail
  clear c2 hR c3 hD
  refine (logged_lk HI.out).mono ?_
  rintro e w5 ⟨lv, rfl, ho, hb⟩
  have HO : Hid (OwnD w5 wk.heap.size lv t.b.ds) := ho
  have HB : Hid (Below wk.heap.size wk w5) := hb
  obtain ⟨la, lc, rfl⟩ := dl_len ho.dlst
  clear ho hb
  go_wp2_with fail
  refine (HI.out.lists HB.out HO.out HSM.out (by omega)).mono ?_
  rintro e w6 ⟨rfl, h6⟩
  have H6 : Hid (∃ pw', LkIn base w0 S R D G pw' (told ++ (cmdK t k []).1) (cmdK t k []).2 w6) := by rw [HV.out]; exact ⟨pw, h6⟩
  clear h6 HI
  go_wp2_with fail
  go_end0
  exact ⟨rfl, H6.out⟩
 have hn1 : k ≠ [108, 111, 103] := hc
 clear hc
 by_cases hc : k = [115, 101, 116, 116, 108, 101]
 ·have hb0 : (sk.toList == ([116, 101, 120, 116] : List UInt8)) = false := HNE.out _ hn0
  have hb1 : (sk.toList == ([108, 111, 103] : List UInt8)) = false := HNE.out _ hn1
  have hb2 : (sk.toList == ([115, 101, 116, 116, 108, 101] : List UInt8)) = true := HEQ.out _ hc
  have HV : Hid (cmdK t k [] = (okW, settleT t)) := by
   show _ = _
   rw [cmd_all]
   unfold all0
   rw [if_neg hn0, if_neg hn1, if_pos hc]
  clear hn0 hn1 hc
  go_enter Tryz.func54, Tryz.ntmps54
  go_wp2_with fail
  clear c2 hR c3 hD
  refine HI.out.settles.mono ?_
  rintro e w5 ⟨rfl, h5⟩
  have H5 : Hid (LkIn base w0 S R D G pw told (settleT t) w5) := h5
  clear h5 HI
  go_wp2_with fail
  refine (H5.out.says ⟨#[111, 107]⟩ (by show _ + 2 ≤ _; omega)).mono ?_
  rintro e w6 ⟨rfl, h6⟩
  have H6 : Hid (∃ pw', LkIn base w0 S R D G pw' (told ++ (cmdK t k []).1) (cmdK t k []).2 w6) := by rw [HV.out]; exact ⟨pw, h6⟩
  clear h6 H5
  go_wp2_with fail
  go_end0
  exact ⟨rfl, H6.out⟩
 have hn2 : k ≠ [115, 101, 116, 116, 108, 101] := hc
 clear hc
 by_cases hc : k = [108, 101, 97, 115, 116]
 ·have hb0 : (sk.toList == ([116, 101, 120, 116] : List UInt8)) = false := HNE.out _ hn0
  have hb1 : (sk.toList == ([108, 111, 103] : List UInt8)) = false := HNE.out _ hn1
  have hb2 : (sk.toList == ([115, 101, 116, 116, 108, 101] : List UInt8)) = false := HNE.out _ hn2
  have hb3 : (sk.toList == ([108, 101, 97, 115, 116] : List UInt8)) = true := HEQ.out _ hc
  have HV : Hid (cmdK t k [] = (leastWd (leastL t.b) t.b.len, t)) := by
   show _ = _
   rw [cmd_all]
   unfold all0
   rw [if_neg hn0, if_neg hn1, if_neg hn2, if_pos hc]
  clear hn0 hn1 hn2 hc
  clear c2 hR c3 hD
  have hG := HI.out.ti.good
  have hle := least_len t.b
  have hsm := hG.small
  have hge : 0 ≤ leastL t.b := least_ge (by show (0 : Int) ≤ (t.b.ds.length : Int); omega) (fun w _ _ => (hG.said w).1)
  have hlen : t.b.len = (t.b.ds.length : Int) := rfl
  have HLS : Hid (∀ wk, (∃ tx, LkIn base w0 S R D G pw tx t wk) → Calls Tryz.prog 84 #[.pointer (some ⟨G, 0, none⟩)] wk fun e w' => e = .returned (.int .i64 (leastL t.b)) ∧ Below wk.heap.size wk w') := fun wk ⟨_, h⟩ => h.leasts
  have HLE : Hid (∀ wk, (∃ tx, LkIn base w0 S R D G pw tx t wk) → Calls Tryz.prog 85 #[.pointer (some ⟨G, 0, none⟩)] wk fun e w' => e = .returned (.int .i64 t.b.ds.length) ∧ w' = wk) := fun wk ⟨_, h⟩ => h.any.len
  have HIN : Hid (∀ z ∈ [leastL t.b, (t.b.ds.length : Int)], inI z) := fun z hz => by
   simp only [List.mem_cons, List.not_mem_nil, or_false] at hz
   unfold inI
   rcases hz with rfl | rfl <;> omega
  have HLW : Hid (leastWd (leastL t.b) t.b.len = ([108, 101, 97, 115, 116] ++ numsW [leastL t.b, (t.b.ds.length : Int)]) ++ [10]) := leastW_join _ _
  rw [HLW.out] at HV
  obtain ⟨lN, hlN⟩ : ∃ lN : Int, (t.b.ds.length : Int) = lN := ⟨_, rfl⟩
  obtain ⟨lL, hlL⟩ : ∃ lL, leastL t.b = lL := ⟨_, rfl⟩
  rw [hlN] at HLE HIN HV
  rw [hlL] at HLS HIN HV
  clear hG hle hsm hge hlen hlN hlL HLW
  go_enter Tryz.func54, Tryz.ntmps54
  go_wp2_with fail
  refine wp_region_grow (fun wk => ∃ tx, LkIn base w0 S R D G pw tx t wk) (fun i => i == 17 || i == 18) (fun wk => LkIn base w0 S R D G pw told t wk) (by kernel_rfl) (by kernel_rfl) (by kernel_rfl) (fun _ h => ⟨_, h⟩) (fun _ _ h hb => h.after hb) (HI.out.after (Below.refl _ _).drew) ?_
  refine wgb (some 38) w0 rfl (.pointer (some ⟨R, 0, none⟩)) rfl (by kernel_rfl) (fun wk hwk => ?_) ?_
  ·refine gus ?_
   generalize hA : Act.eval _ = ρ
   have s0 : ρ (.tmp 0) = .pointer (some ⟨R, 0, none⟩) := by rw [← hA]; kernel_rfl
   clear hA
   go_simp
  go_big_quiet_op
  refine wgb (some 39) w0 rfl (.pointer (some ⟨R, 0, none⟩)) rfl (by kernel_rfl) (fun wk hwk => ?_) ?_
  ·refine gus ?_
   generalize hA : Act.eval _ = ρ
   have s0 : ρ (.tmp 0) = .pointer (some ⟨R, 0, none⟩) := by rw [← hA]; kernel_rfl
   clear hA
   go_simp
  go_big_quiet_op
  refine wgb (some 40) w0 rfl (.pointer (some ⟨R, 0, none⟩)) rfl (by kernel_rfl) (fun wk hwk => ?_) ?_
  ·refine gus ?_
   generalize hA : Act.eval _ = ρ
   have s39 : ρ (.tmp 39) = .pointer (some ⟨R, 0, none⟩) := by rw [← hA]; kernel_rfl
   clear hA
   go_simp
  go_big_quiet_op
  refine wgb (some 41) w0 rfl (.pointer (some ⟨R, 2, none⟩)) rfl (by kernel_rfl) (fun wk hwk => ?_) ?_
  ·refine gus ?_
   generalize hA : Act.eval _ = ρ
   have s40 : ρ (.tmp 40) = .pointer (some ⟨R, 0, none⟩) := by rw [← hA]; kernel_rfl
   clear hA
   go_simp
  go_big_quiet_op
  refine wgb (some 42) w0 rfl (.pointer (some ⟨D, 0, none⟩)) rfl (by kernel_rfl) (fun wk hwk => ?_) ?_
  ·refine gus ?_
   generalize hA : Act.eval _ = ρ
   have s41 : ρ (.tmp 41) = .pointer (some ⟨R, 2, none⟩) := by rw [← hA]; kernel_rfl
   clear hA
   obtain ⟨tx, hx⟩ := hwk
   obtain ⟨c2, hR⟩ := hx.cell
   go_simp
  go_big_quiet_op
  refine wgb (some 43) w0 rfl (.pointer (some ⟨D, 0, none⟩)) rfl (by kernel_rfl) (fun wk hwk => ?_) ?_
  ·refine gus ?_
   generalize hA : Act.eval _ = ρ
   have s42 : ρ (.tmp 42) = .pointer (some ⟨D, 0, none⟩) := by rw [← hA]; kernel_rfl
   clear hA
   go_simp
  go_big_quiet_op
  refine wgb (some 44) w0 rfl (.pointer (some ⟨D, 0, none⟩)) rfl (by kernel_rfl) (fun wk hwk => ?_) ?_
  ·refine gus ?_
   generalize hA : Act.eval _ = ρ
   have s43 : ρ (.tmp 43) = .pointer (some ⟨D, 0, none⟩) := by rw [← hA]; kernel_rfl
   clear hA
   go_simp
  go_big_quiet_op
  refine wgb (some 45) w0 rfl (.pointer (some ⟨G, 0, none⟩)) rfl (by kernel_rfl) (fun wk hwk => ?_) ?_
  ·refine gus ?_
   generalize hA : Act.eval _ = ρ
   have s44 : ρ (.tmp 44) = .pointer (some ⟨D, 0, none⟩) := by rw [← hA]; kernel_rfl
   clear hA
   obtain ⟨tx, hx⟩ := hwk
   obtain ⟨c3, hD⟩ := hx.log
   go_simp
  go_big_quiet_op
  refine wgb (some 46) w0 rfl (.int .i64 (lL)) rfl (by kernel_rfl) (fun wk hwk => ?_) ?_
  ·generalize hA : Act.eval _ = ρ
   have s45 : ρ (.tmp 45) = .pointer (some ⟨G, 0, none⟩) := by rw [← hA]; kernel_rfl
   have sf : ρ (.func 84) = .func (.func 84) #[] #[] := by rw [← hA]; kernel_rfl
   clear hA
   unfold growUpon
   go_simp
   exact HLS.out wk hwk
  go_big_quiet_op
  refine wgb (some 47) w0 rfl (.pointer (some ⟨R, 0, none⟩)) rfl (by kernel_rfl) (fun wk hwk => ?_) ?_
  ·refine gus ?_
   generalize hA : Act.eval _ = ρ
   have s0 : ρ (.tmp 0) = .pointer (some ⟨R, 0, none⟩) := by rw [← hA]; kernel_rfl
   clear hA
   go_simp
  go_big_quiet_op
  refine wgb (some 48) w0 rfl (.pointer (some ⟨R, 0, none⟩)) rfl (by kernel_rfl) (fun wk hwk => ?_) ?_
  ·refine gus ?_
   generalize hA : Act.eval _ = ρ
   have s47 : ρ (.tmp 47) = .pointer (some ⟨R, 0, none⟩) := by rw [← hA]; kernel_rfl
   clear hA
   go_simp
  go_big_quiet_op
  refine wgb (some 49) w0 rfl (.pointer (some ⟨R, 2, none⟩)) rfl (by kernel_rfl) (fun wk hwk => ?_) ?_
  ·refine gus ?_
   generalize hA : Act.eval _ = ρ
   have s48 : ρ (.tmp 48) = .pointer (some ⟨R, 0, none⟩) := by rw [← hA]; kernel_rfl
   clear hA
   go_simp
  go_big_quiet_op
  refine wgb (some 50) w0 rfl (.pointer (some ⟨D, 0, none⟩)) rfl (by kernel_rfl) (fun wk hwk => ?_) ?_
  ·refine gus ?_
   generalize hA : Act.eval _ = ρ
   have s49 : ρ (.tmp 49) = .pointer (some ⟨R, 2, none⟩) := by rw [← hA]; kernel_rfl
   clear hA
   obtain ⟨tx, hx⟩ := hwk
   obtain ⟨c2, hR⟩ := hx.cell
   go_simp
  go_big_quiet_op
  refine wgb (some 51) w0 rfl (.pointer (some ⟨D, 0, none⟩)) rfl (by kernel_rfl) (fun wk hwk => ?_) ?_
  ·refine gus ?_
   generalize hA : Act.eval _ = ρ
   have s50 : ρ (.tmp 50) = .pointer (some ⟨D, 0, none⟩) := by rw [← hA]; kernel_rfl
   clear hA
   go_simp
  go_big_quiet_op
  refine wgb (some 52) w0 rfl (.pointer (some ⟨D, 0, none⟩)) rfl (by kernel_rfl) (fun wk hwk => ?_) ?_
  ·refine gus ?_
   generalize hA : Act.eval _ = ρ
   have s51 : ρ (.tmp 51) = .pointer (some ⟨D, 0, none⟩) := by rw [← hA]; kernel_rfl
   clear hA
   go_simp
  go_big_quiet_op
  refine wgb (some 53) w0 rfl (.pointer (some ⟨G, 0, none⟩)) rfl (by kernel_rfl) (fun wk hwk => ?_) ?_
  ·refine gus ?_
   generalize hA : Act.eval _ = ρ
   have s52 : ρ (.tmp 52) = .pointer (some ⟨D, 0, none⟩) := by rw [← hA]; kernel_rfl
   clear hA
   obtain ⟨tx, hx⟩ := hwk
   obtain ⟨c3, hD⟩ := hx.log
   go_simp
  go_big_quiet_op
  refine wgb (some 54) w0 rfl (.int .i64 (lN)) rfl (by kernel_rfl) (fun wk hwk => ?_) ?_
  ·generalize hA : Act.eval _ = ρ
   have s53 : ρ (.tmp 53) = .pointer (some ⟨G, 0, none⟩) := by rw [← hA]; kernel_rfl
   have sf : ρ (.func 85) = .func (.func 85) #[] #[] := by rw [← hA]; kernel_rfl
   clear hA
   unfold growUpon
   go_simp
   exact (HLE.out wk hwk).mono (fun _ _ ⟨he, hw⟩ => ⟨he, by rw [hw]; exact Below.refl _ _⟩)
  go_big_quiet_op
  refine wpGrow_bigSpine (some 55) w0 rfl rfl rfl (fun u => ∃ E, u = .slice (some ⟨E, 0, none⟩) 2 2) (fun u wk => LkIn base w0 S R D G pw told t wk ∧ ILst wk u [lL, lN]) (⟨.slice (some ⟨0, 0, none⟩) 2 2, 0, rfl⟩) (fun _ _ h => ⟨_, h.1⟩) (fun _ _ _ h hb => ⟨h.1.after hb, h.2.below hb⟩) (fun wk hwk => ?_) (fun u9 hu9 => ?_)
  ·generalize hA : Act.eval _ = ρ
   have s46 : ρ (.tmp 46) = .int .i64 (lL) := by rw [← hA]; kernel_rfl
   have s54 : ρ (.tmp 54) = .int .i64 (lN) := by rw [← hA]; kernel_rfl
   clear hA
   have hq1 := ilst_two wk lL lN
   have hq2 := hwk.after (below1 wk (.cells #[.int .i64 lL, .int .i64 lN] 3))
   go_simp
   exact ⟨⟨_, rfl⟩, hq2, hq1⟩
  obtain ⟨E, rfl⟩ := hu9
  go_big_quiet_op
  refine wpGrow_bigSpine (some 56) w0 rfl rfl rfl (fun u => u = .tuple #[]) (fun _ wk => LkIn base w0 S R D G pw (told ++ (([108, 101, 97, 115, 116] ++ numsW [lL, lN]) ++ [10])) t wk) (⟨_, rfl⟩) (fun _ _ h => ⟨_, h⟩) (fun _ _ _ h hb => h.after hb) (fun wk hwk => ?_) (fun u9 hu9 => ?_)
  ·generalize hA : Act.eval _ = ρ
   have s38 : ρ (.tmp 38) = .pointer (some ⟨R, 0, none⟩) := by rw [← hA]; kernel_rfl
   have s55 : ρ (.tmp 55) = .slice (some ⟨E, 0, none⟩) 2 2 := by rw [← hA]; kernel_rfl
   have k2 : ρ (.const (.string ⟨#[108, 101, 97, 115, 116]⟩)) = .string ⟨#[108, 101, 97, 115, 116]⟩ := by rw [← hA]; kernel_rfl
   have sf : ρ (.func 68) = .func (.func 68) #[] #[] := by rw [← hA]; kernel_rfl
   clear hA
   go_simp
   refine (hwk.1.numbersSaid ⟨#[108, 101, 97, 115, 116]⟩ hwk.2 HIN.out (by simp) (by decide) (by omega)).mono ?_
   rintro e w7 ⟨rfl, h7⟩
   exact ⟨_, rfl, rfl, h7⟩
  subst hu9
  go_big_quiet_op
  refine wpGrow_nil (fun w6 h6 => ?_)
  have H6 : Hid (∃ pw', LkIn base w0 S R D G pw' (told ++ (cmdK t k []).1) (cmdK t k []).2 w6) := by rw [HV.out]; exact ⟨pw, h6⟩
  clear h6 HI
  go_wp2_with fail
  go_end0
  exact ⟨rfl, H6.out⟩
 have hn3 : k ≠ [108, 101, 97, 115, 116] := hc
 clear hc
 have hb0 : (sk.toList == ([116, 101, 120, 116] : List UInt8)) = false := HNE.out _ hn0
 have hb1 : (sk.toList == ([108, 111, 103] : List UInt8)) = false := HNE.out _ hn1
 have hb2 : (sk.toList == ([115, 101, 116, 116, 108, 101] : List UInt8)) = false := HNE.out _ hn2
 have hb3 : (sk.toList == ([108, 101, 97, 115, 116] : List UInt8)) = false := HNE.out _ hn3
 have HV : Hid (cmdK t k [] = (whatW, t)) := by
  show _ = _
  rw [cmd_all]
  unfold all0
  rw [if_neg hn0, if_neg hn1, if_neg hn2, if_neg hn3]
 clear hn0 hn1 hn2 hn3
 go_enter Tryz.func54, Tryz.ntmps54
 go_wp2_with fail
 clear c2 hR c3 hD
 refine (HI.out.whats (by omega)).mono ?_
 rintro e w6 ⟨rfl, h6⟩
 have H6 : Hid (∃ pw', LkIn base w0 S R D G pw' (told ++ (cmdK t k []).1) (cmdK t k []).2 w6) := by rw [HV.out]; exact ⟨pw, h6⟩
 clear h6 HI
 go_wp2_with fail
 go_end0
 exact ⟨rfl, H6.out⟩
set_option maxHeartbeats 6400000 in
theorem ask_lk (h : LkIn base w0 S R D G pw told t wk) (k : List UInt8) {v : Value} {zs : List Int} (hv : ILst wk v zs) (hz : told.length ≤ 400000000) :
 Calls Tryz.prog 29 #[.pointer (some ⟨R, 0, none⟩), .string (bl k), v] wk fun e w' => e = .returned (.tuple #[]) ∧ ∃ pw', LkIn base w0 S R D G pw' (told ++ (cmdK t k zs).1) (cmdK t k zs).2 w' := by
 have HI : Hid (LkIn base w0 S R D G pw told t wk) := h
 obtain ⟨va, vc, rfl⟩ := hv.len
 by_cases h0 : zs.length = 0
 ·obtain rfl := List.length_eq_zero_iff.1 h0
  have HC : Hid (Calls Tryz.prog 54 #[.pointer (some ⟨R, 0, none⟩), .string (bl k)] wk fun e w' => e = .returned (.tuple #[]) ∧ ∃ pw', LkIn base w0 S R D G pw' (told ++ (cmdK t k []).1) (cmdK t k []).2 w') := askOfAll_lk h k (by omega)
  clear h hv h0
  simp only [List.length_nil]
  generalize bl k = sk at *
  go_enter Tryz.func29, Tryz.ntmps29
  go_wp2_with fail
  refine HC.out.mono ?_
  rintro e w6 ⟨rfl, h6⟩
  have H6 : Hid (∃ pw', LkIn base w0 S R D G pw' (told ++ (cmdK t k []).1) (cmdK t k []).2 w6) := h6
  clear h6 HC HI
  go_wp2_with fail
  go_end0
  exact ⟨rfl, H6.out⟩
 by_cases h1 : zs.length = 1
 ·obtain ⟨z, rfl⟩ := List.length_eq_one_iff.1 h1
  obtain ⟨nb, no, rfl, hnb, hrow⟩ := ilst_row hv (by simp)
  have c0 := hrow 0 (by simp)
  simp only [List.getElem_cons_zero, Nat.add_zero] at c0
  have HC : Hid (Calls Tryz.prog 55 #[.pointer (some ⟨R, 0, none⟩), .string (bl k), .int .i64 z] wk fun e w' => e = .returned (.tuple #[]) ∧ ∃ pw', LkIn base w0 S R D G pw' (told ++ (cmdK t k [z]).1) (cmdK t k [z]).2 w') := askOfOne_lk h k z (by omega)
  clear h hv h0 h1 hrow
  simp only [List.length_cons, List.length_nil, Nat.zero_add]
  generalize bl k = sk at *
  go_enter Tryz.func29, Tryz.ntmps29
  go_wp2_with fail
  clear c0 hnb
  refine HC.out.mono ?_
  rintro e w6 ⟨rfl, h6⟩
  have H6 : Hid (∃ pw', LkIn base w0 S R D G pw' (told ++ (cmdK t k [z]).1) (cmdK t k [z]).2 w6) := h6
  clear h6 HC HI
  go_wp2_with fail
  go_end0
  exact ⟨rfl, H6.out⟩
 have HEQ : Hid (∀ wd : List UInt8, k = wd → ((bl k).toList == wd) = true) := fun wd e => by rw [ba_beq_list, e]; simp
 have HNE : Hid (∀ wd : List UInt8, k ≠ wd → ((bl k).toList == wd) = false) := fun wd e => by rw [ba_beq_list]; simp only [decide_eq_false_iff_not]; exact fun e' => e (bl_inj e')
 obtain ⟨sk, hsk⟩ : ∃ sk, bl k = sk := ⟨_, rfl⟩
 rw [hsk] at HEQ HNE ⊢
 clear hsk
 by_cases h3 : zs.length = 3
 ·obtain ⟨z0, z1, z2, rfl⟩ : ∃ z0 z1 z2, zs = [z0, z1, z2] := by
   match zs, h3 with
   | [a, b, c], _ => exact ⟨a, b, c, rfl⟩
  obtain ⟨nb, no, rfl, _, _⟩ := ilst_row hv (by simp)
  simp only [List.length_cons, List.length_nil, Nat.zero_add]
  have HL : Hid (ILst wk (.slice (some ⟨nb, no, none⟩) 3 vc) [z0, z1, z2]) := hv
  by_cases hc : k = [116, 97, 107, 101]
  ·have hb0 : (sk.toList == ([116, 97, 107, 101] : List UInt8)) = true := HEQ.out _ hc
   have HV : Hid (cmdK t k [z0, z1, z2] = stepK t ⟨3, z0, z1, z2, ⟨#[]⟩⟩) := by show _ = _; rw [cmd_three, if_pos hc]
   clear h hv h0 h1 h3 hc
   have HCE : Hid (∀ wk, (LkIn base w0 S R D G pw told t wk ∧ ILst wk (.slice (some ⟨nb, no, none⟩) 3 vc) [z0, z1, z2]) → (∀ i (h : i < [z0, z1, z2].length), wk.cell? ⟨nb, no + i, none⟩ = some (.int .i64 [z0, z1, z2][i])) ∧ nb < wk.heap.size) := fun wk hwk => by
    obtain ⟨b3, o3, e3, l3, r3⟩ := ilst_row hwk.2 (by decide)
    cases e3
    exact ⟨r3, l3⟩
   go_enter Tryz.func29, Tryz.ntmps29
   go_wp2_with fail
   refine wp_region_finX (fun wk => LkIn base w0 S R D G pw told t wk ∧ ILst wk (.slice (some ⟨nb, no, none⟩) 3 vc) [z0, z1, z2]) (fun i => i == 11) (fun i => i == 11) (fun wk => LkIn base w0 S R D G pw told t wk ∧ ILst wk (.slice (some ⟨nb, no, none⟩) 3 vc) [z0, z1, z2]) (by kernel_rfl) (by kernel_rfl) (by kernel_rfl) (by kernel_rfl) (fun _ h => h) ⟨HI.out.after (Below.refl _ _).drew, HL.out.below (Below.refl _ _).drew⟩ ?_
   refine wpFin_big (some 33) w0 rfl (.pointer (some ⟨R, 0, none⟩)) rfl (by kernel_rfl) (fun wk hwk => ?_) ?_
   ·generalize hA : Act.eval _ = ρ
    have s0 : ρ (.tmp 0) = .pointer (some ⟨R, 0, none⟩) := by rw [← hA]; kernel_rfl
    clear hA
    go_simp
   go_big_quiet_op
   refine wpFin_big (some 34) w0 rfl (.slice (some ⟨nb, no, none⟩) 3 vc) rfl (by kernel_rfl) (fun wk hwk => ?_) ?_
   ·generalize hA : Act.eval _ = ρ
    have s2 : ρ (.tmp 2) = .slice (some ⟨nb, no, none⟩) 3 vc := by rw [← hA]; kernel_rfl
    clear hA
    go_simp
   go_big_quiet_op
   refine wpFin_big (some 35) w0 rfl (.pointer (some ⟨nb, no + 0, none⟩)) rfl (by kernel_rfl) (fun wk hwk => ?_) ?_
   ·generalize hA : Act.eval _ = ρ
    have s34 : ρ (.tmp 34) = .slice (some ⟨nb, no, none⟩) 3 vc := by rw [← hA]; kernel_rfl
    have k1 : ρ (.const (.int .i64 (0))) = .int .i64 (0) := by rw [← hA]; kernel_rfl
    clear hA
    go_simp
   go_big_quiet_op
   refine wpFin_big (some 36) w0 rfl (.int .i64 (z0)) rfl (by kernel_rfl) (fun wk hwk => ?_) ?_
   ·generalize hA : Act.eval _ = ρ
    have s35 : ρ (.tmp 35) = .pointer (some ⟨nb, no + 0, none⟩) := by rw [← hA]; kernel_rfl
    clear hA
    have c1 := (HCE.out wk hwk).1 0 (by simp)
    have hb1 := (HCE.out wk hwk).2
    simp only [List.getElem_cons_zero, Nat.add_zero] at c1
    go_simp
   go_big_quiet_op
   refine wpFin_big (some 37) w0 rfl (.slice (some ⟨nb, no, none⟩) 3 vc) rfl (by kernel_rfl) (fun wk hwk => ?_) ?_
   ·generalize hA : Act.eval _ = ρ
    have s2 : ρ (.tmp 2) = .slice (some ⟨nb, no, none⟩) 3 vc := by rw [← hA]; kernel_rfl
    clear hA
    go_simp
   go_big_quiet_op
   refine wpFin_big (some 38) w0 rfl (.pointer (some ⟨nb, no + 1, none⟩)) rfl (by kernel_rfl) (fun wk hwk => ?_) ?_
   ·generalize hA : Act.eval _ = ρ
    have s37 : ρ (.tmp 37) = .slice (some ⟨nb, no, none⟩) 3 vc := by rw [← hA]; kernel_rfl
    have k1 : ρ (.const (.int .i64 (1))) = .int .i64 (1) := by rw [← hA]; kernel_rfl
    clear hA
    go_simp
   go_big_quiet_op
   refine wpFin_big (some 39) w0 rfl (.int .i64 (z1)) rfl (by kernel_rfl) (fun wk hwk => ?_) ?_
   ·generalize hA : Act.eval _ = ρ
    have s38 : ρ (.tmp 38) = .pointer (some ⟨nb, no + 1, none⟩) := by rw [← hA]; kernel_rfl
    clear hA
    have c1 := (HCE.out wk hwk).1 1 (by simp)
    have hb1 := (HCE.out wk hwk).2
    simp only [List.getElem_cons_zero, List.getElem_cons_succ] at c1
    go_simp
   go_big_quiet_op
   refine wpFin_big (some 40) w0 rfl (.slice (some ⟨nb, no, none⟩) 3 vc) rfl (by kernel_rfl) (fun wk hwk => ?_) ?_
   ·generalize hA : Act.eval _ = ρ
    have s2 : ρ (.tmp 2) = .slice (some ⟨nb, no, none⟩) 3 vc := by rw [← hA]; kernel_rfl
    clear hA
    go_simp
   go_big_quiet_op
   refine wpFin_big (some 41) w0 rfl (.pointer (some ⟨nb, no + 2, none⟩)) rfl (by kernel_rfl) (fun wk hwk => ?_) ?_
   ·generalize hA : Act.eval _ = ρ
    have s40 : ρ (.tmp 40) = .slice (some ⟨nb, no, none⟩) 3 vc := by rw [← hA]; kernel_rfl
    have k1 : ρ (.const (.int .i64 (2))) = .int .i64 (2) := by rw [← hA]; kernel_rfl
    clear hA
    go_simp
   go_big_quiet_op
   refine wpFin_big (some 42) w0 rfl (.int .i64 (z2)) rfl (by kernel_rfl) (fun wk hwk => ?_) ?_
   ·generalize hA : Act.eval _ = ρ
    have s41 : ρ (.tmp 41) = .pointer (some ⟨nb, no + 2, none⟩) := by rw [← hA]; kernel_rfl
    clear hA
    have c1 := (HCE.out wk hwk).1 2 (by simp)
    have hb1 := (HCE.out wk hwk).2
    simp only [List.getElem_cons_zero, List.getElem_cons_succ] at c1
    go_simp
   go_big_quiet_op
   refine wpFin_big (some 43) w0 rfl (tsV ⟨3, z0, z1, z2, ⟨#[]⟩⟩) rfl (by kernel_rfl) (fun wk hwk => ?_) ?_
   ·generalize hA : Act.eval _ = ρ
    have s36 : ρ (.tmp 36) = .int .i64 (z0) := by rw [← hA]; kernel_rfl
    have s39 : ρ (.tmp 39) = .int .i64 (z1) := by rw [← hA]; kernel_rfl
    have s42 : ρ (.tmp 42) = .int .i64 (z2) := by rw [← hA]; kernel_rfl
    have k3 : ρ (.const (.int .i64 (3))) = .int .i64 (3) := by rw [← hA]; kernel_rfl
    clear hA
    go_simp
   go_big_quiet_op
   refine wpFin_bigEnd (some 44) w0 rfl rfl rfl rfl (fun uu => uu = .tuple #[]) (fun _ wk => ∃ pw', LkIn base w0 S R D G pw' (told ++ (stepK t ⟨3, z0, z1, z2, ⟨#[]⟩⟩).1) (stepK t ⟨3, z0, z1, z2, ⟨#[]⟩⟩).2 wk) (⟨_, rfl⟩) (fun wk hwk => ?_) (fun u9 hu9 => ?_)
   ·generalize hA : Act.eval _ = ρ
    have s33 : ρ (.tmp 33) = .pointer (some ⟨R, 0, none⟩) := by rw [← hA]; kernel_rfl
    have s43 : ρ (.tmp 43) = tsV ⟨3, z0, z1, z2, ⟨#[]⟩⟩ := by rw [← hA]; kernel_rfl
    have sf : ρ (.func 25) = .func (.func 25) #[] #[] := by rw [← hA]; kernel_rfl
    clear hA
    go_simp
    refine (step_lk hwk.1 ⟨3, z0, z1, z2, ⟨#[]⟩⟩ (by omega)).mono ?_
    rintro e w7 ⟨rfl, h7⟩
    exact ⟨_, rfl, rfl, h7⟩
   subst hu9
   go_big_quiet_op
   refine wpFin_nil (fun w6 h6 => ?_)
   have H6 : Hid (∃ pw', LkIn base w0 S R D G pw' (told ++ (cmdK t k [z0, z1, z2]).1) (cmdK t k [z0, z1, z2]).2 w6) := by rw [HV.out]; exact h6
   clear h6 HI HL
   go_wp2_with fail
   go_end0
   exact ⟨rfl, H6.out⟩
  ·have hb0 : (sk.toList == ([116, 97, 107, 101] : List UInt8)) = false := HNE.out _ hc
   have HV : Hid (cmdK t k [z0, z1, z2] = (whatW, t)) := by show _ = _; rw [cmd_three, if_neg hc]
   clear h hv h0 h1 h3 hc HL
   go_enter Tryz.func29, Tryz.ntmps29
   go_wp2_with fail
   refine (HI.out.whats (by omega)).mono ?_
   rintro e w6 ⟨rfl, h6⟩
   have H6 : Hid (∃ pw', LkIn base w0 S R D G pw' (told ++ (cmdK t k [z0, z1, z2]).1) (cmdK t k [z0, z1, z2]).2 w6) := by rw [HV.out]; exact ⟨pw, h6⟩
   clear h6 HI
   go_wp2_with fail
   go_end0
   exact ⟨rfl, H6.out⟩
 ·have HV : Hid (cmdK t k zs = (whatW, t)) := cmdK_what t k h0 h1 h3
  obtain ⟨zn, hzn⟩ : ∃ zn, zs.length = zn := ⟨_, rfl⟩
  rw [hzn] at h0 h1 h3 ⊢
  have hb0 : ((zn : Int) == 0) = false := by rw [beq_eq_false_iff_ne]; omega
  have hb1 : ((zn : Int) == 1) = false := by rw [beq_eq_false_iff_ne]; omega
  have hb3 : ((zn : Int) == 3) = false := by rw [beq_eq_false_iff_ne]; omega
  clear h hv hzn
  go_enter Tryz.func29, Tryz.ntmps29
  go_wp2_with fail
  refine (HI.out.whats (by omega)).mono ?_
  rintro e w6 ⟨rfl, h6⟩
  have H6 : Hid (∃ pw', LkIn base w0 S R D G pw' (told ++ (cmdK t k zs).1) (cmdK t k zs).2 w6) := by rw [HV.out]; exact ⟨pw, h6⟩
  clear h6 HI
  go_wp2_with fail
  go_end0
  exact ⟨rfl, H6.out⟩
end
end Go.Proofs.YtcbnnfeelhlapadGreatDoor
