/-
  The contracts of seenBytes, do, Put and Take of a writer.
-/
import Derived.Test.YtfpemdbiplfkgacGreatWSteps
import Derived.Test.YtfpemdbiplfkgacGreatTPlain
import Derived.Test.YtfpemdbiplfkgacGreatFMem
import Derived.Test.YtfpemdbiplfkgacGreatFPut
namespace Go.Proofs.YtfpemdbiplfkgacGreat
open Go.RowKit

/-- A pointer to the writer in a box, and the writer. -/
structure WBox (P : Nat) (me seen : Int) (B : Nat) (w : World) : Prop where
  lt : B < w.heap.size
  at_ : w.cell? ⟨B, 0, none⟩ = some (.pointer (some ⟨P, 0, none⟩))
  pl : P < w.heap.size
  me : w.cell? ⟨P, 0, none⟩ = some (.int .i64 me)
  seen : w.cell? ⟨P, 2, none⟩ = some (.int .i64 seen)

theorem WBox.low {w w' : World} {P B base : Nat} {me seen : Int} (h : WBox P me seen B w) (hB : B < base) (hP : P < base) (hb : Below base w w') : WBox P me seen B w' :=
  ⟨Nat.lt_of_lt_of_le h.lt hb.size, by rw [hb.cell (p := ⟨B, 0, none⟩) hB]; exact h.at_, Nat.lt_of_lt_of_le h.pl hb.size, by rw [hb.cell (p := ⟨P, 0, none⟩) hP]; exact h.me, by rw [hb.cell (p := ⟨P, 2, none⟩) hP]; exact h.seen⟩

set_option maxRecDepth 20000 in
set_option maxHeartbeats 800000 in
theorem seenBytes1_any (x : Ch) (P B : Nat) (me seen : Int) (w : World) (h : WBox P me seen B w) :
    Calls Tryz.prog 153 (#[chV x] ++ #[.pointer (some ⟨B, 0, none⟩)]) w fun e w' => e = .returned (.bool (!seesC seen me x)) ∧ Below w.heap.size w w' := by
  have HW : Hid (WBox P me seen B w) := h
  have HI : Hid (Below w.heap.size w (w.alloc (chObj x))) := below1 _ _
  have HX : Hid (At (w.alloc (chObj x)) w.heap.size 0 x) := by refine ⟨?_, ?_, ?_, ?_, ?_, ?_, ?_⟩ <;> simp [go_sem]
  obtain ⟨xc, xb, xn, xk, xi, xo, xg⟩ := x
  clear h
  go_enter Tryz.func153, Tryz.ntmps153
  go_wp2
  refine wp_region_stage (fun wk => Below (w.heap.size + 1) (w.alloc (chObj ⟨xc, xb, xn, xk, xi, xo, xg⟩)) wk) (fun i => i == 9) (fun wk => Below (w.heap.size + 1) (w.alloc (chObj ⟨xc, xb, xn, xk, xi, xo, xg⟩)) wk) (by kernel_rfl) (by kernel_rfl) (by kernel_rfl) (fun _ h => h) (((Below.refl _ _).drew)) ?_
  refine wpStage_still rfl (fun K hK => ?_)
  go_simp
  refine ⟨chV ⟨xc, xb, xn, xk, xi, xo, xg⟩, fun wk hwk => ?_, hK _ ?_⟩
  · have hx := (CBox.low (B := w.heap.size) (base := w.heap.size + 1) ⟨by simp, HX.out⟩ (Nat.lt_succ_self _) hwk).at_
    obtain ⟨c0, c1, c2, c3, c4, c5, c6⟩ := hx
    simp only [Nat.zero_add] at c0 c1 c2 c3 c4 c5 c6
    go_simp
  clear hK K
  refine wpStage_still rfl (fun K hK => ?_)
  go_simp
  refine ⟨.pointer (some ⟨P, 0, none⟩), fun wk hwk => ?_, hK _ ?_⟩
  · have hb := (HW.out.low (base := w.heap.size) HW.out.lt HW.out.pl (HI.out.trans (hwk.mono (by omega))))
    have c := hb.at_
    go_simp
  clear hK K
  refine wpStage_still rfl (fun K hK => ?_)
  go_simp
  refine ⟨_, fun _ _ => rfl, hK _ ?_⟩
  clear hK K
  refine wpStage_still rfl (fun K hK => ?_)
  go_simp
  refine ⟨_, fun _ _ => rfl, hK _ ?_⟩
  clear hK K
  refine wpStage_still rfl (fun K hK => ?_)
  go_simp
  refine ⟨.int .i64 seen, fun wk hwk => ?_, hK _ ?_⟩
  · have hb := (HW.out.low (base := w.heap.size) HW.out.lt HW.out.pl (HI.out.trans (hwk.mono (by omega))))
    have c := hb.seen
    go_simp
  clear hK K
  refine wpStage_still rfl (fun K hK => ?_)
  go_simp
  refine ⟨.pointer (some ⟨P, 0, none⟩), fun wk hwk => ?_, hK _ ?_⟩
  · have hb := (HW.out.low (base := w.heap.size) HW.out.lt HW.out.pl (HI.out.trans (hwk.mono (by omega))))
    have c := hb.at_
    go_simp
  clear hK K
  refine wpStage_still rfl (fun K hK => ?_)
  go_simp
  refine ⟨_, fun _ _ => rfl, hK _ ?_⟩
  clear hK K
  refine wpStage_still rfl (fun K hK => ?_)
  go_simp
  refine ⟨_, fun _ _ => rfl, hK _ ?_⟩
  clear hK K
  refine wpStage_still rfl (fun K hK => ?_)
  go_simp
  refine ⟨.int .i64 me, fun wk hwk => ?_, hK _ ?_⟩
  · have hb := (HW.out.low (base := w.heap.size) HW.out.lt HW.out.pl (HI.out.trans (hwk.mono (by omega))))
    have c := hb.me
    go_simp
  clear hK K
  refine wpStage_spine rfl rfl (fun u => u = .bool (seesC seen me ⟨xc, xb, xn, xk, xi, xo, xg⟩)) (fun u wk => Below w.heap.size w wk ∧ Below (w.heap.size + 1) (w.alloc (chObj ⟨xc, xb, xn, xk, xi, xo, xg⟩)) wk) ⟨_, rfl⟩ (fun _ _ h => h.2) (fun wk hwk => ?_) (fun v9 hv9 => ?_)
  · go_simp
    refine (sees_any ⟨xc, xb, xn, xk, xi, xo, xg⟩ seen me wk).mono ?_
    rintro e w5 ⟨rfl, hb⟩
    exact ⟨_, rfl, rfl, below_after (HI.out.trans (hwk.mono (by omega))) hb, hwk.trans (hb.mono (by have := hwk.size; simp at this; omega))⟩
  subst hv9
  refine wpStage_still rfl (fun K hK => ?_)
  go_simp
  refine ⟨_, fun _ _ => rfl, hK _ ?_⟩
  clear hK K
  refine wpStage_still rfl (fun K hK => ?_)
  go_simp
  refine ⟨_, fun _ _ => rfl, hK _ ?_⟩
  clear hK K
  refine wpStage_nil (fun w9 hw9 => ?_)
  have H9 : Hid _ := hw9
  clear hw9
  go_wp2
  go_ret
  exact ⟨rfl, H9.out.1⟩

theorem callSeen1 : ∀ args w, Sem.run Tryz.prog (callFunc 153 args) w = .ok (.enter 153 args) w := fun _ _ => by kernel_rfl
theorem seen1_looks (P B base : Nat) (me seen : Int) (hB : B < base) (hP : P < base) : Looks 153 #[.pointer (some ⟨B, 0, none⟩)] (fun x => !seesC seen me x) base (WBox P me seen B) :=
  ⟨callSeen1, fun x w h => seenBytes1_any x P B me seen w h, fun _ _ h hb => h.low hB hP hb⟩

theorem run_mid_val (a : Option Addr) (len cap i j : Nat) (hij : i ≤ j) (hj : j ≤ cap) (w : World) : (Instr.sliceAt 44 (.slice a len cap) (some (.int .i64 i)) (some (.int .i64 j)) none).run Tryz.prog w = .ok (sliced a i j cap 7) w := by
  rw [run_sliceAt_slice _ _ _ _ _ _ und_chars, run_slice_lh _ _ _ _ _ und_chars _ _ _ _ (by omega) (by omega) (by omega), elem_chars, size_char]
  rfl

theorem lst_mid {w : World} {a : Option Addr} {cap : Nat} {l : List Ch} (h : Lst w (.slice a l.length cap) l) {i j : Nat} (hij : i ≤ j) (hj : j ≤ l.length) : Lst w (sliced a i j cap 7) ((l.drop i).take (j - i)) := by
  have h1 := lst_take h hj
  have e : (l.take j).length = j := by rw [List.length_take]; omega
  have e1 : sliced a 0 j cap 7 = .slice (if cap = 0 then a else a.map (·.add (0 * 7))) (l.take j).length cap := by
    unfold sliced
    rw [e, Nat.sub_zero, Nat.sub_zero]
  rw [e1] at h1
  have h2 := lst_drop h1 (k := i) (by rw [e]; exact hij)
  have e2 : sliced (if cap = 0 then a else a.map (·.add (0 * 7))) i (l.take j).length cap 7 = sliced a i j cap 7 := by
    unfold sliced
    rw [e]
    by_cases hc : cap = i
    · rw [if_pos hc, if_pos hc]
      by_cases h0 : cap = 0
      · rw [if_pos h0]
      · rw [if_neg h0]
        cases a with
        | none => rfl
        | some ad => simp [Addr.add_zero']
    · rw [if_neg hc, if_neg hc]
      by_cases h0 : cap = 0
      · rw [if_pos h0]
      · rw [if_neg h0]
        cases a with
        | none => rfl
        | some ad => simp [Addr.add_zero']
  rw [e2, List.drop_take] at h2
  exact h2

theorem filter_sees (seen me : Int) (l : List Ch) : (l.filter fun x => !(!seesC seen me x)) = l.filter (seesC seen me) := by
  apply List.filter_congr
  intro x _
  simp

set_option maxRecDepth 20000 in
set_option maxHeartbeats 800000 in
theorem seenBytes_pw {w : World} {base P : Nat} {S : Nat → Prop} {lv ov : Value} {tvs : List Value} {l : List Ch} {es : List Dd} {ts : List (List Ch)} {me next seen sent : Int} (h : PwAt w base S P lv ov tvs l es ts me next seen sent) (hl : l.length ≤ 1000) (i m : Nat) (him : i + m ≤ (l.filter (seesC seen me)).length) :
    Calls Tryz.prog 135 #[.pointer (some ⟨P, 0, none⟩), .int .i64 i, .int .i64 m] w fun e w' => ∃ v', e = .returned v' ∧ Own w' w.heap.size v' (((l.filter (seesC seen me)).drop i).take m) ∧ Below w.heap.size w w' := by
  have HB0 : Hid (Below w.heap.size w (w.alloc (.cells #[.pointer (some ⟨P, 0, none⟩)] 28))) := below1 _ _
  have HA1 : Hid (PwAt (w.alloc (.cells #[.pointer (some ⟨P, 0, none⟩)] 28)) base S P lv ov tvs l es ts me next seen sent) := h.below HB0.out
  have hPlt := h.cells.lt
  have HWB : Hid (WBox P me seen w.heap.size (w.alloc (.cells #[.pointer (some ⟨P, 0, none⟩)] 28))) := ⟨by simp, by simp [go_sem], by simp; omega, HA1.out.cells.me, HA1.out.cells.seen⟩
  have hfl : (l.filter (seesC seen me)).length ≤ 1000 := Nat.le_trans (List.length_filter_le _ _) hl
  have hmf : ∀ (fn : Fn) (first cap : Array Value) (w : World), (Instr.makeFunc fn first cap).run Tryz.prog w = .ok (.func fn first cap) w := fun _ _ _ _ => rfl
  have HPL : Hid (P < w.heap.size) := hPlt
  clear h
  go_enter Tryz.func135, Tryz.ntmps135
  go_wp2_with fail
  refine (chars_pw HA1.out hl).mono ?_
  rintro e w1 ⟨v1, rfl, ho1, hb1⟩
  have HO1 : Hid (Own w1 (w.heap.size + 1) v1 l) := by
    have e1 : (w.alloc (.cells #[.pointer (some ⟨P, 0, none⟩)] 28)).heap.size = w.heap.size + 1 := by simp
    rw [← e1]; exact ho1
  have HW1 : Hid (WBox P me seen w.heap.size w1) := HWB.out.low (base := (w.alloc (.cells #[.pointer (some ⟨P, 0, none⟩)] 28)).heap.size) HWB.out.lt HWB.out.pl hb1
  have HB1 : Hid (Below w.heap.size w w1) := below_after HB0.out hb1
  have hs1 : w.heap.size + 1 ≤ w1.heap.size := by have := hb1.size; simpa using this
  have c0 := HW1.out.at_
  clear ho1 hb1 HWB HA1 HB0
  go_wp2_with fail
  refine (deleteFunc_own (seen1_looks P w.heap.size (w.heap.size + 1) me seen (Nat.lt_succ_self _) (by have := HPL.out; omega)) HO1.out hs1 hl HW1.out).mono ?_
  rintro e w2 ⟨v2, rfl, ho2, hb2⟩
  rw [filter_sees] at ho2
  have HB2 : Hid (Below w.heap.size w w2) := HB1.out.trans (hb2.mono (by omega))
  obtain ⟨va, vcap, rfl, hvc⟩ := ho2.lst.len
  have HL2 : Hid (Lst w2 (.slice va (l.filter (seesC seen me)).length vcap) (l.filter (seesC seen me))) := ho2.lst
  have HMV : Hid (∀ w, (Instr.sliceAt 44 (.slice va (l.filter (seesC seen me)).length vcap) (some (.int .i64 i)) (some (.int .i64 ((i : Int) + m))) none).run Tryz.prog w = .ok (sliced va i (i + m) vcap 7) w) := fun w => by
    have := run_mid_val va (l.filter (seesC seen me)).length vcap i (i + m) (by omega) (by omega) w
    simpa using this
  have HLM : Hid (Lst w2 (sliced va i (i + m) vcap 7) (((l.filter (seesC seen me)).drop i).take m)) := by
    have := lst_mid HL2.out (i := i) (j := i + m) (by omega) him
    rw [show i + m - i = m by omega] at this
    exact this
  have HLN : Hid ((((l.filter (seesC seen me)).drop i).take m).length ≤ 100000) := by show _ ≤ _; rw [List.length_take, List.length_drop]; omega
  have hsv := HMV.out
  obtain ⟨sa, sl, sc, hsl⟩ : ∃ sa sl sc, sliced va i (i + m) vcap 7 = .slice sa sl sc := ⟨_, _, _, rfl⟩
  rw [hsl] at hsv
  rw [hsl] at HLM
  clear ho2 hb2 HO1 HW1 HB1 hmf c0 HMV hsl
  generalize (l.filter (seesC seen me)).length = fl at *
  go_wp2_with fail
  refine (clone_lst HLM.out HLN.out).mono ?_
  rintro e w3 ⟨v3, rfl, ho3, hb3⟩
  have HR : Hid (Own w3 w.heap.size v3 (((l.filter (seesC seen me)).drop i).take m) ∧ Below w.heap.size w w3) := ⟨ho3.mono HB2.out.size, below_after HB2.out hb3⟩
  clear ho3 hb3 HLM HLN hsv HL2
  go_wp2
  go_ret
  exact ⟨_, rfl, HR.out⟩

end Go.Proofs.YtfpemdbiplfkgacGreat

/-
  The document's own KnowsIn, KnowsOut, Sees and ViewOf: their contracts, over bytes whose Out is not below 0.
-/
namespace Go.Proofs.YtfpemdbiplfkgacGreat
open Go.RowKit

set_option maxRecDepth 20000 in
set_option maxHeartbeats 400000 in
theorem knowsIn_any (x : Ch) (seen by_ : Int) (w : World) :
    Calls Tryz.prog 130 #[chV x, .int .i64 seen, .int .i64 by_] w fun e w' => e = .returned (.bool (inB x.inn x.by_ seen by_)) ∧ Below w.heap.size w w' := by
  obtain ⟨c, b, no, k, i, o, g⟩ := x
  by_cases h2 : b = by_
  · have h2' : (b == by_) = true := by simp [h2]
    have H2 : Hid (b = by_) := h2
    clear h2
    go_enter Tryz.func130, Tryz.ntmps130
    go_wp2
    go_ret
    exact ⟨ret_b (by simp [inB, H2.out]), (Below.refl _ _).alloc (Nat.le_refl _) _⟩
  · have h2' : (b == by_) = false := by simp [h2]
    have H2 : Hid (b ≠ by_) := h2
    clear h2
    go_enter Tryz.func130, Tryz.ntmps130
    go_wp2
    go_ret
    exact ⟨ret_b (by have := H2.out; simp [inB, this]), (Below.refl _ _).alloc (Nat.le_refl _) _⟩

set_option maxRecDepth 20000 in
set_option maxHeartbeats 400000 in
theorem knowsOut_any (x : Ch) (seen by_ : Int) (w : World) (h0 : 0 ≤ x.out) (hg : -9223372036854775808 ≤ x.gone) (hg' : x.gone ≤ 9223372036854775807) :
    Calls Tryz.prog 131 #[chV x, .int .i64 seen, .int .i64 by_] w fun e w' => e = .returned (.bool (outB x.out x.gone seen by_)) ∧ Below w.heap.size w w' := by
  obtain ⟨c, b, no, k, i, o, g⟩ := x
  have HE : Hid (∀ t, t = tookB g by_ → (t || (decide (0 < o) && decide (o ≤ seen))) = outB o g seen by_) := fun t e => by rw [e]; exact out_tame h0
  cases ht : tookB g by_
  · have HT : Hid ((decide (0 < o) && decide (o ≤ seen)) = outB o g seen by_) := HE.out false ht.symm
    by_cases h1 : 0 < o
    · have HT1 : Hid (decide (o ≤ seen) = outB o g seen by_) := by show _ = _; rw [← HT.out]; simp [h1]
      clear HE HT
      go_enter Tryz.func131, Tryz.ntmps131
      go_wp2_with (go_at_call 150; refine (refTook_any g by_ _ hg hg').mono ?_; rintro e w' ⟨rfl, rfl⟩; rw [ht])
      go_ret
      exact ⟨ret_b HT1.out, (Below.refl _ _).alloc (Nat.le_refl _) _⟩
    · have HT1 : Hid (false = outB o g seen by_) := by show _ = _; rw [← HT.out]; simp [h1]
      clear HE HT
      go_enter Tryz.func131, Tryz.ntmps131
      go_wp2_with (go_at_call 150; refine (refTook_any g by_ _ hg hg').mono ?_; rintro e w' ⟨rfl, rfl⟩; rw [ht])
      go_ret
      exact ⟨ret_b HT1.out, (Below.refl _ _).alloc (Nat.le_refl _) _⟩
  · have HT1 : Hid (true = outB o g seen by_) := HE.out true ht.symm
    clear HE
    go_enter Tryz.func131, Tryz.ntmps131
    go_wp2_with (go_at_call 150; refine (refTook_any g by_ _ hg hg').mono ?_; rintro e w' ⟨rfl, rfl⟩; rw [ht])
    go_ret
    exact ⟨ret_b HT1.out, (Below.refl _ _).alloc (Nat.le_refl _) _⟩

set_option maxRecDepth 20000 in
set_option maxHeartbeats 400000 in
theorem refSees_any (x : Ch) (seen by_ : Int) (w : World) (h0 : 0 ≤ x.out) (hg : -9223372036854775808 ≤ x.gone) (hg' : x.gone ≤ 9223372036854775807) :
    Calls Tryz.prog 94 #[chV x, .int .i64 seen, .int .i64 by_] w fun e w' => e = .returned (.bool (seesC seen by_ x)) ∧ Below w.heap.size w w' := by
  obtain ⟨c, b, no, k, i, o, g⟩ := x
  cases hi : inB i b seen by_
  · go_enter Tryz.func94, Tryz.ntmps94
    go_wp2_with (go_at_call 130; refine (knowsIn_any ⟨c, b, no, k, i, o, g⟩ _ _ _).mono ?_; rintro e w' ⟨rfl, hb⟩; rw [hi])
    go_ret
    exact ⟨ret_b (by simp [seesC, seesB, hi]), below_after ((Below.refl _ _).alloc (Nat.le_refl _) _) hb⟩
  · go_enter Tryz.func94, Tryz.ntmps94
    go_wp2_with fail
    refine (knowsIn_any ⟨c, b, no, k, i, o, g⟩ _ _ _).mono ?_
    rintro e w1 ⟨rfl, hb⟩
    rw [hi]
    obtain ⟨hc, hf⟩ := bcell hb
    go_wp2_with fail
    refine (knowsOut_any ⟨c, b, no, k, i, o, g⟩ _ _ _ h0 hg hg').mono ?_
    rintro e w2 ⟨rfl, hb2⟩
    clear hc hf
    go_wp2
    go_ret
    exact ⟨ret_b (by simp [seesC, seesB, hi]), below_after (below_after ((Below.refl _ _).alloc (Nat.le_refl _) _) hb) hb2⟩

theorem strOf_one (x : Int) : strOfNums [x] = strOfNums ([] ++ [x]) := rfl

set_option maxRecDepth 20000 in
set_option maxHeartbeats 800000 in
theorem refView_some (b off len cap : Nat) (l : List Ch) (seen by_ : Int) (w : World) (hl : l.length = len) (hm : len ≤ 1000) (hr : Row w b off l) (ht : Tame l) :
    Calls Tryz.prog 128 #[.slice (some ⟨b, off, none⟩) len cap, .int .i64 seen, .int .i64 by_] w fun e w' => e = .returned (.string (strOfNums (vw l seen by_))) ∧ Below w.heap.size w w' := by
  have HR : Hid (Row w b off l) := hr
  have HL : Hid (l.length = len) := hl
  have HT : Hid (Tame l) := ht
  have hb := hr.lt
  clear hr hl ht
  go_enter Tryz.func128, Tryz.ntmps128
  go_wp2
  go_loopw [7, 8] (fun s i wr => ∃ k : Nat, k ≤ len ∧ i = .int .i64 k ∧ s = .string (strOfNums (vw (l.take k) seen by_)) ∧ Hid (Below w.heap.size w wr)) (fun _ i _ => len - (intOf i).toNat)
  case atStart => exact ⟨0, Nat.zero_le _, rfl, rfl, Below.refl _ _⟩
  case round =>
    obtain ⟨k, hk, rfl, rfl, HB⟩ := hrel
    by_cases hlt : k < len
    · have hkl : k < l.length := by rw [HL.out]; exact hlt
      obtain ⟨t1, t2, t3, t4⟩ := tame_get HT.out k hkl
      have hd := vw_le (l.take k) seen by_
      have hle : (l.take k).length ≤ k := List.length_take_le _ _
      have HN : Hid (vw (l.take (k + 1)) seen by_ = vw (l.take k) seen by_ ++ if seesC seen by_ l[k] = true then [l[k].c] else []) := by rw [take_snoc l k hkl]; exact vw_snoc _ _ _ _
      obtain ⟨h0, h1, h2, h3, h4, h5, h6⟩ := (HR.out.below HB.out).at_ k hkl
      have HF : Hid (Row w b off l → ∀ w1, Below w.heap.size w w1 → w1.cell? ⟨b, off + k * 7, none⟩ = some (.int .u8 l[k].c)) := fun hr w1 hb1 => ((hr.below hb1).at_ k hkl).1
      generalize l[k] = x at h0 h1 h2 h3 h4 h5 h6 HN t1 t2 t3 t4 HF
      generalize vw (l.take k) seen by_ = zs at *
      have hz : (strOfNums zs).size ≤ 1000 := by rw [strOfNums_size]; omega
      clear hd hle t2
      go_wp2_with fail
      refine (refSees_any x _ _ _ t1 (by omega) (by omega)).mono ?_
      rintro e w1 ⟨rfl, hb1⟩
      have HB1 : Hid (Below w.heap.size w w1) := below_after HB.out hb1
      have g0 := HF.out HR.out w1 HB1.out
      clear h0 h1 h2 h3 h4 h5 h6 hb1 HF
      cases hs : seesC seen by_ x
      · rw [hs] at HN
        clear g0
        go_wp2
        go_roundw
        case rel => exact ⟨k + 1, by omega, by go_num, by rw [HN.out]; simp, HB1⟩
        case measure => simp [intOf]; omega
      · rw [hs] at HN
        have hown : (w1.alloc (.cells #[.int .u8 x.c] 5)).ownsRow w.heap.size 5 1 (.slice (some ⟨w1.heap.size, 0, none⟩) 1 1) [x.c].length (cells8 [x.c]) :=
          ⟨rfl, .inr ⟨w1.heap.size, 1, #[.int .u8 x.c], rfl, HB1.out.size, heap_alloc_new w1 _, Nat.le_refl _, by unfold maxLen; omega, rfl, rfl⟩⟩
        have hs1 := own_string hown
        have HC : Hid (Below w.heap.size w (w1.alloc (.cells #[.int .u8 x.c] 5))) := HB1.out.alloc HB1.out.size _
        have hsz : (strOfNums [x.c]).size = 1 := strOfNums_size [x.c]
        clear hown
        go_wp2
        go_roundw
        case rel => exact ⟨k + 1, by omega, by go_num, by rw [HN.out, if_pos trivial, strOfNums_app], HC⟩
        case measure => simp [intOf]; omega
    · obtain rfl : k = len := by omega
      have HE : Hid (l.take k = l) := by show _ = _; rw [← HL.out, List.take_length]
      rw [HE.out]
      go_wp2
      go_ret
      exact ⟨rfl, HB.out⟩

set_option maxRecDepth 20000 in
set_option maxHeartbeats 400000 in
theorem refView_empty (a : Option Addr) (cap : Nat) (seen by_ : Int) (w : World) :
    Calls Tryz.prog 128 #[.slice a 0 cap, .int .i64 seen, .int .i64 by_] w fun e w' => e = .returned (.string (strOfNums [])) ∧ Below w.heap.size w w' := by
  go_enter Tryz.func128, Tryz.ntmps128
  go_wp2
  refine wp_loop_rounds 1 ?_
  rw [rounds_succ]
  go_wp2
  go_ret
  exact ⟨rfl, Below.refl _ _⟩

theorem refView_lst {w : World} {v : Value} {l : List Ch} (h : Lst w v l) (hl : l.length ≤ 1000) (ht : Tame l) (seen by_ : Int) :
    Calls Tryz.prog 128 #[v, .int .i64 seen, .int .i64 by_] w fun e w' => e = .returned (.string (strOfNums (vw l seen by_))) ∧ Below w.heap.size w w' := by
  obtain ⟨a, len, cap, rfl, h1, h2, h3⟩ := h
  rcases h3 with rfl | ⟨b, off, rfl, hr⟩
  · obtain rfl : l = [] := List.length_eq_zero_iff.1 h1
    exact refView_empty a cap seen by_ w
  · exact refView_some b off len cap l seen by_ w h1 (by omega) hr ht

end Go.Proofs.YtfpemdbiplfkgacGreat

/-
  The document's DeedFault, where a number is out of its bounds.
-/
namespace Go.Proofs.YtfpemdbiplfkgacGreat
open Go.RowKit

theorem unplaced {d : Dd} (h : placedB d = false) : wrB d.by_ = false ∨ (wrB d.by_ = true ∧ d.no < 1) ∨ (wrB d.by_ = true ∧ 1 ≤ d.no ∧ 120 < d.no) ∨ (wrB d.by_ = true ∧ 1 ≤ d.no ∧ d.no ≤ 120 ∧ d.seen < 0) ∨ (wrB d.by_ = true ∧ 1 ≤ d.no ∧ d.no ≤ 120 ∧ 0 ≤ d.seen ∧ 120 < d.seen)
    ∨ (wrB d.by_ = true ∧ 1 ≤ d.no ∧ d.no ≤ 120 ∧ 0 ≤ d.seen ∧ d.seen ≤ 120 ∧ d.at_ < 0) ∨ (wrB d.by_ = true ∧ 1 ≤ d.no ∧ d.no ≤ 120 ∧ 0 ≤ d.seen ∧ d.seen ≤ 120 ∧ 0 ≤ d.at_ ∧ 200 < d.at_) := by
  cases hw : wrB d.by_
  · exact .inl rfl
  · simp [placedB, hw, withinB] at h
    simp
    omega

theorem placed_parts {d : Dd} (h : placedB d = true) : wrB d.by_ = true ∧ 1 ≤ d.no ∧ d.no ≤ 120 ∧ 0 ≤ d.seen ∧ d.seen ≤ 120 ∧ 0 ≤ d.at_ ∧ d.at_ ≤ 200 := by
  simp [placedB, withinB] at h
  obtain ⟨h1, ⟨h2, h3⟩, ⟨h4, h5⟩, h6, h7⟩ := h
  exact ⟨h1, h2, h3, h4, h5, h6, h7⟩

set_option maxRecDepth 20000 in
set_option maxHeartbeats 4000000 in
theorem fault_range (d : Dd) (w : World) (hk : d.kind = 1 ∨ d.kind = 2) (hp : placedB d = false) :
    Calls Tryz.prog 155 #[ddV d] w fun e w' => e = .returned (.int .i64 (checkC d)) ∧ Below w.heap.size w w' := by
  have HC : Hid (checkC d = 1) := by
    show checkC d = 1
    rw [checkC, if_neg (by omega), if_pos hp]
  have hu := unplaced hp
  obtain ⟨kind, by_, no, seen, at_, many, text⟩ := d
  clear hp
  rcases hu with hu | ⟨hu, h1⟩ | ⟨hu, h1, h2⟩ | ⟨hu, h1, h2, h3⟩ | ⟨hu, h1, h2, h3, h4⟩ | ⟨hu, h1, h2, h3, h4, h5⟩ | ⟨hu, h1, h2, h3, h4, h5, h6⟩
  all_goals
    rcases hk with rfl | rfl
    all_goals
      go_enter Tryz.func155, Tryz.ntmps155
      go_wp2_with (go_at_call 50; refine (isWriter_any _ _).mono ?_; rintro e w' ⟨rfl, rfl⟩)
      go_ret
      exact ⟨ret_int HC.out.symm, (Below.refl _ _).alloc (Nat.le_refl _) _⟩

end Go.Proofs.YtfpemdbiplfkgacGreat

/-
  The document's DeedFault: its contract, for every deed.
-/
namespace Go.Proofs.YtfpemdbiplfkgacGreat
open Go.RowKit

theorem printed_take {s : ByteArray} {k : Nat} (h : (decide (1 ≤ s.size ∧ s.size ≤ 20) && (s.data.toList.take k).all okChar) = false) : printedB s = false := by
  rw [printedB]
  by_cases h0 : 1 ≤ s.size ∧ s.size ≤ 20
  · simp only [h0, and_self, decide_true, Bool.true_and] at h ⊢
    rw [List.all_eq_false] at h ⊢
    obtain ⟨x, hx, hn⟩ := h
    exact ⟨x, List.mem_of_mem_take hx, hn⟩
  · simp only [h0, decide_false, Bool.false_and]

theorem ok_bytes (b : UInt8) : okChar b = !(decide ((b.toNat : Int) < 32) || decide (126 < (b.toNat : Int))) := by
  rw [okChar, Bool.eq_iff_iff]
  simp
  omega

set_option maxRecDepth 20000 in
set_option maxHeartbeats 1000000 in
theorem fault_put (d : Dd) (w : World) (hk : d.kind = 1) (hp : placedB d = true) :
    Calls Tryz.prog 155 #[ddV d] w fun e w' => e = .returned (.int .i64 (checkC d)) ∧ Below w.heap.size w w' := by
  have HC : Hid (checkC d = putC d) := by
    show checkC d = putC d
    rw [checkC, if_neg (by omega), if_neg (by simp [hp]), if_pos hk]
  have hu := placed_parts hp
  obtain ⟨kind, by_, no, seen, at_, many, text⟩ := d
  obtain rfl : kind = 1 := hk
  clear hp
  obtain ⟨hu, h1, h2, h3, h4, h5, h6⟩ := hu
  by_cases hm : many = 0
  · subst hm
    have HP : Hid (putC ⟨1, by_, no, seen, at_, 0, text⟩ = if printedB text = true then 0 else 4) := by
      show putC _ = _
      simp [putC]
    rcases (show text.size < 1 ∨ 20 < text.size ∨ (1 ≤ text.size ∧ text.size ≤ 20) by omega) with hs | hs | ⟨hs, hs'⟩
    · have HD : Hid (decide (1 ≤ text.size ∧ text.size ≤ 20) = false) := decide_eq_false (by omega)
      go_enter Tryz.func155, Tryz.ntmps155
      go_wp2_with (go_at_call 50; refine (isWriter_any _ _).mono ?_; rintro e w' ⟨rfl, rfl⟩)
      go_loop [3, 4] (fun b i => ∃ k : Nat, k ≤ text.size ∧ i = .int .i64 k ∧ b = .bool (!(decide (1 ≤ text.size ∧ text.size ≤ 20) && (text.data.toList.take k).all okChar))) (fun _ i => text.size - (intOf i).toNat)
      case atStart => exact ⟨0, Nat.zero_le _, rfl, by rw [HD.out]; rfl⟩
      case round =>
        obtain ⟨k, hk, rfl, rfl⟩ := hrel
        cases hb : (decide (1 ≤ text.size ∧ text.size ≤ 20) && (text.data.toList.take k).all okChar)
        · have HF : Hid _ := printed_take hb
          simp only [Bool.not_false]
          by_cases hlt : k < text.size
          all_goals
            first
            | (exfalso; omega)
            | (go_wp2; go_ret; exact ⟨ret_int (by rw [HC.out, HP.out, HF.out]; rfl), (Below.refl _ _).alloc (Nat.le_refl _) _⟩)
        · exact absurd hb (by rw [HD.out]; simp)
    · have HD : Hid (decide (1 ≤ text.size ∧ text.size ≤ 20) = false) := decide_eq_false (by omega)
      go_enter Tryz.func155, Tryz.ntmps155
      go_wp2_with (go_at_call 50; refine (isWriter_any _ _).mono ?_; rintro e w' ⟨rfl, rfl⟩)
      go_loop [3, 4] (fun b i => ∃ k : Nat, k ≤ text.size ∧ i = .int .i64 k ∧ b = .bool (!(decide (1 ≤ text.size ∧ text.size ≤ 20) && (text.data.toList.take k).all okChar))) (fun _ i => text.size - (intOf i).toNat)
      case atStart => exact ⟨0, Nat.zero_le _, rfl, by rw [HD.out]; simp; omega⟩
      case round =>
        obtain ⟨k, hk, rfl, rfl⟩ := hrel
        cases hb : (decide (1 ≤ text.size ∧ text.size ≤ 20) && (text.data.toList.take k).all okChar)
        · have HF : Hid _ := printed_take hb
          simp only [Bool.not_false]
          by_cases hlt : k < text.size
          all_goals
            first
            | (exfalso; omega)
            | (go_wp2; go_ret; exact ⟨ret_int (by rw [HC.out, HP.out, HF.out]; rfl), (Below.refl _ _).alloc (Nat.le_refl _) _⟩)
        · exact absurd hb (by rw [HD.out]; simp)
    · have HD : Hid (decide (1 ≤ text.size ∧ text.size ≤ 20) = true) := decide_eq_true (by omega)
      go_enter Tryz.func155, Tryz.ntmps155
      go_wp2_with (go_at_call 50; refine (isWriter_any _ _).mono ?_; rintro e w' ⟨rfl, rfl⟩)
      go_loop [3, 4] (fun b i => ∃ k : Nat, k ≤ text.size ∧ i = .int .i64 k ∧ b = .bool (!(decide (1 ≤ text.size ∧ text.size ≤ 20) && (text.data.toList.take k).all okChar))) (fun _ i => text.size - (intOf i).toNat)
      case atStart => exact ⟨0, Nat.zero_le _, rfl, by rw [HD.out]; simp; omega⟩
      case round =>
        obtain ⟨k, hk, rfl, rfl⟩ := hrel
        cases hb : (decide (1 ≤ text.size ∧ text.size ≤ 20) && (text.data.toList.take k).all okChar)
        · have HF : Hid _ := printed_take hb
          simp only [Bool.not_false]
          by_cases hlt : k < text.size
          all_goals
            first
            | (exfalso; omega)
            | (go_wp2; go_ret; exact ⟨ret_int (by rw [HC.out, HP.out, HF.out]; rfl), (Below.refl _ _).alloc (Nat.le_refl _) _⟩)
        · simp only [Bool.not_true]
          have HB : Hid ((text.data.toList.take k).all okChar = true) := by
            show (text.data.toList.take k).all okChar = true
            simp only [Bool.and_eq_true] at hb
            exact hb.2
          clear hb
          by_cases hlt : k < text.size
          · have HN : Hid _ := all_take_succ text k hlt
            have HE : Hid _ := ok_bytes text[k]
            by_cases c1 : (text[k].toNat : Int) < 32
            · go_wp2
              go_round
              case rel => exact ⟨k + 1, by omega, by go_num, by rw [HN.out, HB.out, HD.out, HE.out]; simp [c1]⟩
              case measure => simp [intOf]; omega
            · by_cases c2 : 126 < (text[k].toNat : Int)
              all_goals
                go_wp2
                go_round
                case rel => exact ⟨k + 1, by omega, by go_num, by rw [HN.out, HB.out, HD.out, HE.out]; simp [c1, c2]⟩
                case measure => simp [intOf]; omega
          · have HF : Hid (printedB text = true) := by
              show printedB text = true
              have hk' : k = text.size := by omega
              have := HB.out
              rw [hk', ← size_list, List.take_length] at this
              rw [printedB, HD.out, this]
              rfl
            go_wp2
            go_ret
            exact ⟨ret_int (by rw [HC.out, HP.out, HF.out]; rfl), (Below.refl _ _).alloc (Nat.le_refl _) _⟩
  · have h1' : (many != 0) = true := by simp [hm]
    have H1 : Hid (many ≠ 0) := hm
    clear hm
    go_enter Tryz.func155, Tryz.ntmps155
    go_wp2_with (go_at_call 50; refine (isWriter_any _ _).mono ?_; rintro e w' ⟨rfl, rfl⟩)
    go_ret
    exact ⟨ret_int (by rw [HC.out]; simp [putC, H1.out]), (Below.refl _ _).alloc (Nat.le_refl _) _⟩

set_option maxRecDepth 20000 in
set_option maxHeartbeats 1000000 in
theorem fault_take (d : Dd) (w : World) (hk : d.kind = 2) (hp : placedB d = true) :
    Calls Tryz.prog 155 #[ddV d] w fun e w' => e = .returned (.int .i64 (checkC d)) ∧ Below w.heap.size w w' := by
  have HC : Hid (checkC d = takeC d) := by
    show checkC d = takeC d
    rw [checkC, if_neg (by omega), if_neg (by simp [hp]), if_neg (by omega)]
  have hu := placed_parts hp
  obtain ⟨kind, by_, no, seen, at_, many, text⟩ := d
  obtain rfl : kind = 2 := hk
  clear hp
  obtain ⟨hu, h1, h2, h3, h4, h5, h6⟩ := hu
  by_cases hs : text.size = 0
  · have hs' : text.toList.isEmpty = true := by simp [ba_isEmpty, hs]
    have HS : Hid (text.size = 0) := hs
    clear hs
    rcases (show many < 1 ∨ (1 ≤ many ∧ 200 < many) ∨ (1 ≤ many ∧ many ≤ 200) by omega) with hm | ⟨hm, hm'⟩ | ⟨hm, hm'⟩
    all_goals
      go_enter Tryz.func155, Tryz.ntmps155
      go_wp2_with (go_at_call 50; refine (isWriter_any _ _).mono ?_; rintro e w' ⟨rfl, rfl⟩)
      go_ret
      exact ⟨ret_int (by rw [HC.out]; simp [takeC, HS.out, withinB]; omega), (Below.refl _ _).alloc (Nat.le_refl _) _⟩
  · have hs' : text.toList.isEmpty = false := by simp [ba_isEmpty, hs]
    have HS : Hid (text.size ≠ 0) := hs
    clear hs
    go_enter Tryz.func155, Tryz.ntmps155
    go_wp2_with (go_at_call 50; refine (isWriter_any _ _).mono ?_; rintro e w' ⟨rfl, rfl⟩)
    go_ret
    exact ⟨ret_int (by rw [HC.out]; simp [takeC, HS.out]), (Below.refl _ _).alloc (Nat.le_refl _) _⟩

set_option maxRecDepth 20000 in
set_option maxHeartbeats 400000 in
theorem fault_kind (d : Dd) (w : World) (hk : ¬ (d.kind = 1 ∨ d.kind = 2)) :
    Calls Tryz.prog 155 #[ddV d] w fun e w' => e = .returned (.int .i64 (checkC d)) ∧ Below w.heap.size w w' := by
  have HC : Hid (checkC d = 2) := by
    show checkC d = 2
    rw [checkC, if_pos (by omega)]
  obtain ⟨kind, by_, no, seen, at_, many, text⟩ := d
  have h1 : (kind != 1) = true := by simp; intro e; exact hk (.inl e)
  have h2 : (kind != 2) = true := by simp; intro e; exact hk (.inr e)
  clear hk
  go_enter Tryz.func155, Tryz.ntmps155
  go_wp2
  go_ret
  exact ⟨ret_int HC.out.symm, (Below.refl _ _).alloc (Nat.le_refl _) _⟩

theorem fault_any (d : Dd) (w : World) :
    Calls Tryz.prog 155 #[ddV d] w fun e w' => e = .returned (.int .i64 (checkC d)) ∧ Below w.heap.size w w' := by
  by_cases hk : d.kind = 1 ∨ d.kind = 2
  · cases hp : placedB d
    · exact fault_range d w hk hp
    · rcases hk with hk | hk
      · exact fault_put d w hk hp
      · exact fault_take d w hk hp
  · exact fault_kind d w hk

end Go.Proofs.YtfpemdbiplfkgacGreat
