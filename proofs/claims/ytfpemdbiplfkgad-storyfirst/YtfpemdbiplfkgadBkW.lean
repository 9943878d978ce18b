/-
  The contracts of seenBytes, do, Put and Take of a writer.
-/
import Derived.Test.YtfpemdbiplfkgadWSteps
import Derived.Test.YtfpemdbiplfkgadTPlain
import Derived.Test.YtfpemdbiplfkgadFMem
import Derived.Test.YtfpemdbiplfkgadFPut
import Derived.Test.YtfpemdbiplfkgadFStage
import Derived.Test.YtfpemdbiplfkgadFLiP
import Derived.Test.YtfpemdbiplfkgadLMem
import Derived.BigRegion
namespace Go.Proofs.Ytfpemdbiplfkgad
open Go.RowKit

/-- A pointer to the writer in a box, and the writer. -/
structure WBox (P : Nat) (me seen : Int) (B : Nat) (w : World) : Prop where
  lt : B < w.heap.size
  at_ : w.cell? ⟨B, 0, none⟩ = some (.pointer (some ⟨P, 0, none⟩))
  pl : P < w.heap.size
  me : w.cell? ⟨P, 0, none⟩ = some (.int .i64 me)
  seen : w.cell? ⟨P, 2, none⟩ = some (.int .i64 seen)

theorem WBox.low {w w' : World} {P B base : Nat} {me seen : Int} (h : WBox P me seen B w) (hB : B < base) (hP : P < base) (hb : Below base w w') : WBox P me seen B w' :=
  ⟨Nat.lt_of_lt_of_le h.lt hb.size, by rw [hb.cell (p := ⟨B, 0, none⟩) hB]; exact h.at_, Nat.lt_of_lt_of_le h.pl hb.size, by rw [hb.cell (p := ⟨P, 0, none⟩) hP]; exact h.me, by rw [hb.cell (p := ⟨P, 2, none⟩) hP]; exact h.seen⟩

set_option maxRecDepth 20000 in
set_option maxHeartbeats 800000 in
theorem seenBytes1_any (x : Ch) (P B : Nat) (me seen : Int) (w : World) (h : WBox P me seen B w) :
    Calls Try.prog 84 (#[chV x] ++ #[.pointer (some ⟨B, 0, none⟩)]) w fun e w' => e = .returned (.bool (!seesC seen me x)) ∧ Below w.heap.size w w' := by
  have HW : Hid (WBox P me seen B w) := h
  have HI : Hid (Below w.heap.size w (w.alloc (chObj x))) := below1 _ _
  have HX : Hid (At (w.alloc (chObj x)) w.heap.size 0 x) := by refine ⟨?_, ?_, ?_, ?_, ?_, ?_, ?_⟩ <;> simp [go_sem]
  obtain ⟨xc, xb, xn, xk, xi, xo, xg⟩ := x
  clear h
  go_enter Try.func84, Try.ntmps84
  go_wp2
  refine wp_region_stage (fun wk => Below (w.heap.size + 1) (w.alloc (chObj ⟨xc, xb, xn, xk, xi, xo, xg⟩)) wk) (fun i => i == 9) (fun wk => Below (w.heap.size + 1) (w.alloc (chObj ⟨xc, xb, xn, xk, xi, xo, xg⟩)) wk) (by kernel_rfl) (by kernel_rfl) (by kernel_rfl) (fun _ h => h) (((Below.refl _ _).drew)) ?_
  refine wpStage_still rfl (fun K hK => ?_)
  go_simp
  refine ⟨chV ⟨xc, xb, xn, xk, xi, xo, xg⟩, fun wk hwk => ?_, hK _ ?_⟩
  · have hx := (CBox.low (B := w.heap.size) (base := w.heap.size + 1) ⟨by simp, HX.out⟩ (Nat.lt_succ_self _) hwk).at_
    obtain ⟨c0, c1, c2, c3, c4, c5, c6⟩ := hx
    simp only [Nat.zero_add] at c0 c1 c2 c3 c4 c5 c6
    go_simp
  clear hK K
  refine wpStage_still rfl (fun K hK => ?_)
  go_simp
  refine ⟨.pointer (some ⟨P, 0, none⟩), fun wk hwk => ?_, hK _ ?_⟩
  · have hb := (HW.out.low (base := w.heap.size) HW.out.lt HW.out.pl (HI.out.trans (hwk.mono (by omega))))
    have c := hb.at_
    go_simp
  clear hK K
  refine wpStage_still rfl (fun K hK => ?_)
  go_simp
  refine ⟨_, fun _ _ => rfl, hK _ ?_⟩
  clear hK K
  refine wpStage_still rfl (fun K hK => ?_)
  go_simp
  refine ⟨_, fun _ _ => rfl, hK _ ?_⟩
  clear hK K
  refine wpStage_still rfl (fun K hK => ?_)
  go_simp
  refine ⟨.int .i64 seen, fun wk hwk => ?_, hK _ ?_⟩
  · have hb := (HW.out.low (base := w.heap.size) HW.out.lt HW.out.pl (HI.out.trans (hwk.mono (by omega))))
    have c := hb.seen
    go_simp
  clear hK K
  refine wpStage_still rfl (fun K hK => ?_)
  go_simp
  refine ⟨.pointer (some ⟨P, 0, none⟩), fun wk hwk => ?_, hK _ ?_⟩
  · have hb := (HW.out.low (base := w.heap.size) HW.out.lt HW.out.pl (HI.out.trans (hwk.mono (by omega))))
    have c := hb.at_
    go_simp
  clear hK K
  refine wpStage_still rfl (fun K hK => ?_)
  go_simp
  refine ⟨_, fun _ _ => rfl, hK _ ?_⟩
  clear hK K
  refine wpStage_still rfl (fun K hK => ?_)
  go_simp
  refine ⟨_, fun _ _ => rfl, hK _ ?_⟩
  clear hK K
  refine wpStage_still rfl (fun K hK => ?_)
  go_simp
  refine ⟨.int .i64 me, fun wk hwk => ?_, hK _ ?_⟩
  · have hb := (HW.out.low (base := w.heap.size) HW.out.lt HW.out.pl (HI.out.trans (hwk.mono (by omega))))
    have c := hb.me
    go_simp
  clear hK K
  refine wpStage_spine rfl rfl (fun u => u = .bool (seesC seen me ⟨xc, xb, xn, xk, xi, xo, xg⟩)) (fun u wk => Below w.heap.size w wk ∧ Below (w.heap.size + 1) (w.alloc (chObj ⟨xc, xb, xn, xk, xi, xo, xg⟩)) wk) ⟨_, rfl⟩ (fun _ _ h => h.2) (fun wk hwk => ?_) (fun v9 hv9 => ?_)
  · go_simp
    refine (sees_any ⟨xc, xb, xn, xk, xi, xo, xg⟩ seen me wk).mono ?_
    rintro e w5 ⟨rfl, hb⟩
    exact ⟨_, rfl, rfl, below_after (HI.out.trans (hwk.mono (by omega))) hb, hwk.trans (hb.mono (by have := hwk.size; simp at this; omega))⟩
  subst hv9
  refine wpStage_still rfl (fun K hK => ?_)
  go_simp
  refine ⟨_, fun _ _ => rfl, hK _ ?_⟩
  clear hK K
  refine wpStage_still rfl (fun K hK => ?_)
  go_simp
  refine ⟨_, fun _ _ => rfl, hK _ ?_⟩
  clear hK K
  refine wpStage_nil (fun w9 hw9 => ?_)
  have H9 : Hid _ := hw9
  clear hw9
  go_wp2
  go_ret
  exact ⟨rfl, H9.out.1⟩

theorem callSeen1 : ∀ args w, Sem.run Try.prog (callFunc 84 args) w = .ok (.enter 84 args) w := fun _ _ => by kernel_rfl
theorem seen1_looks (P B base : Nat) (me seen : Int) (hB : B < base) (hP : P < base) : Looks 84 #[.pointer (some ⟨B, 0, none⟩)] (fun x => !seesC seen me x) base (WBox P me seen B) :=
  ⟨callSeen1, fun x w h => seenBytes1_any x P B me seen w h, fun _ _ h hb => h.low hB hP hb⟩

theorem run_mid_val (a : Option Addr) (len cap i j : Nat) (hij : i ≤ j) (hj : j ≤ cap) (w : World) : (Instr.sliceAt 50 (.slice a len cap) (some (.int .i64 i)) (some (.int .i64 j)) none).run Try.prog w = .ok (sliced a i j cap 7) w := by
  rw [run_sliceAt_slice _ _ _ _ _ _ und_chars, run_slice_lh _ _ _ _ _ und_chars _ _ _ _ (by omega) (by omega) (by omega), elem_chars, size_char]
  rfl

theorem lst_mid {w : World} {a : Option Addr} {cap : Nat} {l : List Ch} (h : Lst w (.slice a l.length cap) l) {i j : Nat} (hij : i ≤ j) (hj : j ≤ l.length) : Lst w (sliced a i j cap 7) ((l.drop i).take (j - i)) := by
  have h1 := lst_take h hj
  have e : (l.take j).length = j := by rw [List.length_take]; omega
  have e1 : sliced a 0 j cap 7 = .slice (if cap = 0 then a else a.map (·.add (0 * 7))) (l.take j).length cap := by
    unfold sliced
    rw [e, Nat.sub_zero, Nat.sub_zero]
  rw [e1] at h1
  have h2 := lst_drop h1 (k := i) (by rw [e]; exact hij)
  have e2 : sliced (if cap = 0 then a else a.map (·.add (0 * 7))) i (l.take j).length cap 7 = sliced a i j cap 7 := by
    unfold sliced
    rw [e]
    by_cases hc : cap = i
    · rw [if_pos hc, if_pos hc]
      by_cases h0 : cap = 0
      · rw [if_pos h0]
      · rw [if_neg h0]
        cases a with
        | none => rfl
        | some ad => simp [Addr.add_zero']
    · rw [if_neg hc, if_neg hc]
      by_cases h0 : cap = 0
      · rw [if_pos h0]
      · rw [if_neg h0]
        cases a with
        | none => rfl
        | some ad => simp [Addr.add_zero']
  rw [e2, List.drop_take] at h2
  exact h2

theorem filter_sees (seen me : Int) (l : List Ch) : (l.filter fun x => !(!seesC seen me x)) = l.filter (seesC seen me) := by
  apply List.filter_congr
  intro x _
  simp

set_option maxRecDepth 20000 in
set_option maxHeartbeats 800000 in
theorem seenBytes_pw {w : World} {base P : Nat} {S : Nat → Prop} {lv ov : Value} {tvs : List Value} {l : List Ch} {es : List Dd} {ts : List (List Ch)} {me next seen sent : Int} (h : PwAt w base S P lv ov tvs l es ts me next seen sent) (hl : l.length ≤ 1000) (i m : Nat) (him : i + m ≤ (l.filter (seesC seen me)).length) :
    Calls Try.prog 70 #[.pointer (some ⟨P, 0, none⟩), .int .i64 i, .int .i64 m] w fun e w' => ∃ v', e = .returned v' ∧ Own w' w.heap.size v' (((l.filter (seesC seen me)).drop i).take m) ∧ Below w.heap.size w w' := by
  have HB0 : Hid (Below w.heap.size w (w.alloc (.cells #[.pointer (some ⟨P, 0, none⟩)] 32))) := below1 _ _
  have HA1 : Hid (PwAt (w.alloc (.cells #[.pointer (some ⟨P, 0, none⟩)] 32)) base S P lv ov tvs l es ts me next seen sent) := h.below HB0.out
  have hPlt := h.cells.lt
  have HWB : Hid (WBox P me seen w.heap.size (w.alloc (.cells #[.pointer (some ⟨P, 0, none⟩)] 32))) := ⟨by simp, by simp [go_sem], by simp; omega, HA1.out.cells.me, HA1.out.cells.seen⟩
  have hfl : (l.filter (seesC seen me)).length ≤ 1000 := Nat.le_trans (List.length_filter_le _ _) hl
  have hmf : ∀ (fn : Fn) (first cap : Array Value) (w : World), (Instr.makeFunc fn first cap).run Try.prog w = .ok (.func fn first cap) w := fun _ _ _ _ => rfl
  have HPL : Hid (P < w.heap.size) := hPlt
  clear h
  go_enter Try.func70, Try.ntmps70
  go_wp2_with fail
  refine (chars_pw HA1.out hl).mono ?_
  rintro e w1 ⟨v1, rfl, ho1, hb1⟩
  have HO1 : Hid (Own w1 (w.heap.size + 1) v1 l) := by
    have e1 : (w.alloc (.cells #[.pointer (some ⟨P, 0, none⟩)] 32)).heap.size = w.heap.size + 1 := by simp
    rw [← e1]; exact ho1
  have HW1 : Hid (WBox P me seen w.heap.size w1) := HWB.out.low (base := (w.alloc (.cells #[.pointer (some ⟨P, 0, none⟩)] 32)).heap.size) HWB.out.lt HWB.out.pl hb1
  have HB1 : Hid (Below w.heap.size w w1) := below_after HB0.out hb1
  have hs1 : w.heap.size + 1 ≤ w1.heap.size := by have := hb1.size; simpa using this
  have c0 := HW1.out.at_
  clear ho1 hb1 HWB HA1 HB0
  go_wp2_with fail
  refine (deleteFunc_own (seen1_looks P w.heap.size (w.heap.size + 1) me seen (Nat.lt_succ_self _) (by have := HPL.out; omega)) HO1.out hs1 hl HW1.out).mono ?_
  rintro e w2 ⟨v2, rfl, ho2, hb2⟩
  rw [filter_sees] at ho2
  have HB2 : Hid (Below w.heap.size w w2) := HB1.out.trans (hb2.mono (by omega))
  obtain ⟨va, vcap, rfl, hvc⟩ := ho2.lst.len
  have HL2 : Hid (Lst w2 (.slice va (l.filter (seesC seen me)).length vcap) (l.filter (seesC seen me))) := ho2.lst
  have HMV : Hid (∀ w, (Instr.sliceAt 50 (.slice va (l.filter (seesC seen me)).length vcap) (some (.int .i64 i)) (some (.int .i64 ((i : Int) + m))) none).run Try.prog w = .ok (sliced va i (i + m) vcap 7) w) := fun w => by
    have := run_mid_val va (l.filter (seesC seen me)).length vcap i (i + m) (by omega) (by omega) w
    simpa using this
  have HLM : Hid (Lst w2 (sliced va i (i + m) vcap 7) (((l.filter (seesC seen me)).drop i).take m)) := by
    have := lst_mid HL2.out (i := i) (j := i + m) (by omega) him
    rw [show i + m - i = m by omega] at this
    exact this
  have HLN : Hid ((((l.filter (seesC seen me)).drop i).take m).length ≤ 100000) := by show _ ≤ _; rw [List.length_take, List.length_drop]; omega
  have hsv := HMV.out
  obtain ⟨sa, sl, sc, hsl⟩ : ∃ sa sl sc, sliced va i (i + m) vcap 7 = .slice sa sl sc := ⟨_, _, _, rfl⟩
  rw [hsl] at hsv
  rw [hsl] at HLM
  clear ho2 hb2 HO1 HW1 HB1 hmf c0 HMV hsl
  generalize (l.filter (seesC seen me)).length = fl at *
  go_wp2_with fail
  refine (clone_lst HLM.out HLN.out).mono ?_
  rintro e w3 ⟨v3, rfl, ho3, hb3⟩
  have HR : Hid (Own w3 w.heap.size v3 (((l.filter (seesC seen me)).drop i).take m) ∧ Below w.heap.size w w3) := ⟨ho3.mono HB2.out.size, below_after HB2.out hb3⟩
  clear ho3 hb3 HLM HLN hsv HL2
  go_wp2
  go_ret
  exact ⟨_, rfl, HR.out⟩

end Go.Proofs.Ytfpemdbiplfkgad

/-
  The document's own KnowsIn, KnowsOut, Sees and ViewOf: their contracts, over bytes whose Out is not below 0.
-/
namespace Go.Proofs.Ytfpemdbiplfkgad
open Go.RowKit

theorem strOf_one (x : Int) : strOfNums [x] = strOfNums ([] ++ [x]) := rfl

end Go.Proofs.Ytfpemdbiplfkgad

/-
  The document's DeedFault, where a number is out of its bounds.
-/
namespace Go.Proofs.Ytfpemdbiplfkgad
open Go.RowKit

theorem unplaced {d : Dd} (h : placedB d = false) : wrB d.by_ = false ∨ (wrB d.by_ = true ∧ d.no < 1) ∨ (wrB d.by_ = true ∧ 1 ≤ d.no ∧ 120 < d.no) ∨ (wrB d.by_ = true ∧ 1 ≤ d.no ∧ d.no ≤ 120 ∧ d.seen < 0) ∨ (wrB d.by_ = true ∧ 1 ≤ d.no ∧ d.no ≤ 120 ∧ 0 ≤ d.seen ∧ 120 < d.seen)
    ∨ (wrB d.by_ = true ∧ 1 ≤ d.no ∧ d.no ≤ 120 ∧ 0 ≤ d.seen ∧ d.seen ≤ 120 ∧ d.at_ < 0) ∨ (wrB d.by_ = true ∧ 1 ≤ d.no ∧ d.no ≤ 120 ∧ 0 ≤ d.seen ∧ d.seen ≤ 120 ∧ 0 ≤ d.at_ ∧ 200 < d.at_) := by
  cases hw : wrB d.by_
  · exact .inl rfl
  · simp [placedB, hw, withinB] at h
    simp
    omega

theorem placed_parts {d : Dd} (h : placedB d = true) : wrB d.by_ = true ∧ 1 ≤ d.no ∧ d.no ≤ 120 ∧ 0 ≤ d.seen ∧ d.seen ≤ 120 ∧ 0 ≤ d.at_ ∧ d.at_ ≤ 200 := by
  simp [placedB, withinB] at h
  obtain ⟨h1, ⟨h2, h3⟩, ⟨h4, h5⟩, h6, h7⟩ := h
  exact ⟨h1, h2, h3, h4, h5, h6, h7⟩

end Go.Proofs.Ytfpemdbiplfkgad

/-
  The document's DeedFault: its contract, for every deed.
-/
namespace Go.Proofs.Ytfpemdbiplfkgad
open Go.RowKit

theorem printed_take {s : ByteArray} {k : Nat} (h : (decide (1 ≤ s.size ∧ s.size ≤ 20) && (s.data.toList.take k).all okChar) = false) : printedB s = false := by
  rw [printedB]
  by_cases h0 : 1 ≤ s.size ∧ s.size ≤ 20
  · simp only [h0, and_self, decide_true, Bool.true_and] at h ⊢
    rw [List.all_eq_false] at h ⊢
    obtain ⟨x, hx, hn⟩ := h
    exact ⟨x, List.mem_of_mem_take hx, hn⟩
  · simp only [h0, decide_false, Bool.false_and]

theorem ok_bytes (b : UInt8) : okChar b = !(decide ((b.toNat : Int) < 32) || decide (126 < (b.toNat : Int))) := by
  rw [okChar, Bool.eq_iff_iff]
  simp
  omega

end Go.Proofs.Ytfpemdbiplfkgad

/-
  The document's own BehindOf, BytesOf and MayDo: their contracts.
-/
namespace Go.Proofs.Ytfpemdbiplfkgad
open Go.RowKit

/-! append, as one operation of a spine. -/

theorem run_append_lst {w : World} {base : Nat} {v u : Value} {a b : List Ch} (ty : TypeId) (hv : Own w base v a) (hu : Lst w u b) (hl : a.length + b.length ≤ 100000) (hbase : base ≤ w.heap.size) :
    ∃ v' w', (Builtin.append_ #[50, 50] ty #[v, u]).run Try.prog w = .ok v' w' ∧ Own w' base v' (a ++ b) ∧ w.grownBy w' v.ownBlock := by
  obtain ⟨i0, hi, hz0, hz1, hz2⟩ := info_parts Try.infoChar
  rcases hu.src with ⟨cap, rfl, rfl⟩ | ⟨ad, cap, rfl, hc, hsrc⟩
  · exact ⟨v, w, run_append_none w base 50 ty 24 i0 7 cap Try.underlying50 hi v a.length (cells7 a) hv, by rw [List.append_nil]; exact hv, grown_refl w _⟩
  · obtain ⟨v', w', h1, h2, h3, _⟩ := run_append_own (P := Try.prog) w base 50 ty 24 i0 zeroCh 7 56 Try.underlying50 hi hz0 hz1 hz2 rfl (by decide) v a.length (cells7 a) hv ad b.length cap (cells7 b) (cells7_len b) hsrc (cells7_one b) (by unfold maxLen; omega) (by omega) hbase
    refine ⟨v', w', h1, ?_, h3⟩
    unfold Own
    rw [List.length_append, cells7_app]
    exact h2

theorem spine_append {o : Oper} {act : Act} {w : World} {s x : Operand} (ho : o.op = .call { callee := .builtin .append, args := #[s, x], argTypes := #[50, 50] }) {base : Nat} {v u : Value} {a b : List Ch} {D : Value → World → Prop}
    (hs : act.eval s = v) (hx : act.eval x = u) (hv : Own w base v a) (hu : Lst w u b) (hl : a.length + b.length ≤ 100000) (hbase : base ≤ w.heap.size)
    (h : ∀ v' w', Own w' base v' (a ++ b) → w.grownBy w' v.ownBlock → D v' w') : spineUpon Try.prog D ((execOp act.eval o).run Try.prog w) := by
  obtain ⟨v', w', h1, h2, h3⟩ := run_append_lst o.type hv hu hl hbase
  have hh := h v' w' h2 h3
  simp [execOp, ho, resolve, invoke, builtin, hs, hx, h1, Result.andThen]
  exact hh

/-- One byte that lies in a new block. -/
theorem lst_one (w : World) (x : Ch) : Lst (w.alloc (.cells #[.int .u8 x.c, .int .i64 x.by_, .int .i64 x.no, .int .i64 x.k, .int .i64 x.inn, .int .i64 x.out, .int .i64 x.gone] 24)) (.slice (some ⟨w.heap.size, 0, none⟩) 1 1) [x] := by
  refine ⟨_, 1, 1, rfl, rfl, Nat.le_refl _, .inr ⟨w.heap.size, 0, rfl, ⟨by simp, fun i hi => ?_⟩⟩⟩
  obtain rfl : i = 0 := by simp at hi; exact hi
  refine ⟨?_, ?_, ?_, ?_, ?_, ?_, ?_⟩ <;> simp [go_sem]

/-- In the middle of BytesOf. -/
structure BI (w : World) (d : Dd) (v : Value) (z : List Ch) (wk : World) : Prop where
  below : Below w.heap.size w wk
  at_ : DdAt wk w.heap.size 0 d
  own : Own wk (w.heap.size + 1) v z

theorem BI.after {w wk w' : World} {d : Dd} {v : Value} {z : List Ch} (h : BI w d v z wk) (hb : Below wk.heap.size wk w') : BI w d v z w' := ⟨below_after h.below hb, h.at_.below hb, h.own.below hb⟩

theorem BI.grown {w wk w' : World} {d : Dd} {v v' : Value} {z z' : List Ch} (h : BI w d v z wk) (hg : wk.grownBy w' v.ownBlock) (ho : Own w' (w.heap.size + 1) v' z') : BI w d v' z' w' := by
  have hk : ∀ k, v.ownBlock = some k → w.heap.size + 1 ≤ k := fun k hk => (World.ownsRow.lt h.own k hk).1
  have hb : Below (w.heap.size + 1) wk w' := (Below.refl _ _).grown hg (by have := h.at_.lt; omega) hk
  have hc : ∀ o, w'.cell? ⟨w.heap.size, o, none⟩ = wk.cell? ⟨w.heap.size, o, none⟩ := fun o => hb.cell (p := ⟨w.heap.size, o, none⟩) (Nat.lt_succ_self _)
  obtain ⟨c, c0, c1, c2, c3, c4, c5, c6⟩ := h.at_
  refine ⟨h.below.trans (hb.mono (by omega)), ⟨by have := hb.size; omega, ?_, ?_, ?_, ?_, ?_, ?_, ?_⟩, ho⟩ <;> rw [hc] <;> assumption

end Go.Proofs.Ytfpemdbiplfkgad

/-
  The document's own MayDo, and Do of a text that is put in: their contracts.
-/
namespace Go.Proofs.Ytfpemdbiplfkgad
open Go.RowKit

/-- In the middle of Do: a list that the call owns besides. -/
structure PI (w : World) (d : Dd) (v : Value) (l : List Ch) (u : Value) (z : List Ch) (wk : World) : Prop where
  m : MInv w w.heap.size d v l wk
  own : Own wk (w.heap.size + 1) u z

theorem PI.after {w wk w' : World} {d : Dd} {v u : Value} {l z : List Ch} (h : PI w d v l u z wk) (hb : Below wk.heap.size wk w') : PI w d v l u z w' := ⟨h.m.after hb, h.own.below hb⟩

/-- Old lists stay, whatever block of the call's own grows. -/
theorem MInv.grown {w wk w' : World} {d : Dd} {v : Value} {l : List Ch} {row : Option Nat} (h : MInv w w.heap.size d v l wk) (ho : Lst w v l) (hg : wk.grownBy w' row) (hr : ∀ k, row = some k → w.heap.size + 1 ≤ k) : MInv w w.heap.size d v l w' := by
  have hlt := h.at_.lt
  have hb : Below (w.heap.size + 1) wk w' := (Below.refl _ _).grown hg (by omega) hr
  have hc : ∀ o, w'.cell? ⟨w.heap.size, o, none⟩ = wk.cell? ⟨w.heap.size, o, none⟩ := fun o => hb.cell (p := ⟨w.heap.size, o, none⟩) (Nat.lt_succ_self _)
  have hbl : Below w.heap.size w w' := h.below.trans (hb.mono (by omega))
  obtain ⟨c, c0, c1, c2, c3, c4, c5, c6⟩ := h.at_
  refine ⟨hbl, ⟨by have := hb.size; omega, ?_, ?_, ?_, ?_, ?_, ?_, ?_⟩, ho.below hbl⟩ <;> rw [hc] <;> assumption

theorem PI.grown {w wk w' : World} {d : Dd} {v u u' : Value} {l z z' : List Ch} (h : PI w d v l u z wk) (ho : Lst w v l) (hg : wk.grownBy w' u.ownBlock) (hz : Own w' (w.heap.size + 1) u' z') : PI w d v l u' z' w' :=
  ⟨h.m.grown ho hg (fun k hk => (World.ownsRow.lt h.own k hk).1), hz⟩

theorem PI.size {w wk : World} {d : Dd} {v u : Value} {l z : List Ch} (h : PI w d v l u z wk) : w.heap.size + 1 ≤ wk.heap.size := by have := h.m.at_.lt; omega

theorem skips_stop {by_ : Int} {l : List Ch} {p j : Nat} (h : p + j < l.length) (hj : j ≤ skipL by_ (l.drop p)) (hn : ¬ (l[p + j].inn = openN ∧ l[p + j].by_ ≠ by_)) : skipL by_ (l.drop p) = j := by
  have key : ∀ (r : List Ch) (j : Nat) (hr : j < r.length), j ≤ skipL by_ r → ¬ (r[j].inn = openN ∧ r[j].by_ ≠ by_) → skipL by_ r = j := by
    intro r
    induction r with
    | nil => intro j hr; exact absurd hr (Nat.not_lt_zero _)
    | cons x r ih =>
      intro j hr hj hn
      rw [skipL] at hj ⊢
      cases j with
      | zero => rw [if_neg (show ¬ (x.inn = openN ∧ x.by_ ≠ by_) from hn)]
      | succ j =>
        split at hj
        · rename_i hx
          rw [if_pos hx, ih j (by simpa using hr) (by omega) hn]
        · omega
  refine key (l.drop p) j (by rw [List.length_drop]; omega) hj ?_
  rw [List.getElem_drop]
  exact hn
theorem skips_more {by_ : Int} {l : List Ch} {p j : Nat} (h : p + j < l.length) (hj : j ≤ skipL by_ (l.drop p)) (hn : l[p + j].inn = openN ∧ l[p + j].by_ ≠ by_) : j + 1 ≤ skipL by_ (l.drop p) := by
  have key : ∀ (r : List Ch) (j : Nat) (hr : j < r.length), j ≤ skipL by_ r → (r[j].inn = openN ∧ r[j].by_ ≠ by_) → j + 1 ≤ skipL by_ r := by
    intro r
    induction r with
    | nil => intro j hr; exact absurd hr (Nat.not_lt_zero _)
    | cons x r ih =>
      intro j hr hj hn
      rw [skipL] at hj ⊢
      cases j with
      | zero => rw [if_pos (show x.inn = openN ∧ x.by_ ≠ by_ from hn)]; omega
      | succ j =>
        split at hj
        · rename_i hx
          have := ih j (by simpa using hr) (by omega) hn
          rw [if_pos hx]; omega
        · omega
  refine key (l.drop p) j (by rw [List.length_drop]; omega) hj ?_
  rw [List.getElem_drop]
  exact hn

end Go.Proofs.Ytfpemdbiplfkgad

/-
  The document's own Do of bytes that are taken away: its contract.
-/
namespace Go.Proofs.Ytfpemdbiplfkgad
open Go.RowKit

/-- In the middle of a round: a byte in a block of its own. -/
structure TI (w : World) (d : Dd) (v : Value) (l : List Ch) (u : Value) (z : List Ch) (C : Nat) (x : Ch) (wk : World) : Prop where
  p : PI w d v l u z wk
  lo : w.heap.size + 1 ≤ C
  lt : C < wk.heap.size
  ne : u.ownBlock ≠ some C
  at_ : At wk C 0 x
  free : ∀ o, o < 7 → wk.frozen? ⟨C, o, none⟩ = false

theorem TI.after {w wk w' : World} {d : Dd} {v u : Value} {l z : List Ch} {C : Nat} {x : Ch} (h : TI w d v l u z C x wk) (hb : Below wk.heap.size wk w') : TI w d v l u z C x w' := by
  obtain ⟨hc, hf⟩ := bcell hb
  refine ⟨h.p.after hb, h.lo, Nat.lt_of_lt_of_le h.lt hb.size, h.ne, ?_, fun o ho => by rw [hf _ _ h.lt]; exact h.free o ho⟩
  have := h.at_
  unfold At at this ⊢
  simp only [hc _ _ h.lt]
  exact this

theorem ti_start {w wk : World} {d : Dd} {v u : Value} {l z : List Ch} (x : Ch) (h : PI w d v l u z wk) : TI w d v l u z wk.heap.size x (wk.alloc (.cells #[.int .u8 x.c, .int .i64 x.by_, .int .i64 x.no, .int .i64 x.k, .int .i64 x.inn, .int .i64 x.out, .int .i64 x.gone] 24)) := by
  refine ⟨h.after ((Below.refl _ _).alloc (Nat.le_refl _) _), h.size, by simp, fun e => ?_, ?_, fun o ho => ?_⟩
  · have := (World.ownsRow.lt h.own _ e).2
    omega
  · refine ⟨?_, ?_, ?_, ?_, ?_, ?_, ?_⟩ <;> simp [go_sem]
  · rcases (show o = 0 ∨ o = 1 ∨ o = 2 ∨ o = 3 ∨ o = 4 ∨ o = 5 ∨ o = 6 by omega) with rfl | rfl | rfl | rfl | rfl | rfl | rfl <;> simp [go_sem]

theorem PI.set {w wk : World} {d : Dd} {v u : Value} {l z : List Ch} {C o : Nat} (h : PI w d v l u z wk) (h0 : Lst w v l) (hC : w.heap.size + 1 ≤ C) (hne : u.ownBlock ≠ some C) (y : Value) : PI w d v l u z (wk.setCell ⟨C, o, none⟩ y) := by
  have hb : Below (w.heap.size + 1) wk (wk.setCell ⟨C, o, none⟩ y) := (Below.refl _ _).setCell (p := ⟨C, o, none⟩) hC _
  have hc : ∀ o', (wk.setCell ⟨C, o, none⟩ y).cell? ⟨w.heap.size, o', none⟩ = wk.cell? ⟨w.heap.size, o', none⟩ := fun o' => hb.cell (p := ⟨w.heap.size, o', none⟩) (Nat.lt_succ_self _)
  have hbl : Below w.heap.size w (wk.setCell ⟨C, o, none⟩ y) := h.m.below.trans (hb.mono (by omega))
  obtain ⟨c, c0, c1, c2, c3, c4, c5, c6⟩ := h.m.at_
  refine ⟨⟨hbl, ⟨by have := hb.size; omega, ?_, ?_, ?_, ?_, ?_, ?_, ?_⟩, h0.below hbl⟩, ?_⟩
  · rw [hc]; exact c0
  · rw [hc]; exact c1
  · rw [hc]; exact c2
  · rw [hc]; exact c3
  · rw [hc]; exact c4
  · rw [hc]; exact c5
  · rw [hc]; exact c6
  · exact World.ownsRow.kept (row := some C) h.own ⟨rfl, rfl, rfl, by simp [World.setCell], fun k _ hk => Below.heap_setCell _ _ _ _ (fun e => hk (by rw [e]))⟩ (.inr hne)

theorem TI.gone {w wk : World} {d : Dd} {v u : Value} {l z : List Ch} {C : Nat} {c b no k i o g : Int} (h : TI w d v l u z C ⟨c, b, no, k, i, o, g⟩ wk) (h0 : Lst w v l) (n : Int) : TI w d v l u z C ⟨c, b, no, k, i, o, n⟩ (wk.setCell ⟨C, 6, none⟩ (.int .i64 n)) := by
  obtain ⟨a0, a1, a2, a3, a4, a5, a6⟩ := h.at_
  simp only [Nat.zero_add] at a0 a1 a2 a3 a4 a5 a6
  refine ⟨h.p.set h0 h.lo h.ne _, h.lo, by simpa [World.setCell] using h.lt, h.ne, ?_, fun o ho => ?_⟩
  · refine ⟨?_, ?_, ?_, ?_, ?_, ?_, ?_⟩ <;> simp [go_sem, a0, a1, a2, a3, a4, a5, a6]
  · have := h.free o ho
    simpa [go_sem] using this

theorem TI.out {w wk : World} {d : Dd} {v u : Value} {l z : List Ch} {C : Nat} {c b no k i o g : Int} (h : TI w d v l u z C ⟨c, b, no, k, i, o, g⟩ wk) (h0 : Lst w v l) (n : Int) : TI w d v l u z C ⟨c, b, no, k, i, n, g⟩ (wk.setCell ⟨C, 5, none⟩ (.int .i64 n)) := by
  obtain ⟨a0, a1, a2, a3, a4, a5, a6⟩ := h.at_
  simp only [Nat.zero_add] at a0 a1 a2 a3 a4 a5 a6
  refine ⟨h.p.set h0 h.lo h.ne _, h.lo, by simpa [World.setCell] using h.lt, h.ne, ?_, fun o ho => ?_⟩
  · refine ⟨?_, ?_, ?_, ?_, ?_, ?_, ?_⟩ <;> simp [go_sem, a0, a1, a2, a3, a4, a5, a6]
  · have := h.free o ho
    simpa [go_sem] using this

theorem lst_one' (w : World) (x : Ch) {n : Nat} (hn : n = w.heap.size) : Lst (w.alloc (.cells #[.int .u8 x.c, .int .i64 x.by_, .int .i64 x.no, .int .i64 x.k, .int .i64 x.inn, .int .i64 x.out, .int .i64 x.gone] 24)) (.slice (some ⟨n, 0, none⟩) 1 1) [x] := by
  subst hn
  exact lst_one w x

/-- What has been taken away so far. -/
def tkL (d : Dd) (number : Int) (l : List Ch) (k : Nat) : List Ch := takeL d number 0 (l.take k)

theorem tkL_len (d : Dd) (number : Int) (l : List Ch) (k : Nat) : (tkL d number l k).length ≤ l.length := by
  rw [tkL, takeL_len, List.length_take]
  omega

theorem tkL_step (d : Dd) (number : Int) {l : List Ch} {k : Nat} (hk : k < l.length) : tkL d number l (k + 1) = tkL d number l k ++ [if seesC d.seen d.by_ l[k] = true then (if d.at_ ≤ cnt (l.take k) d.seen d.by_ ∧ cnt (l.take k) d.seen d.by_ < d.at_ + d.many then mark d.by_ number l[k] else l[k]) else l[k]] := by
  rw [tkL, take_snoc l k hk, takeL_snoc, Int.zero_add]
  rfl

theorem mark_num {by_ number : Int} {x : Ch} (hn : number ≤ 1000) (t : Int) (ht : t = 2 ^ by_.toNat) : mark by_ number x = ⟨x.c, x.by_, x.no, x.k, x.inn, if x.out = 0 ∨ number < x.out then number else x.out, x.gone + t⟩ := by
  have h : number ≠ openN := by show number ≠ 1073741824; omega
  rw [mark, markOut, ht]
  simp only [h, ne_eq, not_false_eq_true, true_and]

theorem pow_step (m : Nat) : (2 : Int) ^ (m + 1) = 2 ^ m * 2 := Int.pow_succ 2 m
theorem pow_small {m : Nat} (h : m ≤ 3) : 1 ≤ (2 : Int) ^ m ∧ (2 : Int) ^ m ≤ 8 := by
  rcases (show m = 0 ∨ m = 1 ∨ m = 2 ∨ m = 3 by omega) with rfl | rfl | rfl | rfl <;> decide

theorem mark_non {by_ : Int} {x : Ch} (t : Int) (ht : t = 2 ^ by_.toNat) : mark by_ openN x = ⟨x.c, x.by_, x.no, x.k, x.inn, x.out, x.gone + t⟩ := by
  rw [mark, markOut, ht, if_neg (fun e => e.1 rfl)]

end Go.Proofs.Ytfpemdbiplfkgad

/-
  The document's own Do, All, TextOf and a book's Chars: their contracts.
-/
namespace Go.Proofs.Ytfpemdbiplfkgad
open Go.RowKit

theorem many_pos {d : Dd} (h : checkC d = 0) (hk : d.kind ≠ 1) : 1 ≤ d.many := by
  unfold checkC at h
  by_cases hk2 : d.kind ≠ 1 ∧ d.kind ≠ 2
  · rw [if_pos hk2] at h; cases h
  · rw [if_neg hk2] at h
    cases hp : placedB d
    · rw [if_pos hp] at h; cases h
    · rw [if_neg (by simp [hp]), if_neg hk, takeC] at h
      by_cases ht : d.text.size ≠ 0
      · rw [if_pos ht] at h; cases h
      · rw [if_neg ht] at h
        cases hw : withinB d.many 1 200
        · rw [if_neg (by simp [hw])] at h; cases h
        · have : 1 ≤ d.many ∧ d.many ≤ 200 := by simpa [withinB] using hw
          exact this.1

/-- What has been done so far, of bytes that lie in a log. -/
def SofarT (l : List Ch) (i : Nat) (ds all : List Dd) : Prop := Sofar l i ds all ∧ Tame l

theorem sofarT_code {l : List Ch} {i : Nat} {d : Dd} {r all : List Dd} (h : SofarT l i (d :: r) all) (h0 : (allL [] 0 all).2.1 = 0) : doC l d (i + 1) = 0 := by
  by_cases hc : doC l d ((i : Int) + 1) = 0
  · exact hc
  · rw [sofar_bad h.1 hc] at h0
    exact absurd h0 hc

theorem sofarT_step {l : List Ch} {i : Nat} {d : Dd} {r all : List Dd} (h : SofarT l i (d :: r) all) (hc : doC l d (i + 1) = 0) (hi : i < 1000) : SofarT (doL l d (i + 1)) (i + 1) r all :=
  ⟨sofar_step h.1 hc, tame_do h.2 (doC_zero hc).1 (by omega) (by omega)⟩

end Go.Proofs.Ytfpemdbiplfkgad

/-
  The document's own Book: IsHere, Least, Join, Leave, Says: their contracts.
-/
namespace Go.Proofs.Ytfpemdbiplfkgad
open Go.RowKit

theorem wr_nat {n : Int} (h : wrB n = true) : ∃ j : Nat, n = j ∧ j < 4 := by
  have hn : 0 ≤ n ∧ n ≤ 3 := by simpa [wrB] using h
  obtain ⟨j, rfl⟩ := Int.eq_ofNat_of_zero_le hn.1
  exact ⟨j, rfl, by omega⟩

theorem isHere_no {b : Bk} {n : Int} (h : wrB n = false) : b.isHere n = false := by rw [Bk.isHere, h]; rfl
theorem isHere_yes {b : Bk} {n : Int} (h : wrB n = true) : b.isHere n = b.here n := by rw [Bk.isHere, h]; rfl

/-- The least of the first k. -/
def leastTo (b : Bk) : Nat → Int
  | 0 => b.len
  | k + 1 => leastStep b (leastTo b k) k

theorem leastTo_four (b : Bk) : leastTo b 4 = leastL b := rfl

theorem leastTo_bd {b : Bk} (h : Good b) : ∀ k, 0 ≤ leastTo b k ∧ leastTo b k ≤ 120
  | 0 => by
    have := h.small
    show 0 ≤ b.len ∧ b.len ≤ 120
    have e : b.len = (b.ds.length : Int) := rfl
    omega
  | k + 1 => by
    have h1 := leastTo_bd h k
    have h2 := h.said k
    show 0 ≤ leastStep b (leastTo b k) k ∧ leastStep b (leastTo b k) k ≤ 120
    unfold leastStep
    split <;> omega

theorem OwnD.len {w : World} {base : Nat} {v : Value} {l : List Dd} (h : OwnD w base v l) : ∃ a cap, v = .slice a l.length cap := by
  rcases h.2 with ⟨rfl, hn⟩ | ⟨g, cap, cur, rfl, _⟩
  · exact ⟨none, 0, by rw [hn]⟩
  · exact ⟨_, cap, rfl⟩

/-! A cell of a book is written. -/

theorem BookC.setHere {w : World} {B : Nat} {dv : Value} {b : Bk} (h : BookC w B dv b) {j : Nat} (hj : j < 4) (x : Bool) : BookC (w.setCell ⟨B, 1 + j, none⟩ (.bool x)) B dv ⟨b.ds, setF b.here j x, b.last, b.said⟩ := by
  have h0 := h.deeds
  refine ⟨by simpa using h.lt, by simp [go_sem, h0], fun i hi => ?_, fun i hi => ?_, fun i hi => ?_, fun o ho => ?_⟩
  · have h1 := h.here i hi
    by_cases e : i = j
    · subst e
      simp [go_sem, h1, setF]
    · have e1 : ¬ (i : Int) = (j : Int) := by omega
      simp [go_sem, h1, setF, e1]
  · have h1 := h.last i hi
    simp [go_sem, h1]
  · have h1 := h.said i hi
    simp [go_sem, h1]
  · simpa [go_sem] using h.free o ho

theorem BookC.setLast {w : World} {B : Nat} {dv : Value} {b : Bk} (h : BookC w B dv b) {j : Nat} (hj : j < 4) (x : Int) : BookC (w.setCell ⟨B, 5 + j, none⟩ (.int .i64 x)) B dv ⟨b.ds, b.here, setF b.last j x, b.said⟩ := by
  have h0 := h.deeds
  refine ⟨by simpa using h.lt, by simp [go_sem, h0], fun i hi => ?_, fun i hi => ?_, fun i hi => ?_, fun o ho => ?_⟩
  · have h1 := h.here i hi
    simp [go_sem, h1]
  · have h1 := h.last i hi
    by_cases e : i = j
    · subst e
      simp [go_sem, h1, setF]
    · have e1 : ¬ (i : Int) = (j : Int) := by omega
      simp [go_sem, h1, setF, e1]
  · have h1 := h.said i hi
    simp [go_sem, h1]
  · simpa [go_sem] using h.free o ho

theorem BookC.setSaid {w : World} {B : Nat} {dv : Value} {b : Bk} (h : BookC w B dv b) {j : Nat} (hj : j < 4) (x : Int) : BookC (w.setCell ⟨B, 9 + j, none⟩ (.int .i64 x)) B dv ⟨b.ds, b.here, b.last, setF b.said j x⟩ := by
  have h0 := h.deeds
  refine ⟨by simpa using h.lt, by simp [go_sem, h0], fun i hi => ?_, fun i hi => ?_, fun i hi => ?_, fun o ho => ?_⟩
  · have h1 := h.here i hi
    simp [go_sem, h1]
  · have h1 := h.last i hi
    simp [go_sem, h1]
  · have h1 := h.said i hi
    by_cases e : i = j
    · subst e
      simp [go_sem, h1, setF]
    · have e1 : ¬ (i : Int) = (j : Int) := by omega
      simp [go_sem, h1, setF, e1]
  · simpa [go_sem] using h.free o ho

/-- A book behind a step: it is that of b', and nothing else that was there has changed. -/
structure BookTo (w : World) (base : Nat) (S : Nat → Prop) (B : Nat) (b' : Bk) (w' : World) : Prop where
  at_ : ∃ dv, BookAt w' base (grow S w w') B dv b'
  kept : Kept S w w'

theorem BookAt.grow {w w' : World} {base B : Nat} {S : Nat → Prop} {dv : Value} {b : Bk} (h : BookAt w' base S B dv b) (hb : base ≤ w.heap.size) : BookAt w' base (grow S w w') B dv b :=
  ⟨fun k hs => hs.elim (h.lo k) (fun e => ⟨by omega, e.2⟩), .inl h.hB, h.cells, h.ownD, fun k e => ⟨.inl (h.dB k e).1, (h.dB k e).2⟩⟩

theorem BookAt.base_le {w : World} {base B : Nat} {S : Nat → Prop} {dv : Value} {b : Bk} (h : BookAt w base S B dv b) : base ≤ w.heap.size := by
  have := h.lo B h.hB
  omega

theorem BookAt.stay {w w' : World} {base B : Nat} {S : Nat → Prop} {dv : Value} {b : Bk} (h : BookAt w base S B dv b) (hb : Below w.heap.size w w') : BookTo w base S B b w' :=
  ⟨⟨dv, (h.below hb).grow h.base_le⟩, .of_below hb⟩

/-- Cells of the book's own block have been written. -/
theorem BookAt.wrote {w w' : World} {base B : Nat} {S : Nat → Prop} {dv : Value} {b b' : Bk} (h : BookAt w base S B dv b) (hk : Kept (fun k => k = B) w w') (hs : w'.heap.size = w.heap.size) (hc : BookC w' B dv b') (hd : b'.ds = b.ds) : BookTo w base S B b' w' := by
  have hblk : ∀ k, k ≠ B → w'.heap[k]? = w.heap[k]? := fun k hkB => by
    by_cases hlt : k < w.heap.size
    · exact hk.block k hlt hkB
    · rw [Array.getElem?_eq_none (by omega), Array.getElem?_eq_none (by omega)]
  refine ⟨⟨dv, (h.cells_of hblk hk.size hc hd).grow h.base_le⟩, ⟨hk.os, hk.tape, hk.output, hk.size, fun k hk' hS => hblk k (fun e => hS (by rw [e]; exact h.hB))⟩⟩

theorem kept_one (w : World) (B o : Nat) (u : Value) : Kept (fun k => k = B) w (w.setCell ⟨B, o, none⟩ u) := Kept.set (S := fun k => k = B) (Kept.refl _ w) (p := ⟨B, o, none⟩) rfl u

theorem kept_more {w w' : World} {B : Nat} (h : Kept (fun k => k = B) w w') (o : Nat) (u : Value) : Kept (fun k => k = B) w (w'.setCell ⟨B, o, none⟩ u) := Kept.set (S := fun k => k = B) h (p := ⟨B, o, none⟩) rfl u

theorem BookAt.mono {w : World} {base B : Nat} {S T : Nat → Prop} {dv : Value} {b : Bk} (h : BookAt w base S B dv b) (hT : ∀ k, S k → T k) (hl : ∀ k, T k → base ≤ k ∧ k < w.heap.size) : BookAt w base T B dv b :=
  ⟨hl, hT _ h.hB, h.cells, h.ownD, fun k e => ⟨hT k (h.dB k e).1, (h.dB k e).2⟩⟩

theorem BookTo.after {w w' w'' : World} {base B : Nat} {S : Nat → Prop} {b : Bk} (h : BookTo w base S B b w') (hb : Below w'.heap.size w' w'') : BookTo w base S B b w'' := by
  obtain ⟨⟨dv, hat⟩, hk⟩ := h
  have hlo := hat.lo
  refine ⟨⟨dv, (hat.below hb).mono (fun k hk => hk.elim .inl (fun e => .inr ⟨e.1, Nat.lt_of_lt_of_le e.2 hb.size⟩)) (fun k hk' => ?_)⟩, hk.after hb⟩
  rcases hk' with e | e
  · have := hlo k (.inl e)
    have := hb.size
    omega
  · have := hat.base_le
    have h1 := hk.size
    have h2 : base ≤ w.heap.size ∨ w.heap.size < base := by omega
    rcases h2 with h2 | h2
    · omega
    · by_cases h3 : k < w'.heap.size
      · have := hlo k (.inr ⟨e.1, h3⟩)
        omega
      · omega

theorem ret_two {a b a' b' : Int} (h : a = a') (h2 : b = b') : Ending.returned (.tuple #[.int .i64 a, .int .i64 b]) = .returned (.tuple #[.int .i64 a', .int .i64 b']) := by rw [h, h2]

theorem leave_codes (b : Bk) (n : Int) : (b.isHere n = true ∧ leaveC b n = 0) ∨ (b.isHere n = false ∧ leaveC b n = 5) := by
  unfold leaveC
  cases h : b.isHere n
  · exact .inr ⟨rfl, if_neg (by simp)⟩
  · exact .inl ⟨rfl, if_pos rfl⟩

theorem says_codes (b : Bk) (n seen : Int) : (b.isHere n = false ∧ saysC b n seen = 5) ∨ (b.isHere n = true ∧ seen < b.said n ∧ saysC b n seen = 8) ∨ (b.isHere n = true ∧ b.said n ≤ seen ∧ b.len < seen ∧ saysC b n seen = 8) ∨ (b.isHere n = true ∧ b.said n ≤ seen ∧ seen ≤ b.len ∧ saysC b n seen = 0) := by
  unfold saysC
  cases h : b.isHere n
  · exact .inl ⟨rfl, if_pos rfl⟩
  · rw [if_neg (by simp)]
    by_cases h1 : seen < b.said n
    · exact .inr (.inl ⟨rfl, h1, if_pos (.inl h1)⟩)
    · by_cases h2 : b.len < seen
      · exact .inr (.inr (.inl ⟨rfl, by omega, h2, if_pos (.inr h2)⟩))
      · exact .inr (.inr (.inr ⟨rfl, by omega, by omega, if_neg (by omega)⟩))

theorem join_codes (b : Bk) (n : Int) : (wrB n = false ∧ joinC b n = 1) ∨ (wrB n = true ∧ b.here n = true ∧ joinC b n = 6) ∨ (wrB n = true ∧ b.here n = false ∧ joinC b n = 0) := by
  unfold joinC
  cases h : wrB n
  · exact .inl ⟨rfl, if_pos rfl⟩
  · rw [if_neg (by simp)]
    cases h2 : b.here n
    · exact .inr (.inr ⟨rfl, rfl, if_neg (by simp)⟩)
    · exact .inr (.inl ⟨rfl, rfl, if_pos rfl⟩)

end Go.Proofs.Ytfpemdbiplfkgad
