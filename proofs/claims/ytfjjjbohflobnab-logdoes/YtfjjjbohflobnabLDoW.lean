/-
  The walk of LogDoes.
-/
import Derived.Test.YtfjjjbohflobnabLRun
import Derived.Test.YtfjjjbohflobnabLNth
import Derived.Test.YtfjjjbohflobnabLRow
namespace Go.Proofs.Ytfjjjbohflobnab
open Go.RowKit

/-! A region that draws its order, some of whose operations stand ahead of one that all others wait for. -/

section
variable {P : Program} {ops : Array Oper} {md : Region.Mode} {Q : Exit → Act → World → Prop}

/-- The one operation that may come up. -/
theorem wpAny_one {i : Nat} {o : Oper} {fuel : Nat} {listed : Array Bool} {a : Act} {w : World} (hr : Region.ready md ops listed = [i]) (ho : ops[i]? = some o) (hg : o.guard = none)
    (h : ∀ K : Act → World → Prop, (∀ a' w', wpAny P md ops Q fuel (listed.setIfInBounds i true) a' w' → K a' w') → o.wp P a w K Q) : wpAny P md ops Q (fuel + 1) listed a w := by
  refine wpAny_all hr (by simp) (fun j hj => ?_)
  obtain rfl : j = i := by simpa using hj
  have hw : Region.wanted o (yielded ops a.tmps) = true := by unfold Region.wanted; rw [hg]
  unfold wpOp
  simp only [ho, hw, if_true]
  exact .inl (h _ (fun _ _ h => h))

/-- The rest of a region, in a class of worlds that its operations leave alone. -/
theorem wpAny_rest {C : World → Prop} (k n : Nat) {listed : Array Bool} {a : Act} {w : World} (hn : ops.toList.length = k + n) (hs : Region.noSelect ops = true) (hB : Region.lexFrom md ops n k listed = true) (hC : C w)
    (h : wpQuiet P ops C (fun a' => ∀ w', C w' → Q .normal a' w') (ops.toList.drop k) a) : wpAny P md ops Q n listed a w := by
  have hl : (ops.toList.drop k).length = n := by rw [List.length_drop, hn]; omega
  have hB' : Region.lexFrom md ops (ops.toList.drop k).length k listed = true := by rw [hl]; exact hB
  have := wpAny_of_quiet (Q := fun a' => ∀ w', C w' → Q .normal a' w') (Q' := Q) (fun _ w' hw' h => h w' hw') _ _ _ _ hC (wpAnyQ_lex hs (ops.toList.drop k) k listed a (fun j => by rw [List.getElem?_drop, Array.getElem?_toList]) hB' h)
  rw [hl] at this
  exact this
end

/-- Behind a step: the two, and where the book's deeds lie. -/
structure DC (w : World) (G B : Nat) (b : Bk) (LB : Nat → Prop) (dv : Value) (wk : World) : Prop where
  ri : RI w G B b wk
  book : BookAt wk w.heap.size LB B dv b

theorem DC.after {w wk w' : World} {G B : Nat} {b : Bk} {LB : Nat → Prop} {dv : Value} (h : DC w G B b LB dv wk) (hb : Below wk.heap.size wk w') : DC w G B b LB dv w' := ⟨h.ri.after hb, h.book.below hb⟩

set_option maxRecDepth 20000 in
set_option maxHeartbeats 3200000 in
theorem logDoes_any (v : Value) (xs : List LStep) (n : Int) (w : World) (h : SLst w v xs) (hf : ∀ x ∈ xs, FitX x) :
    Calls Try.prog 4 #[v, .int .i64 n] w fun e w' => e = .returned (.bool true) ∧ Below w.heap.size w w' := by
  have HD : Hid (SLst w v xs) := h
  have HF : Hid (∀ x ∈ xs, FitX x) := hf
  obtain ⟨a, cap, rfl⟩ := h.len
  clear h hf
  go_enter Try.func4, Try.ntmps4
  go_wp2_with fail
  refine (lbegun_any _).mono ?_
  rintro e w1 ⟨rfl, hb1⟩
  have HB1 : Hid (Below w.heap.size w w1) := hb1
  clear hb1
  go_wp2_with fail
  refine (greatL_any _ xs _ (HD.out.below HB1.out)).mono ?_
  rintro e w2 ⟨gr, rfl, hgr, rfl⟩
  cases gr
  · obtain ⟨hl, _⟩ := hgr rfl
    clear hgr
    go_wp2_with fail
    refine (new_lg _).mono ?_
    rintro e w3 ⟨rfl, rfl⟩
    have HR0 : Hid (RI w w2.heap.size (w2.heap.size + 1) (runTo xs 0) ((w2.alloc (.cells logZero 71)).alloc (.cells bookZero 42))) := ri_start HB1.out
    clear HB1
    go_wp2
    generalize World.alloc _ _ = w4 at *
    generalize w2.heap.size + 1 = B at *
    generalize w2.heap.size = G at *
    go_loopw [7] (fun i wr => ∃ k : Nat, k ≤ xs.length ∧ i = .int .i64 k ∧ Hid (RI w G B (runTo xs k) wr)) (fun i _ => xs.length - (intOf i).toNat)
    case atStart => exact ⟨0, Nat.zero_le _, rfl, HR0⟩
    case round =>
      obtain ⟨k, hk, rfl, HR⟩ := hrel
      clear HR0
      by_cases hlt : k < xs.length
      · have HG : Hid (Good (runTo xs k)) := runTo_good xs k
        have HG1 : Hid (Good (runTo xs (k + 1))) := runTo_good xs (k + 1)
        have hkl : k < xs.length := hlt
        obtain ⟨bb, off, rfl, hr0⟩ := HD.out.row (by omega)
        have HBB : Hid (bb < w.heap.size) := hr0.lt
        have hr := hr0.below HR.out.below
        clear hr0
        obtain ⟨_, c0, c1, c2, c3, c4, c5, c6, c7, c8, c9, c10⟩ := hr.at_ k hkl
        have HSU : Hid (runTo xs (k + 1) = stepB (runTo xs k) xs[k]) := runTo_succ hkl
        have HFX : Hid (FitX xs[k]) := HF.out _ (List.getElem_mem hkl)
        generalize xs[k] = x at c0 c1 c2 c3 c4 c5 c6 c7 c8 c9 c10 HSU HFX
        clear hr
        obtain ⟨do_, w_, n_, ⟨kind, by_, no, seen, at_, many, text⟩, right⟩ := x
        simp only at c0 c1 c2 c3 c4 c5 c6 c7 c8 c9 c10
        have hk0 : (0 : Int) ≤ (k : Int) := Int.natCast_nonneg _
        have hk1 : (k : Int) < (xs.length : Int) := by omega
        go_wp2
        have HRd : Hid (RI w G B (runTo xs k) wr.drew) := HR.out.after (Below.refl _ _).drew
        have d0 : wr.drew.cell? ⟨bb, off + k * 11, none⟩ = some (.int .i64 do_) := c0
        have d1 : wr.drew.cell? ⟨bb, off + k * 11 + 1, none⟩ = some (.int .i64 w_) := c1
        have d2 : wr.drew.cell? ⟨bb, off + k * 11 + 2, none⟩ = some (.int .i64 n_) := c2
        have d3 : wr.drew.cell? ⟨bb, off + k * 11 + 3, none⟩ = some (.int .i64 kind) := c3
        have d4 : wr.drew.cell? ⟨bb, off + k * 11 + 4, none⟩ = some (.int .i64 by_) := c4
        have d5 : wr.drew.cell? ⟨bb, off + k * 11 + 5, none⟩ = some (.int .i64 no) := c5
        have d6 : wr.drew.cell? ⟨bb, off + k * 11 + 6, none⟩ = some (.int .i64 seen) := c6
        have d7 : wr.drew.cell? ⟨bb, off + k * 11 + 7, none⟩ = some (.int .i64 at_) := c7
        have d8 : wr.drew.cell? ⟨bb, off + k * 11 + 8, none⟩ = some (.int .i64 many) := c8
        have d9 : wr.drew.cell? ⟨bb, off + k * 11 + 9, none⟩ = some (.string text) := c9
        have d10 : wr.drew.cell? ⟨bb, off + k * 11 + 10, none⟩ = some (.bool right) := c10
        have HST : Hid (∀ wk, Below w.heap.size w wk → wk.cell? ⟨bb, off + k * 11 + 1, none⟩ = some (.int .i64 w_)) := fun wk hb => by
          have hbb : bb < w.heap.size := HBB.out
          rw [hb.cell (p := ⟨bb, off + k * 11 + 1, none⟩) hbb, ← HR.out.below.cell (p := ⟨bb, off + k * 11 + 1, none⟩) hbb]
          exact c1
        clear c0 c1 c2 c3 c4 c5 c6 c7 c8 c9 c10 HR
        refine wp_region_any (by kernel_rfl) ?_
        change wpAny _ _ _ _ 42 (Array.replicate 42 false) _ wr.drew
        generalize wr.drew = wd at *
        refine wpAny_take (i := 0) (v := ?_) rfl (by kernel_rfl) (by kernel_rfl) (by kernel_rfl) (fun _ _ _ h => h) (Or.inl ⟨by rfl, ?_⟩) ?_
        rotate_left 1
        · intro w; go_simp; rfl
        simp only [Act.put]
        refine wpAny_take (i := 1) (v := ?_) rfl (by kernel_rfl) (by kernel_rfl) (by kernel_rfl) (fun _ _ _ h => h) (Or.inl ⟨by rfl, ?_⟩) ?_
        rotate_left 1
        · intro w; go_simp; rfl
        simp only [Act.put]
        refine wpAny_take (i := 2) (v := ?_) rfl (by kernel_rfl) (by kernel_rfl) (by kernel_rfl) (fun _ _ _ h => h) (Or.inl ⟨by rfl, ?_⟩) ?_
        rotate_left 1
        · intro w; go_simp; rfl
        simp only [Act.put]
        refine wpAny_take (i := 3) (v := ?_) rfl (by kernel_rfl) (by kernel_rfl) (by kernel_rfl) (fun _ _ _ h => h) (Or.inl ⟨by rfl, ?_⟩) ?_
        rotate_left 1
        · intro w; go_simp; rfl
        simp only [Act.put]
        refine wpAny_take (i := 4) (v := ?_) rfl (by kernel_rfl) (by kernel_rfl) (by kernel_rfl) (fun _ _ _ h => h) (Or.inl ⟨by rfl, ?_⟩) ?_
        rotate_left 1
        · intro w; go_simp; rfl
        simp only [Act.put]
        refine wpAny_one (i := 5) (by kernel_rfl) rfl rfl (fun K hK => ?_)
        go_simp
        refine hK _ _ ?_
        clear hK K
        refine wpAny_one (i := 6) (by kernel_rfl) rfl rfl (fun K hK => ?_)
        go_simp
        refine (step_any HRd.out.duo HG.out ⟨do_, w_, n_, ⟨kind, by_, no, seen, at_, many, text⟩, right⟩ HFX.out).mono ?_
        rintro e w7 ⟨rfl, hst⟩
        rw [← HSU.out] at hst
        have HR7 : Hid (RI w G B (runTo xs (k + 1)) w7) := HRd.out.stepped hst
        clear hst HRd HSU HFX HG d0 d1 d2 d3 d4 d5 d6 d7 d8 d9 d10
        generalize hbe : runTo xs (k + 1) = b1 at *
        have HBE : Hid (runTo xs (k + 1) = b1) := hbe
        clear hbe
        go_simp
        refine hK _ _ ?_
        clear hK K
        obtain ⟨LB, dv, hB, _⟩ := HR7.out.duo.book
        obtain ⟨a9, cap9, rfl⟩ := hB.ownD.len
        have hC7 : DC w G B b1 LB (.slice a9 b1.ds.length cap9) w7 := ⟨HR7.out, hB⟩
        clear hB HR7
        refine wpAny_rest (C := fun wk => DC w G B b1 LB (.slice a9 b1.ds.length cap9) wk) 7 35 (by rfl) (by kernel_rfl) (by kernel_rfl) hC7 ?_
        clear hC7
        refine wpQuiet_step (fun K hK => ?_)
        go_simp
        refine ⟨.bool false, fun wk hwk => ?_, hK _ ?_⟩
        · go_simp
        clear hK K
        refine wpQuiet_step (fun K hK => ?_)
        go_simp
        refine ⟨_, fun _ _ => rfl, hK _ ?_⟩
        clear hK K
        refine wpQuiet_step (fun K hK => ?_)
        go_simp
        refine ⟨_, fun _ _ => rfl, hK _ ?_⟩
        clear hK K
        refine wpQuiet_step (fun K hK => ?_)
        go_simp
        refine ⟨_, fun wk hwk => (duo_least hwk.ri.duo HG1.out).mono (fun _ _ ⟨he, hb⟩ => ⟨he, hwk.after hb⟩), hK _ ?_⟩
        clear hK K
        refine wpQuiet_step (fun K hK => ?_)
        go_simp
        refine ⟨_, fun _ _ => rfl, hK _ ?_⟩
        clear hK K
        refine wpQuiet_step (fun K hK => ?_)
        go_simp
        refine ⟨_, fun wk hwk => (least_bk hwk.book HG1.out).mono (fun _ _ ⟨he, hb⟩ => by subst hb; exact ⟨he, hwk⟩), hK _ ?_⟩
        clear hK K
        refine wpQuiet_step (fun K hK => ?_)
        go_simp
        refine ⟨.bool false, fun wk hwk => ?_, hK _ ?_⟩
        · go_simp
        clear hK K
        refine wpQuiet_step (fun K hK => ?_)
        go_simp
        refine ⟨.bool false, fun wk hwk => ?_, hK _ ?_⟩
        · go_simp
        clear hK K
        refine wpQuiet_step (fun K hK => ?_)
        go_simp
        refine ⟨_, fun _ _ => rfl, hK _ ?_⟩
        clear hK K
        refine wpQuiet_step (fun K hK => ?_)
        go_simp
        refine ⟨_, fun _ _ => rfl, hK _ ?_⟩
        clear hK K
        refine wpQuiet_step (fun K hK => ?_)
        go_simp
        refine ⟨_, fun wk hwk => (duo_len hwk.ri.duo).mono (fun _ _ ⟨he, hb⟩ => by subst hb; exact ⟨he, hwk⟩), hK _ ?_⟩
        clear hK K
        refine wpQuiet_step (fun K hK => ?_)
        go_simp
        refine ⟨_, fun _ _ => rfl, hK _ ?_⟩
        clear hK K
        refine wpQuiet_step (fun K hK => ?_)
        go_simp
        refine ⟨_, fun _ _ => rfl, hK _ ?_⟩
        clear hK K
        refine wpQuiet_step (fun K hK => ?_)
        go_simp
        refine ⟨_, fun _ _ => rfl, hK _ ?_⟩
        clear hK K
        refine wpQuiet_step (fun K hK => ?_)
        go_simp
        refine ⟨.slice a9 b1.ds.length cap9, fun wk hwk => ?_, hK _ ?_⟩
        · have g0 := hwk.book.cells.deeds
          have hlt := hwk.book.cells.lt
          go_simp
        clear hK K
        refine wpQuiet_step (fun K hK => ?_)
        go_simp
        refine ⟨.int .i64 b1.ds.length, fun wk hwk => ?_, hK _ ?_⟩
        · go_simp
        clear hK K
        refine wpQuiet_step (fun K hK => ?_)
        go_simp
        refine ⟨.bool false, fun wk hwk => ?_, hK _ ?_⟩
        · go_simp
        clear hK K
        refine wpQuiet_step (fun K hK => ?_)
        go_simp
        refine ⟨.bool false, fun wk hwk => ?_, hK _ ?_⟩
        · go_simp
        clear hK K
        refine wpQuiet_step (fun K hK => ?_)
        go_simp
        refine ⟨_, fun _ _ => rfl, hK _ ?_⟩
        clear hK K
        refine wpQuiet_step (fun K hK => ?_)
        go_simp
        refine ⟨_, fun _ _ => rfl, hK _ ?_⟩
        clear hK K
        refine wpQuiet_step (fun K hK => ?_)
        go_simp
        refine ⟨_, fun _ _ => rfl, hK _ ?_⟩
        clear hK K
        refine wpQuiet_step (fun K hK => ?_)
        go_simp
        refine ⟨_, fun _ _ => rfl, hK _ ?_⟩
        clear hK K
        refine wpQuiet_step (fun K hK => ?_)
        go_simp
        refine ⟨.pointer (some ⟨bb, off + k * 11, none⟩), fun wk hwk => ?_, hK _ ?_⟩
        · go_simp
        clear hK K
        refine wpQuiet_step (fun K hK => ?_)
        go_simp
        refine ⟨.pointer (some ⟨bb, off + k * 11 + 1, none⟩), fun wk hwk => ?_, hK _ ?_⟩
        · go_simp
        clear hK K
        refine wpQuiet_step (fun K hK => ?_)
        go_simp
        refine ⟨.int .i64 w_, fun wk hwk => ?_, hK _ ?_⟩
        · have hc := HST.out wk hwk.ri.below
          go_simp
        clear hK K
        refine wpQuiet_step (fun K hK => ?_)
        go_simp
        refine ⟨_, fun wk hwk => (duo_here hwk.ri.duo w_).mono (fun _ _ ⟨he, hb⟩ => by subst hb; exact ⟨he, hwk⟩), hK _ ?_⟩
        clear hK K
        refine wpQuiet_step (fun K hK => ?_)
        go_simp
        refine ⟨_, fun _ _ => rfl, hK _ ?_⟩
        clear hK K
        refine wpQuiet_step (fun K hK => ?_)
        go_simp
        refine ⟨_, fun _ _ => rfl, hK _ ?_⟩
        clear hK K
        refine wpQuiet_step (fun K hK => ?_)
        go_simp
        refine ⟨_, fun _ _ => rfl, hK _ ?_⟩
        clear hK K
        refine wpQuiet_step (fun K hK => ?_)
        go_simp
        refine ⟨.pointer (some ⟨bb, off + k * 11, none⟩), fun wk hwk => ?_, hK _ ?_⟩
        · go_simp
        clear hK K
        refine wpQuiet_step (fun K hK => ?_)
        go_simp
        refine ⟨.pointer (some ⟨bb, off + k * 11 + 1, none⟩), fun wk hwk => ?_, hK _ ?_⟩
        · go_simp
        clear hK K
        refine wpQuiet_step (fun K hK => ?_)
        go_simp
        refine ⟨.int .i64 w_, fun wk hwk => ?_, hK _ ?_⟩
        · have hc := HST.out wk hwk.ri.below
          go_simp
        clear hK K
        refine wpQuiet_step (fun K hK => ?_)
        go_simp
        refine ⟨_, fun wk hwk => (isHere_bk hwk.book.cells w_).mono (fun _ _ ⟨he, hb⟩ => by subst hb; exact ⟨he, hwk⟩), hK _ ?_⟩
        clear hK K
        refine wpQuiet_step (fun K hK => ?_)
        go_simp
        refine ⟨.bool false, fun wk hwk => ?_, hK _ ?_⟩
        · go_simp
        clear hK K
        refine wpQuiet_step (fun K hK => ?_)
        go_simp
        refine ⟨.bool false, fun wk hwk => ?_, hK _ ?_⟩
        · go_simp
        clear hK K
        refine wpQuiet_nil ?_
        intro w9 hw9
        have HR9 : Hid (RI w G B b1 w9) := hw9.ri
        clear hw9
        go_wp2
        go_roundw
        case rel => exact ⟨k + 1, by omega, by go_num, by rw [HBE.out]; exact HR9⟩
        case measure => simp [intOf]; omega
      · have HG : Hid (Good (runTo xs k)) := runTo_good xs k
        generalize runTo xs k = b1 at *
        obtain ⟨LB, dv, hB, _⟩ := HR.out.duo.book
        obtain ⟨a9, cap9, rfl⟩ := hB.ownD.len
        have HC : Hid (DC w G B b1 LB (.slice a9 b1.ds.length cap9) wr) := ⟨HR.out, hB⟩
        have hlen : b1.len = (b1.ds.length : Int) := rfl
        have hsm := HG.out.small
        clear hB HF HD
        go_wp2_with fail
        clear hlt hk
        by_cases hn1 : n < 1
        · have HND : Hid (nthD b1 n = zeroDd) := by show nthD b1 n = _; rw [nthD, if_neg (by omega)]
          have HID : Hid (isD b1 n = false) := by show isD b1 n = _; rw [isD, decide_eq_false (by omega)]
          clear hlen
          refine (duo_deed HR.out.duo HG.out n).mono ?_
          rintro e w5 ⟨rfl, hb5⟩
          rw [HND.out, HID.out]
          have HC5 : Hid (DC w G B b1 LB (.slice a9 b1.ds.length cap9) w5) := HC.out.after hb5
          have g0 := HC5.out.book.cells.deeds
          have hlt := HC5.out.book.cells.lt

          clear hb5 HC HR
          have HA1 : Hid (DdAt ((w5.alloc (dObj zeroDd)).alloc (dObj zeroDd)) w5.heap.size 0 zeroDd) := (ddat_start w5 zeroDd).below ((Below.refl _ _).alloc (Nat.le_refl _) _)
          have HA2 : Hid (DdAt ((w5.alloc (dObj zeroDd)).alloc (dObj zeroDd)) (w5.heap.size + 1) 0 zeroDd) := by have h := ddat_start (w5.alloc (dObj zeroDd)) zeroDd; rw [show (w5.alloc (dObj zeroDd)).heap.size = w5.heap.size + 1 by simp] at h; exact h
          have HC7 : Hid (DC w G B b1 LB (.slice a9 b1.ds.length cap9) ((w5.alloc (dObj zeroDd)).alloc (dObj zeroDd))) := (HC5.out.after ((Below.refl _ _).alloc (Nat.le_refl _) _)).after ((Below.refl _ _).alloc (Nat.le_refl _) _)
          unfold dObj at HA1 HA2 HC7
          go_wp2_with fail
          generalize World.alloc _ _ = w7 at *
          generalize w5.heap.size + 1 = E2 at *
          generalize w5.heap.size = E1 at *
          refine (bchars_any HC7.out.book HG.out).mono ?_
          rintro e w8 ⟨v8, rfl, ho8, hb8⟩
          have HC8 : Hid (DC w G B b1 LB (.slice a9 b1.ds.length cap9) w8) := HC7.out.after hb8
          have HO8 : Hid (Lst w8 v8 b1.chars) := ho8.lst
          have HB1 : Hid (DdAt w8 E1 0 zeroDd) := HA1.out.below hb8
          have HB2 : Hid (DdAt w8 E2 0 zeroDd) := HA2.out.below hb8

          clear ho8 hb8 HA1 HA2 HC7 HC5 g0 hlt
          obtain ⟨_, c0, c1, c2, c3, c4, c5, c6⟩ := HB1.out
          obtain ⟨_, d0, d1, d2, d3, d4, d5, d6⟩ := HB2.out
          simp only [Nat.zero_add] at c0 c1 c2 c3 c4 c5 c6 d0 d1 d2 d3 d4 d5 d6
          have g0 := HC8.out.book.cells.deeds
          have hlt := HC8.out.book.cells.lt
          have HCS : Hid (b1.chars.length ≤ 1000) := by have := small_chars (b := b1); show _ ≤ _; omega
          have HTM : Hid (Tame b1.chars) := good_tame HG.out
          have HTX : Hid (vw b1.chars 1073741823 (-1) = textL b1.chars) := good_text HG.out

          obtain ⟨a8, cap8, rfl, _⟩ := HO8.out.len
          go_wp2_with fail
          clear c0 c1 c2 c3 c4 c5 c6 d0 d1 d2 d3 d4 d5 d6 g0 hlt HB1 HB2
          refine (duo_chars HC8.out.ri.duo).mono ?_
          rintro e w9 ⟨v9, rfl, ho9, hb9⟩
          have HC9 : Hid (RI w G B b1 w9) := HC8.out.ri.after hb9
          have HO9 : Hid (Lst w9 v9 b1.chars) := ho9.lst
          have HO89 : Hid (Lst w9 (.slice a8 b1.chars.length cap8) b1.chars) := HO8.out.below hb9
          clear ho9 hb9 HC8 HO8
          go_wp2_with fail
          refine (same_eq HO9.out HO89.out HCS.out).mono ?_
          rintro e wa ⟨rfl, hba⟩
          have HCa : Hid (RI w G B b1 wa) := HC9.out.after hba
          have HOa : Hid (Lst wa (.slice a8 b1.chars.length cap8) b1.chars) := HO89.out.below hba
          clear hba HC9 HO9 HO89
          go_wp2_with fail
          refine (duo_text HCa.out.duo).mono ?_
          rintro e wb ⟨rfl, hbb⟩
          have HCb : Hid (RI w G B b1 wb) := HCa.out.after hbb
          have HOb : Hid (Lst wb (.slice a8 b1.chars.length cap8) b1.chars) := HOa.out.below hbb
          clear hbb HCa HOa
          go_wp2_with fail
          refine (textOf_any HOb.out HCS.out HTM.out).mono ?_
          rintro e wc ⟨rfl, hbc⟩
          rw [HTX.out]
          have HBc : Hid (Below w.heap.size w wc) := (HCb.out.after hbc).below
          clear hbc HCb HOb
          generalize strOfNums (textL b1.chars) = st
          have hst := ba_beq st st
          simp only [decide_true] at hst
          go_wp2
          go_ret
          exact ⟨rfl, HBc.out⟩
        · by_cases hn2 : n ≤ b1.len
          · obtain ⟨j, rfl⟩ : ∃ j : Nat, n = (j : Int) + 1 := ⟨(n - 1).toNat, by omega⟩
            have hj : j < b1.ds.length := by omega
            obtain ⟨h1, h2⟩ := nth_at hj
            have HND : Hid (nthD b1 ((j : Int) + 1) = b1.ds[j]) := h1
            have HID : Hid (isD b1 ((j : Int) + 1) = true) := h2
            obtain ⟨bb, off, hab, hrow⟩ : ∃ bb off, a9 = some ⟨bb, off, none⟩ ∧ ∀ wk, BookAt wk w.heap.size LB B (.slice a9 b1.ds.length cap9) b1 → Deeds wk bb off b1.ds := by
              have hL := HC.out.book.ownD.dlst
              obtain ⟨a', len', cap', he, e1, e2, e3⟩ := hL
              simp only [Value.slice.injEq] at he
              obtain ⟨rfl, rfl, rfl⟩ := he
              rcases e3 with e3 | ⟨bb, off, rfl, hr⟩
              · omega
              refine ⟨bb, off, rfl, fun wk hk => ?_⟩
              obtain ⟨a'', len'', cap'', he, e1', e2', e3'⟩ := hk.ownD.dlst
              simp only [Value.slice.injEq] at he
              obtain ⟨rfl, rfl, rfl⟩ := he
              rcases e3' with e3' | ⟨bb', off', he2, hr'⟩
              · omega
              · simp only [Option.some.injEq, Addr.mk.injEq, and_true] at he2
                obtain ⟨rfl, rfl⟩ := he2
                exact hr'
            subst hab
            have HROW : Hid (∀ wk, BookAt wk w.heap.size LB B (.slice (some ⟨bb, off, none⟩) b1.ds.length cap9) b1 → DdAt wk bb (off + j * 7) b1.ds[j]) := fun wk hk => (hrow wk hk).at_ j hj
            generalize b1.ds[j] = d at *
            obtain ⟨kind, by_, no, seen, at_, many, text⟩ := d
            rw [hlen] at hn2
            clear h1 h2 hrow hlen hn1
            refine (duo_deed HR.out.duo HG.out _).mono ?_
            rintro e w5 ⟨rfl, hb5⟩
            rw [HND.out, HID.out]
            have HC5 : Hid (DC w G B b1 LB (.slice (some ⟨bb, off, none⟩) b1.ds.length cap9) w5) := HC.out.after hb5
            have g0 := HC5.out.book.cells.deeds
            have hlt := HC5.out.book.cells.lt
            obtain ⟨hbb, q0, q1, q2, q3, q4, q5, q6⟩ := HROW.out _ HC5.out.book
            simp only at q0 q1 q2 q3 q4 q5 q6
            clear hb5 HC HR
            have HA1 : Hid (DdAt ((w5.alloc (dObj ⟨kind, by_, no, seen, at_, many, text⟩)).alloc (dObj ⟨kind, by_, no, seen, at_, many, text⟩)) w5.heap.size 0 ⟨kind, by_, no, seen, at_, many, text⟩) := (ddat_start w5 ⟨kind, by_, no, seen, at_, many, text⟩).below ((Below.refl _ _).alloc (Nat.le_refl _) _)
            have HA2 : Hid (DdAt ((w5.alloc (dObj ⟨kind, by_, no, seen, at_, many, text⟩)).alloc (dObj ⟨kind, by_, no, seen, at_, many, text⟩)) (w5.heap.size + 1) 0 ⟨kind, by_, no, seen, at_, many, text⟩) := by have h := ddat_start (w5.alloc (dObj ⟨kind, by_, no, seen, at_, many, text⟩)) ⟨kind, by_, no, seen, at_, many, text⟩; rw [show (w5.alloc (dObj ⟨kind, by_, no, seen, at_, many, text⟩)).heap.size = w5.heap.size + 1 by simp] at h; exact h
            have HC7 : Hid (DC w G B b1 LB (.slice (some ⟨bb, off, none⟩) b1.ds.length cap9) ((w5.alloc (dObj ⟨kind, by_, no, seen, at_, many, text⟩)).alloc (dObj ⟨kind, by_, no, seen, at_, many, text⟩))) := (HC5.out.after ((Below.refl _ _).alloc (Nat.le_refl _) _)).after ((Below.refl _ _).alloc (Nat.le_refl _) _)
            unfold dObj at HA1 HA2 HC7
            go_wp2_with fail
            generalize World.alloc _ _ = w7 at *
            generalize w5.heap.size + 1 = E2 at *
            generalize w5.heap.size = E1 at *
            refine (bchars_any HC7.out.book HG.out).mono ?_
            rintro e w8 ⟨v8, rfl, ho8, hb8⟩
            have HC8 : Hid (DC w G B b1 LB (.slice (some ⟨bb, off, none⟩) b1.ds.length cap9) w8) := HC7.out.after hb8
            have HO8 : Hid (Lst w8 v8 b1.chars) := ho8.lst
            have HB1 : Hid (DdAt w8 E1 0 ⟨kind, by_, no, seen, at_, many, text⟩) := HA1.out.below hb8
            have HB2 : Hid (DdAt w8 E2 0 ⟨kind, by_, no, seen, at_, many, text⟩) := HA2.out.below hb8
            clear hbb q0 q1 q2 q3 q4 q5 q6
            clear ho8 hb8 HA1 HA2 HC7 HC5 g0 hlt
            obtain ⟨_, c0, c1, c2, c3, c4, c5, c6⟩ := HB1.out
            obtain ⟨_, d0, d1, d2, d3, d4, d5, d6⟩ := HB2.out
            simp only [Nat.zero_add] at c0 c1 c2 c3 c4 c5 c6 d0 d1 d2 d3 d4 d5 d6
            have g0 := HC8.out.book.cells.deeds
            have hlt := HC8.out.book.cells.lt
            have HCS : Hid (b1.chars.length ≤ 1000) := by have := small_chars (b := b1); show _ ≤ _; omega
            have HTM : Hid (Tame b1.chars) := good_tame HG.out
            have HTX : Hid (vw b1.chars 1073741823 (-1) = textL b1.chars) := good_text HG.out
            have htt := ba_beq text text
            simp only [decide_true] at htt
            obtain ⟨a8, cap8, rfl, _⟩ := HO8.out.len
            go_wp2_with fail
            clear c0 c1 c2 c3 c4 c5 c6 d0 d1 d2 d3 d4 d5 d6 g0 hlt HB1 HB2
            refine (duo_chars HC8.out.ri.duo).mono ?_
            rintro e w9 ⟨v9, rfl, ho9, hb9⟩
            have HC9 : Hid (RI w G B b1 w9) := HC8.out.ri.after hb9
            have HO9 : Hid (Lst w9 v9 b1.chars) := ho9.lst
            have HO89 : Hid (Lst w9 (.slice a8 b1.chars.length cap8) b1.chars) := HO8.out.below hb9
            clear ho9 hb9 HC8 HO8
            go_wp2_with fail
            refine (same_eq HO9.out HO89.out HCS.out).mono ?_
            rintro e wa ⟨rfl, hba⟩
            have HCa : Hid (RI w G B b1 wa) := HC9.out.after hba
            have HOa : Hid (Lst wa (.slice a8 b1.chars.length cap8) b1.chars) := HO89.out.below hba
            clear hba HC9 HO9 HO89
            go_wp2_with fail
            refine (duo_text HCa.out.duo).mono ?_
            rintro e wb ⟨rfl, hbb⟩
            have HCb : Hid (RI w G B b1 wb) := HCa.out.after hbb
            have HOb : Hid (Lst wb (.slice a8 b1.chars.length cap8) b1.chars) := HOa.out.below hbb
            clear hbb HCa HOa
            go_wp2_with fail
            refine (textOf_any HOb.out HCS.out HTM.out).mono ?_
            rintro e wc ⟨rfl, hbc⟩
            rw [HTX.out]
            have HBc : Hid (Below w.heap.size w wc) := (HCb.out.after hbc).below
            clear hbc HCb HOb
            generalize strOfNums (textL b1.chars) = st
            have hst := ba_beq st st
            simp only [decide_true] at hst
            go_wp2
            go_ret
            exact ⟨rfl, HBc.out⟩
          · have HND : Hid (nthD b1 n = zeroDd) := by show nthD b1 n = _; rw [nthD, if_neg (by omega)]
            have HID : Hid (isD b1 n = false) := by show isD b1 n = _; rw [isD, decide_eq_false (by omega)]
            rw [hlen] at hn2
            clear hlen
            refine (duo_deed HR.out.duo HG.out n).mono ?_
            rintro e w5 ⟨rfl, hb5⟩
            rw [HND.out, HID.out]
            have HC5 : Hid (DC w G B b1 LB (.slice a9 b1.ds.length cap9) w5) := HC.out.after hb5
            have g0 := HC5.out.book.cells.deeds
            have hlt := HC5.out.book.cells.lt

            clear hb5 HC HR
            have HA1 : Hid (DdAt ((w5.alloc (dObj zeroDd)).alloc (dObj zeroDd)) w5.heap.size 0 zeroDd) := (ddat_start w5 zeroDd).below ((Below.refl _ _).alloc (Nat.le_refl _) _)
            have HA2 : Hid (DdAt ((w5.alloc (dObj zeroDd)).alloc (dObj zeroDd)) (w5.heap.size + 1) 0 zeroDd) := by have h := ddat_start (w5.alloc (dObj zeroDd)) zeroDd; rw [show (w5.alloc (dObj zeroDd)).heap.size = w5.heap.size + 1 by simp] at h; exact h
            have HC7 : Hid (DC w G B b1 LB (.slice a9 b1.ds.length cap9) ((w5.alloc (dObj zeroDd)).alloc (dObj zeroDd))) := (HC5.out.after ((Below.refl _ _).alloc (Nat.le_refl _) _)).after ((Below.refl _ _).alloc (Nat.le_refl _) _)
            unfold dObj at HA1 HA2 HC7
            go_wp2_with fail
            generalize World.alloc _ _ = w7 at *
            generalize w5.heap.size + 1 = E2 at *
            generalize w5.heap.size = E1 at *
            refine (bchars_any HC7.out.book HG.out).mono ?_
            rintro e w8 ⟨v8, rfl, ho8, hb8⟩
            have HC8 : Hid (DC w G B b1 LB (.slice a9 b1.ds.length cap9) w8) := HC7.out.after hb8
            have HO8 : Hid (Lst w8 v8 b1.chars) := ho8.lst
            have HB1 : Hid (DdAt w8 E1 0 zeroDd) := HA1.out.below hb8
            have HB2 : Hid (DdAt w8 E2 0 zeroDd) := HA2.out.below hb8

            clear ho8 hb8 HA1 HA2 HC7 HC5 g0 hlt
            obtain ⟨_, c0, c1, c2, c3, c4, c5, c6⟩ := HB1.out
            obtain ⟨_, d0, d1, d2, d3, d4, d5, d6⟩ := HB2.out
            simp only [Nat.zero_add] at c0 c1 c2 c3 c4 c5 c6 d0 d1 d2 d3 d4 d5 d6
            have g0 := HC8.out.book.cells.deeds
            have hlt := HC8.out.book.cells.lt
            have HCS : Hid (b1.chars.length ≤ 1000) := by have := small_chars (b := b1); show _ ≤ _; omega
            have HTM : Hid (Tame b1.chars) := good_tame HG.out
            have HTX : Hid (vw b1.chars 1073741823 (-1) = textL b1.chars) := good_text HG.out

            obtain ⟨a8, cap8, rfl, _⟩ := HO8.out.len
            go_wp2_with fail
            clear c0 c1 c2 c3 c4 c5 c6 d0 d1 d2 d3 d4 d5 d6 g0 hlt HB1 HB2
            refine (duo_chars HC8.out.ri.duo).mono ?_
            rintro e w9 ⟨v9, rfl, ho9, hb9⟩
            have HC9 : Hid (RI w G B b1 w9) := HC8.out.ri.after hb9
            have HO9 : Hid (Lst w9 v9 b1.chars) := ho9.lst
            have HO89 : Hid (Lst w9 (.slice a8 b1.chars.length cap8) b1.chars) := HO8.out.below hb9
            clear ho9 hb9 HC8 HO8
            go_wp2_with fail
            refine (same_eq HO9.out HO89.out HCS.out).mono ?_
            rintro e wa ⟨rfl, hba⟩
            have HCa : Hid (RI w G B b1 wa) := HC9.out.after hba
            have HOa : Hid (Lst wa (.slice a8 b1.chars.length cap8) b1.chars) := HO89.out.below hba
            clear hba HC9 HO9 HO89
            go_wp2_with fail
            refine (duo_text HCa.out.duo).mono ?_
            rintro e wb ⟨rfl, hbb⟩
            have HCb : Hid (RI w G B b1 wb) := HCa.out.after hbb
            have HOb : Hid (Lst wb (.slice a8 b1.chars.length cap8) b1.chars) := HOa.out.below hbb
            clear hbb HCa HOa
            go_wp2_with fail
            refine (textOf_any HOb.out HCS.out HTM.out).mono ?_
            rintro e wc ⟨rfl, hbc⟩
            rw [HTX.out]
            have HBc : Hid (Below w.heap.size w wc) := (HCb.out.after hbc).below
            clear hbc HCb HOb
            generalize strOfNums (textL b1.chars) = st
            have hst := ba_beq st st
            simp only [decide_true] at hst
            go_wp2
            go_ret
            exact ⟨ret_b (by rw [decide_eq_false (by omega)]; rfl), HBc.out⟩
  · go_wp2
    go_ret
    exact ⟨rfl, HB1.out⟩

/-- THE LAW. -/
theorem law_logdoes (w : World) {v : Value} {xs : List LStep} (h : SLst w v xs) (hf : ∀ x ∈ xs, FitX x) (n : Int) (_ : Fits n) :
    Calls Try.prog 4 #[v, .int .i64 n] w fun e w' => e = .returned (.bool true) ∧ Below w.heap.size w w' := logDoes_any v xs n w h hf

end Go.Proofs.Ytfjjjbohflobnab
