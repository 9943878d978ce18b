/-
  The walk of the law CharsMore.
-/
import Derived.Test.YtnnfddemhhpfoaaBegun
import Derived.Deep.RegionWith
namespace Go.Proofs.Ytnnfddemhhpfoaa
open Go.RowKit

/-- What holds of a world in the middle of a round: nothing old has turned, and the byte of this round lies in block N. -/
structure CInv (w : World) (N : Nat) (x : Ch) (wk : World) : Prop where
  below : Below w.heap.size w wk
  lt : N < wk.heap.size
  at_ : At wk N 0 x

theorem CInv.after {w wk w' : World} {N : Nat} {x : Ch} (h : CInv w N x wk) (hb : Below wk.heap.size wk w') : CInv w N x w' := by
  obtain ⟨hc, _⟩ := bcell hb
  refine ⟨below_after h.below hb, Nat.lt_of_lt_of_le h.lt hb.size, ?_⟩
  have hx := h.at_
  unfold At at hx ⊢
  simp only [hc _ _ h.lt]
  exact hx

theorem CInv.drew {w wk : World} {N : Nat} {x : Ch} (h : CInv w N x wk) : CInv w N x wk.drew := h.after (Below.refl _ _).drew

theorem drew_c {w wk : World} {N : Nat} {x : Ch} (h : Hid (CInv w N x wk)) : Hid (CInv w N x wk.drew) := h.out.drew

/-- The seven cells, as a load meets them. -/
structure Cells (N : Nat) (x : Ch) (wk : World) : Prop where
  c0 : wk.cell? ⟨N, 0, none⟩ = some (.int .u8 x.c)
  c1 : wk.cell? ⟨N, 1, none⟩ = some (.int .i64 x.by_)
  c2 : wk.cell? ⟨N, 2, none⟩ = some (.int .i64 x.no)
  c3 : wk.cell? ⟨N, 3, none⟩ = some (.int .i64 x.k)
  c4 : wk.cell? ⟨N, 4, none⟩ = some (.int .i64 x.inn)
  c5 : wk.cell? ⟨N, 5, none⟩ = some (.int .i64 x.out)
  c6 : wk.cell? ⟨N, 6, none⟩ = some (.int .i64 x.gone)

theorem CInv.cells {w wk : World} {N : Nat} {x : Ch} (h : CInv w N x wk) : Cells N x wk := by
  obtain ⟨a0, a1, a2, a3, a4, a5, a6⟩ := h.at_
  simp only [Nat.zero_add] at a1 a2 a3 a4 a5 a6
  exact ⟨a0, a1, a2, a3, a4, a5, a6⟩

theorem in_c {w wk : World} {N : Nat} {x : Ch} (h : Hid (CInv w N x wk)) (s y : Int) :
    Calls Try.prog 9 #[chV x, .int .i64 s, .int .i64 y] wk fun e w' => e = .returned (.bool (inB x.inn x.by_ s y)) ∧ Hid (CInv w N x w') ∧ Cells N x w' :=
  (in_any x s y wk).mono fun _ _ ⟨he, hb⟩ => ⟨he, h.out.after hb, (h.out.after hb).cells⟩

theorem out_c {w wk : World} {N : Nat} {x : Ch} (h : Hid (CInv w N x wk)) (s y : Int) :
    Calls Try.prog 10 #[chV x, .int .i64 s, .int .i64 y] wk fun e w' => e = .returned (.bool (outB x.out x.gone s y)) ∧ Hid (CInv w N x w') ∧ Cells N x w' :=
  (out_any x s y wk).mono fun _ _ ⟨he, hb⟩ => ⟨he, h.out.after hb, (h.out.after hb).cells⟩

theorem sees_c {w wk : World} {N : Nat} {x : Ch} (h : Hid (CInv w N x wk)) (s y : Int) :
    Calls Try.prog 8 #[chV x, .int .i64 s, .int .i64 y] wk fun e w' => e = .returned (.bool (seesB x.by_ x.inn x.out x.gone s y)) ∧ Hid (CInv w N x w') ∧ Cells N x w' :=
  (sees_any x s y wk).mono fun _ _ ⟨he, hb⟩ => ⟨he, h.out.after hb, (h.out.after hb).cells⟩

theorem in_q {w wk : World} {N : Nat} {x : Ch} (h : CInv w N x wk) (s y : Int) :
    Calls Try.prog 9 #[chV x, .int .i64 s, .int .i64 y] wk fun e w' => e = .returned (.bool (inB x.inn x.by_ s y)) ∧ CInv w N x w' :=
  (in_any x s y wk).mono fun _ _ ⟨he, hb⟩ => ⟨he, h.after hb⟩

theorem out_q {w wk : World} {N : Nat} {x : Ch} (h : CInv w N x wk) (s y : Int) :
    Calls Try.prog 10 #[chV x, .int .i64 s, .int .i64 y] wk fun e w' => e = .returned (.bool (outB x.out x.gone s y)) ∧ CInv w N x w' :=
  (out_any x s y wk).mono fun _ _ ⟨he, hb⟩ => ⟨he, h.after hb⟩

theorem sees_q {w wk : World} {N : Nat} {x : Ch} (h : CInv w N x wk) (s y : Int) :
    Calls Try.prog 8 #[chV x, .int .i64 s, .int .i64 y] wk fun e w' => e = .returned (.bool (seesB x.by_ x.inn x.out x.gone s y)) ∧ CInv w N x w' :=
  (sees_any x s y wk).mono fun _ _ ⟨he, hb⟩ => ⟨he, h.after hb⟩

theorem in_more {i b s m y : Int} (hm : s ≤ m) (h : inB i b s y = true) : inB i b m y = true := by
  simp only [inB, decide_eq_true_eq] at h ⊢
  omega

theorem out_more {o g s m y : Int} (hm : s ≤ m) (h : outB o g s y = true) : outB o g m y = true := by
  simp only [outB, Bool.or_eq_true, decide_eq_true_eq] at h ⊢
  rcases h with h | h
  · exact .inl ⟨h.1, by omega⟩
  · exact .inr h

theorem took_out {o g s y : Int} (h : tookB g y = true) : outB o g s y = true := by
  simp [outB, h]

theorem start_c {w wr : World} {x : Ch} (hbel : Below w.heap.size w wr) : CInv w wr.heap.size x (wr.alloc (.cells #[.int .u8 x.c, .int .i64 x.by_, .int .i64 x.no, .int .i64 x.k, .int .i64 x.inn, .int .i64 x.out, .int .i64 x.gone] 28)) := by
  refine ⟨hbel.alloc hbel.size _, by simp, ?_⟩
  unfold At
  simp [go_sem]

set_option maxHeartbeats 4000000 in
theorem law_more_some (b off len cap : Nat) (l : List Ch) (seen more by_ : Int) (w : World) (hl : l.length = len) (hm : len ≤ 300) (hsm : seen ≤ more) (hr : Row w b off l) (hg : ∀ x ∈ l, -9223372036854775808 ≤ x.gone ∧ x.gone ≤ 9223372036854775807) :
    Calls Try.prog 4 #[.slice (some ⟨b, off, none⟩) len cap, .int .i64 seen, .int .i64 more, .int .i64 by_] w fun e w' => e = .returned (.bool true) ∧ Below w.heap.size w w' := by
  have HL : Hid (l.length = len) := hl
  have HR : Hid (Row w b off l) := hr
  have HG : Hid (∀ x ∈ l, -9223372036854775808 ≤ x.gone ∧ x.gone ≤ 9223372036854775807) := hg
  have h300 : decide (300 < (len : Int)) = false := by simp; omega
  have hlt' : decide (more < seen) = false := by simp; omega
  clear hl hr hg
  go_enter Try.func4, Try.ntmps4
  go_wp2_with fail
  refine (begun_any _).mono ?_
  rintro e w1 ⟨rfl, hb1⟩
  have HB1 : Hid (Below w.heap.size w w1) := hb1
  clear hb1
  go_wp2
  go_loopw [9] (fun i wr => ∃ k : Nat, k ≤ len ∧ i = .int .i64 k ∧ Hid (Below w.heap.size w wr)) (fun i _ => len - (intOf i).toNat)
  case atStart => exact ⟨0, Nat.zero_le _, rfl, HB1⟩
  case round =>
    obtain ⟨k, hk, rfl, hbel⟩ := hrel
    by_cases hlt : k < len
    · have hkl : k < l.length := by rw [HL.out]; exact hlt
      obtain ⟨h0, h1, h2, h3, h4, h5, h6⟩ := (HR.out.below hbel.out).at_ k hkl
      obtain ⟨hg1, hg2⟩ := HG.out l[k] (List.getElem_mem hkl)
      generalize l[k] = x at h0 h1 h2 h3 h4 h5 h6 hg1 hg2
      have HC : Hid _ := start_c (x := x) hbel.out
      cases hi : inB x.inn x.by_ seen by_
      · have hs : seesB x.by_ x.inn x.out x.gone seen by_ = false := by simp [seesB, hi]
        cases ho : outB x.out x.gone seen by_
        · have ht : tookB x.gone by_ = false := by
            cases ht : tookB x.gone by_
            · rfl
            · rw [took_out ht] at ho; cases ho
          go_wp2_with (first | (go_at_call 9; refine (in_c (by assumption) _ _).mono ?_; rintro e w' ⟨rfl, hc, ⟨c0, c1, c2, c3, c4, c5, c6⟩⟩) | (go_at_call 10; refine (out_c (by assumption) _ _).mono ?_; rintro e w' ⟨rfl, hc, ⟨c0, c1, c2, c3, c4, c5, c6⟩⟩) | (go_at_call 11; refine (refTook_any _ _ _ hg1 hg2).mono ?_; rintro e w' ⟨rfl, rfl⟩) | (go_at_call 8; refine (sees_c (by assumption) _ _).mono ?_; rintro e w' ⟨rfl, hc, ⟨c0, c1, c2, c3, c4, c5, c6⟩⟩))
          clear h0 h1 h2 h3 h4 h5 h6 hg1 hg2 HC
          refine wp_region_quiet (C := fun wk => CInv w wr.heap.size x wk) (by kernel_rfl) (by kernel_rfl) (hc.out.drew) ?_
          refine wpQuiet_step (fun K hK => ?_)
          go_simp
          refine ⟨chV x, fun wk hwk => ?_, hK _ ?_⟩
          · obtain ⟨c0, c1, c2, c3, c4, c5, c6⟩ := hwk.cells
            go_simp
          clear hK K
          refine wpQuiet_step (fun K hK => ?_)
          go_simp
          refine ⟨_, fun _ _ => rfl, hK _ ?_⟩
          clear hK K
          refine wpQuiet_step (fun K hK => ?_)
          go_simp
          refine ⟨_, fun _ _ => rfl, hK _ ?_⟩
          clear hK K
          refine wpQuiet_step (fun K hK => ?_)
          go_simp
          refine ⟨_, fun wk hwk => sees_q hwk _ _, hK _ ?_⟩
          clear hK K
          refine wpQuiet_step (fun K hK => ?_)
          go_simp
          refine ⟨chV x, fun wk hwk => ?_, hK _ ?_⟩
          · obtain ⟨c0, c1, c2, c3, c4, c5, c6⟩ := hwk.cells
            go_simp
          clear hK K
          refine wpQuiet_step (fun K hK => ?_)
          go_simp
          refine ⟨_, fun _ _ => rfl, hK _ ?_⟩
          clear hK K
          refine wpQuiet_step (fun K hK => ?_)
          go_simp
          refine ⟨_, fun _ _ => rfl, hK _ ?_⟩
          clear hK K
          refine wpQuiet_step (fun K hK => ?_)
          go_simp
          refine ⟨_, fun wk hwk => in_q hwk _ _, hK _ ?_⟩
          clear hK K
          refine wpQuiet_step (fun K hK => ?_)
          go_simp
          refine ⟨_, fun _ _ => rfl, hK _ ?_⟩
          clear hK K
          refine wpQuiet_step (fun K hK => ?_)
          go_simp
          refine hK _ ?_
          clear hK K
          refine wpQuiet_step (fun K hK => ?_)
          go_simp
          refine hK _ ?_
          clear hK K
          refine wpQuiet_step (fun K hK => ?_)
          go_simp
          refine hK _ ?_
          clear hK K
          refine wpQuiet_step (fun K hK => ?_)
          go_simp
          refine hK _ ?_
          clear hK K
          refine wpQuiet_step (fun K hK => ?_)
          go_simp
          refine hK _ ?_
          clear hK K
          refine wpQuiet_step (fun K hK => ?_)
          go_simp
          refine ⟨_, fun _ _ => rfl, hK _ ?_⟩
          clear hK K
          refine wpQuiet_step (fun K hK => ?_)
          go_simp
          refine ⟨_, fun _ _ => rfl, hK _ ?_⟩
          clear hK K
          refine wpQuiet_nil ?_
          intro w2 hw2
          have HB2 : Hid (Below w.heap.size w w2) := hw2.below
          clear hw2
          go_wp2
          go_roundw
          case rel => exact ⟨k + 1, by omega, by go_num, HB2⟩
          case measure => simp [intOf]; omega
        · have ho2 := out_more hsm ho
          cases ht : tookB x.gone by_
          all_goals
            go_wp2_with (first | (go_at_call 9; refine (in_c (by assumption) _ _).mono ?_; rintro e w' ⟨rfl, hc, ⟨c0, c1, c2, c3, c4, c5, c6⟩⟩) | (go_at_call 10; refine (out_c (by assumption) _ _).mono ?_; rintro e w' ⟨rfl, hc, ⟨c0, c1, c2, c3, c4, c5, c6⟩⟩) | (go_at_call 11; refine (refTook_any _ _ _ hg1 hg2).mono ?_; rintro e w' ⟨rfl, rfl⟩) | (go_at_call 8; refine (sees_c (by assumption) _ _).mono ?_; rintro e w' ⟨rfl, hc, ⟨c0, c1, c2, c3, c4, c5, c6⟩⟩))
            clear h0 h1 h2 h3 h4 h5 h6 hg1 hg2 HC
            refine wp_region_quiet (C := fun wk => CInv w wr.heap.size x wk) (by kernel_rfl) (by kernel_rfl) (hc.out.drew) ?_
            refine wpQuiet_step (fun K hK => ?_)
            go_simp
            refine ⟨chV x, fun wk hwk => ?_, hK _ ?_⟩
            · obtain ⟨c0, c1, c2, c3, c4, c5, c6⟩ := hwk.cells
              go_simp
            clear hK K
            refine wpQuiet_step (fun K hK => ?_)
            go_simp
            refine ⟨_, fun _ _ => rfl, hK _ ?_⟩
            clear hK K
            refine wpQuiet_step (fun K hK => ?_)
            go_simp
            refine ⟨_, fun _ _ => rfl, hK _ ?_⟩
            clear hK K
            refine wpQuiet_step (fun K hK => ?_)
            go_simp
            refine ⟨_, fun wk hwk => sees_q hwk _ _, hK _ ?_⟩
            clear hK K
            refine wpQuiet_step (fun K hK => ?_)
            go_simp
            refine ⟨chV x, fun wk hwk => ?_, hK _ ?_⟩
            · obtain ⟨c0, c1, c2, c3, c4, c5, c6⟩ := hwk.cells
              go_simp
            clear hK K
            refine wpQuiet_step (fun K hK => ?_)
            go_simp
            refine ⟨_, fun _ _ => rfl, hK _ ?_⟩
            clear hK K
            refine wpQuiet_step (fun K hK => ?_)
            go_simp
            refine ⟨_, fun _ _ => rfl, hK _ ?_⟩
            clear hK K
            refine wpQuiet_step (fun K hK => ?_)
            go_simp
            refine ⟨_, fun wk hwk => in_q hwk _ _, hK _ ?_⟩
            clear hK K
            refine wpQuiet_step (fun K hK => ?_)
            go_simp
            refine ⟨_, fun _ _ => rfl, hK _ ?_⟩
            clear hK K
            refine wpQuiet_step (fun K hK => ?_)
            go_simp
            refine hK _ ?_
            clear hK K
            refine wpQuiet_step (fun K hK => ?_)
            go_simp
            refine hK _ ?_
            clear hK K
            refine wpQuiet_step (fun K hK => ?_)
            go_simp
            refine hK _ ?_
            clear hK K
            refine wpQuiet_step (fun K hK => ?_)
            go_simp
            refine hK _ ?_
            clear hK K
            refine wpQuiet_step (fun K hK => ?_)
            go_simp
            refine hK _ ?_
            clear hK K
            refine wpQuiet_step (fun K hK => ?_)
            go_simp
            refine ⟨_, fun _ _ => rfl, hK _ ?_⟩
            clear hK K
            refine wpQuiet_step (fun K hK => ?_)
            go_simp
            refine ⟨_, fun _ _ => rfl, hK _ ?_⟩
            clear hK K
            refine wpQuiet_nil ?_
            intro w2 hw2
            have HB2 : Hid (Below w.heap.size w w2) := hw2.below
            clear hw2
            go_wp2
            go_roundw
            case rel => exact ⟨k + 1, by omega, by go_num, HB2⟩
            case measure => simp [intOf]; omega
      · have hi2 := in_more hsm hi
        cases ho : outB x.out x.gone seen by_
        · have hs : seesB x.by_ x.inn x.out x.gone seen by_ = true := by simp [seesB, hi, ho]
          have ht : tookB x.gone by_ = false := by
            cases ht : tookB x.gone by_
            · rfl
            · rw [took_out ht] at ho; cases ho
          go_wp2_with (first | (go_at_call 9; refine (in_c (by assumption) _ _).mono ?_; rintro e w' ⟨rfl, hc, ⟨c0, c1, c2, c3, c4, c5, c6⟩⟩) | (go_at_call 10; refine (out_c (by assumption) _ _).mono ?_; rintro e w' ⟨rfl, hc, ⟨c0, c1, c2, c3, c4, c5, c6⟩⟩) | (go_at_call 11; refine (refTook_any _ _ _ hg1 hg2).mono ?_; rintro e w' ⟨rfl, rfl⟩) | (go_at_call 8; refine (sees_c (by assumption) _ _).mono ?_; rintro e w' ⟨rfl, hc, ⟨c0, c1, c2, c3, c4, c5, c6⟩⟩))
          clear h0 h1 h2 h3 h4 h5 h6 hg1 hg2 HC
          refine wp_region_quiet (C := fun wk => CInv w wr.heap.size x wk) (by kernel_rfl) (by kernel_rfl) (hc.out.drew) ?_
          refine wpQuiet_step (fun K hK => ?_)
          go_simp
          refine ⟨chV x, fun wk hwk => ?_, hK _ ?_⟩
          · obtain ⟨c0, c1, c2, c3, c4, c5, c6⟩ := hwk.cells
            go_simp
          clear hK K
          refine wpQuiet_step (fun K hK => ?_)
          go_simp
          refine ⟨_, fun _ _ => rfl, hK _ ?_⟩
          clear hK K
          refine wpQuiet_step (fun K hK => ?_)
          go_simp
          refine ⟨_, fun _ _ => rfl, hK _ ?_⟩
          clear hK K
          refine wpQuiet_step (fun K hK => ?_)
          go_simp
          refine ⟨_, fun wk hwk => sees_q hwk _ _, hK _ ?_⟩
          clear hK K
          refine wpQuiet_step (fun K hK => ?_)
          go_simp
          refine ⟨chV x, fun wk hwk => ?_, hK _ ?_⟩
          · obtain ⟨c0, c1, c2, c3, c4, c5, c6⟩ := hwk.cells
            go_simp
          clear hK K
          refine wpQuiet_step (fun K hK => ?_)
          go_simp
          refine ⟨_, fun _ _ => rfl, hK _ ?_⟩
          clear hK K
          refine wpQuiet_step (fun K hK => ?_)
          go_simp
          refine ⟨_, fun _ _ => rfl, hK _ ?_⟩
          clear hK K
          refine wpQuiet_step (fun K hK => ?_)
          go_simp
          refine ⟨_, fun wk hwk => in_q hwk _ _, hK _ ?_⟩
          clear hK K
          refine wpQuiet_step (fun K hK => ?_)
          go_simp
          refine ⟨_, fun _ _ => rfl, hK _ ?_⟩
          clear hK K
          refine wpQuiet_step (fun K hK => ?_)
          go_simp
          refine ⟨chV x, fun wk hwk => ?_, hK _ ?_⟩
          · obtain ⟨c0, c1, c2, c3, c4, c5, c6⟩ := hwk.cells
            go_simp
          clear hK K
          refine wpQuiet_step (fun K hK => ?_)
          go_simp
          refine ⟨_, fun _ _ => rfl, hK _ ?_⟩
          clear hK K
          refine wpQuiet_step (fun K hK => ?_)
          go_simp
          refine ⟨_, fun _ _ => rfl, hK _ ?_⟩
          clear hK K
          refine wpQuiet_step (fun K hK => ?_)
          go_simp
          refine ⟨_, fun wk hwk => out_q hwk _ _, hK _ ?_⟩
          clear hK K
          refine wpQuiet_step (fun K hK => ?_)
          go_simp
          refine ⟨_, fun _ _ => rfl, hK _ ?_⟩
          clear hK K
          refine wpQuiet_step (fun K hK => ?_)
          go_simp
          refine ⟨_, fun _ _ => rfl, hK _ ?_⟩
          clear hK K
          refine wpQuiet_step (fun K hK => ?_)
          go_simp
          refine ⟨_, fun _ _ => rfl, hK _ ?_⟩
          clear hK K
          refine wpQuiet_nil ?_
          intro w2 hw2
          have HB2 : Hid (Below w.heap.size w w2) := hw2.below
          clear hw2
          go_wp2
          go_roundw
          case rel => exact ⟨k + 1, by omega, by go_num, HB2⟩
          case measure => simp [intOf]; omega
        · have hs : seesB x.by_ x.inn x.out x.gone seen by_ = false := by simp [seesB, hi, ho]
          have ho2 := out_more hsm ho
          cases ht : tookB x.gone by_
          all_goals
            go_wp2_with (first | (go_at_call 9; refine (in_c (by assumption) _ _).mono ?_; rintro e w' ⟨rfl, hc, ⟨c0, c1, c2, c3, c4, c5, c6⟩⟩) | (go_at_call 10; refine (out_c (by assumption) _ _).mono ?_; rintro e w' ⟨rfl, hc, ⟨c0, c1, c2, c3, c4, c5, c6⟩⟩) | (go_at_call 11; refine (refTook_any _ _ _ hg1 hg2).mono ?_; rintro e w' ⟨rfl, rfl⟩) | (go_at_call 8; refine (sees_c (by assumption) _ _).mono ?_; rintro e w' ⟨rfl, hc, ⟨c0, c1, c2, c3, c4, c5, c6⟩⟩))
            clear h0 h1 h2 h3 h4 h5 h6 hg1 hg2 HC
            refine wp_region_quiet (C := fun wk => CInv w wr.heap.size x wk) (by kernel_rfl) (by kernel_rfl) (hc.out.drew) ?_
            refine wpQuiet_step (fun K hK => ?_)
            go_simp
            refine ⟨chV x, fun wk hwk => ?_, hK _ ?_⟩
            · obtain ⟨c0, c1, c2, c3, c4, c5, c6⟩ := hwk.cells
              go_simp
            clear hK K
            refine wpQuiet_step (fun K hK => ?_)
            go_simp
            refine ⟨_, fun _ _ => rfl, hK _ ?_⟩
            clear hK K
            refine wpQuiet_step (fun K hK => ?_)
            go_simp
            refine ⟨_, fun _ _ => rfl, hK _ ?_⟩
            clear hK K
            refine wpQuiet_step (fun K hK => ?_)
            go_simp
            refine ⟨_, fun wk hwk => sees_q hwk _ _, hK _ ?_⟩
            clear hK K
            refine wpQuiet_step (fun K hK => ?_)
            go_simp
            refine ⟨chV x, fun wk hwk => ?_, hK _ ?_⟩
            · obtain ⟨c0, c1, c2, c3, c4, c5, c6⟩ := hwk.cells
              go_simp
            clear hK K
            refine wpQuiet_step (fun K hK => ?_)
            go_simp
            refine ⟨_, fun _ _ => rfl, hK _ ?_⟩
            clear hK K
            refine wpQuiet_step (fun K hK => ?_)
            go_simp
            refine ⟨_, fun _ _ => rfl, hK _ ?_⟩
            clear hK K
            refine wpQuiet_step (fun K hK => ?_)
            go_simp
            refine ⟨_, fun wk hwk => in_q hwk _ _, hK _ ?_⟩
            clear hK K
            refine wpQuiet_step (fun K hK => ?_)
            go_simp
            refine ⟨_, fun _ _ => rfl, hK _ ?_⟩
            clear hK K
            refine wpQuiet_step (fun K hK => ?_)
            go_simp
            refine ⟨chV x, fun wk hwk => ?_, hK _ ?_⟩
            · obtain ⟨c0, c1, c2, c3, c4, c5, c6⟩ := hwk.cells
              go_simp
            clear hK K
            refine wpQuiet_step (fun K hK => ?_)
            go_simp
            refine ⟨_, fun _ _ => rfl, hK _ ?_⟩
            clear hK K
            refine wpQuiet_step (fun K hK => ?_)
            go_simp
            refine ⟨_, fun _ _ => rfl, hK _ ?_⟩
            clear hK K
            refine wpQuiet_step (fun K hK => ?_)
            go_simp
            refine ⟨_, fun wk hwk => out_q hwk _ _, hK _ ?_⟩
            clear hK K
            refine wpQuiet_step (fun K hK => ?_)
            go_simp
            refine ⟨_, fun _ _ => rfl, hK _ ?_⟩
            clear hK K
            refine wpQuiet_step (fun K hK => ?_)
            go_simp
            refine ⟨_, fun _ _ => rfl, hK _ ?_⟩
            clear hK K
            refine wpQuiet_step (fun K hK => ?_)
            go_simp
            refine ⟨_, fun _ _ => rfl, hK _ ?_⟩
            clear hK K
            refine wpQuiet_nil ?_
            intro w2 hw2
            have HB2 : Hid (Below w.heap.size w w2) := hw2.below
            clear hw2
            go_wp2
            go_roundw
            case rel => exact ⟨k + 1, by omega, by go_num, HB2⟩
            case measure => simp [intOf]; omega
    · obtain rfl : k = len := by omega
      go_wp2
      go_ret
      exact ⟨rfl, hbel.out⟩

set_option maxHeartbeats 400000 in
theorem law_more_yes (a : Option Addr) (len cap : Nat) (seen more by_ : Int) (w : World) (h : 300 < len ∨ more < seen) :
    Calls Try.prog 4 #[.slice a len cap, .int .i64 seen, .int .i64 more, .int .i64 by_] w fun e w' => e = .returned (.bool true) ∧ Below w.heap.size w w' := by
  by_cases h1 : 300 < len
  · go_enter Try.func4, Try.ntmps4
    go_wp2_with fail
    refine (begun_any _).mono ?_
    rintro e w1 ⟨rfl, hb1⟩
    have HB1 : Hid (Below w.heap.size w w1) := hb1
    clear hb1
    go_wp2
    go_ret
    exact ⟨rfl, HB1.out⟩
  · have h2 : more < seen := by omega
    clear h
    go_enter Try.func4, Try.ntmps4
    go_wp2_with fail
    refine (begun_any _).mono ?_
    rintro e w1 ⟨rfl, hb1⟩
    have HB1 : Hid (Below w.heap.size w w1) := hb1
    clear hb1
    go_wp2
    go_ret
    exact ⟨rfl, HB1.out⟩

set_option maxHeartbeats 400000 in
theorem law_more_empty (a : Option Addr) (cap : Nat) (seen more by_ : Int) (w : World) (h : seen ≤ more) :
    Calls Try.prog 4 #[.slice a 0 cap, .int .i64 seen, .int .i64 more, .int .i64 by_] w fun e w' => e = .returned (.bool true) ∧ Below w.heap.size w w' := by
  go_enter Try.func4, Try.ntmps4
  go_wp2_with fail
  refine (begun_any _).mono ?_
  rintro e w1 ⟨rfl, hb1⟩
  have HB1 : Hid (Below w.heap.size w w1) := hb1
  clear hb1
  go_wp2
  refine wp_loop_rounds 1 ?_
  rw [rounds_succ]
  go_wp2
  go_ret
  exact ⟨rfl, HB1.out⟩

end Go.Proofs.Ytnnfddemhhpfoaa
