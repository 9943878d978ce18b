/-
  The contracts of fold.May and fold.taken.
-/
import Derived.Test.YtebhbhcjfnohmabFMem
import Derived.Test.YtebhbhcjfnohmabDLeaf
namespace Go.Proofs.Ytebhbhcjfnohmab
open Go.RowKit

/-- A deed in a block, and a list, in the middle of a call. -/
structure MInv (w : World) (B : Nat) (d : Dd) (v : Value) (l : List Ch) (wk : World) : Prop where
  below : Below w.heap.size w wk
  at_ : DdAt wk B 0 d
  lst : Lst wk v l

theorem MInv.after {w wk w' : World} {B : Nat} {d : Dd} {v : Value} {l : List Ch} (h : MInv w B d v l wk) (hb : Below wk.heap.size wk w') : MInv w B d v l w' :=
  ⟨below_after h.below hb, h.at_.below hb, h.lst.below hb⟩

theorem MInv.drew {w wk : World} {B : Nat} {d : Dd} {v : Value} {l : List Ch} (h : MInv w B d v l wk) : MInv w B d v l wk.drew := h.after (Below.refl _ _).drew

theorem minv_start {w : World} {d : Dd} {v : Value} {l : List Ch} (h : Lst w v l) : MInv w w.heap.size d v l (w.alloc (dObj d)) :=
  have hb : Below w.heap.size w (w.alloc (dObj d)) := (Below.refl _ _).alloc (Nat.le_refl _) _
  ⟨hb, ddat_start w d, h.below hb⟩

theorem count_q {w wk : World} {B : Nat} {d : Dd} {v : Value} {l : List Ch} (h : MInv w B d v l wk) (hl : l.length ≤ 1000) (seen by_ : Int) :
    Calls Try.prog 46 #[v, .int .i64 seen, .int .i64 by_] wk fun e w' => e = .returned (.int .i64 (cnt l seen by_)) ∧ MInv w B d v l w' :=
  (count_lst h.lst hl seen by_).mono fun _ _ ⟨he, hb⟩ => ⟨he, h.after hb⟩

theorem mayC_of (l : List Ch) (d : Dd) (h : checkC d = 0) : mayC l d = if cnt l d.seen d.by_ < d.at_ + d.many then 1 else if 200 < l.length + d.text.size then 9 else 0 := by
  rw [mayC, if_neg (fun e => e h)]

set_option maxRecDepth 20000 in
set_option maxHeartbeats 800000 in
theorem may_any (l : List Ch) (d : Dd) (v : Value) (w : World) (h : Lst w v l) (hl : l.length ≤ 1000) :
    Calls Try.prog 75 #[v, ddV d] w fun e w' => e = .returned (.int .i64 (mayC l d)) ∧ Below w.heap.size w w' := by
  have HI : Hid _ := minv_start (d := d) h
  obtain ⟨ad, cap, rfl, hcap⟩ := h.len
  by_cases hc : checkC d = 0
  · have HM : Hid _ := mayC_of l d hc
    have hp := check_parts hc
    obtain ⟨kind, by_, no, seen, at_, many, text⟩ := d
    have HC : Hid (checkC ⟨kind, by_, no, seen, at_, many, text⟩ = 0) := hc
    have hcn := cnt_bd l seen by_
    obtain ⟨_, _, _, _, _, _, p1, p2, p3, p4, p5, p6⟩ := hp
    have ht : text.size ≤ 20 := by
      by_cases hk : kind = 1
      · exact (p5 hk).2.1
      · have := p6 hk; simp only at this; omega
    simp only at p1 p2 p3 p4 HM
    clear h hc p5 p6
    go_enter Try.func75, Try.ntmps75
    go_wp2_with fail
    refine (check_any ⟨kind, by_, no, seen, at_, many, text⟩ _).mono ?_
    rintro e w1 ⟨rfl, hb⟩
    rw [HC.out]
    have HI1 : Hid _ := HI.out.after hb
    clear hb HI
    go_wp2
    refine wp_region_quiet (C := fun wk => MInv w w.heap.size ⟨kind, by_, no, seen, at_, many, text⟩ (.slice ad l.length cap) l wk) (by kernel_rfl) (by kernel_rfl) (HI1.out.drew) ?_
    refine wpQuiet_step (fun K hK => ?_)
    go_simp
    refine ⟨_, fun _ _ => rfl, hK _ ?_⟩
    clear hK K
    refine wpQuiet_step (fun K hK => ?_)
    go_simp
    refine ⟨_, fun _ _ => rfl, hK _ ?_⟩
    clear hK K
    refine wpQuiet_step (fun K hK => ?_)
    go_simp
    refine ⟨.int .i64 seen, fun wk hwk => ?_, hK _ ?_⟩
    · obtain ⟨_, c0, c1, c2, c3, c4, c5, c6⟩ := hwk.at_
      simp only [Nat.zero_add] at c0 c1 c2 c3 c4 c5 c6
      go_simp
    clear hK K
    refine wpQuiet_step (fun K hK => ?_)
    go_simp
    refine ⟨_, fun _ _ => rfl, hK _ ?_⟩
    clear hK K
    refine wpQuiet_step (fun K hK => ?_)
    go_simp
    refine ⟨.int .i64 by_, fun wk hwk => ?_, hK _ ?_⟩
    · obtain ⟨_, c0, c1, c2, c3, c4, c5, c6⟩ := hwk.at_
      simp only [Nat.zero_add] at c0 c1 c2 c3 c4 c5 c6
      go_simp
    clear hK K
    refine wpQuiet_step (fun K hK => ?_)
    go_simp
    refine ⟨_, fun wk hwk => count_q hwk hl _ _, hK _ ?_⟩
    clear hK K
    refine wpQuiet_step (fun K hK => ?_)
    go_simp
    refine ⟨_, fun _ _ => rfl, hK _ ?_⟩
    clear hK K
    refine wpQuiet_step (fun K hK => ?_)
    go_simp
    refine ⟨.int .i64 at_, fun wk hwk => ?_, hK _ ?_⟩
    · obtain ⟨_, c0, c1, c2, c3, c4, c5, c6⟩ := hwk.at_
      simp only [Nat.zero_add] at c0 c1 c2 c3 c4 c5 c6
      go_simp
    clear hK K
    refine wpQuiet_step (fun K hK => ?_)
    go_simp
    refine ⟨_, fun _ _ => rfl, hK _ ?_⟩
    clear hK K
    refine wpQuiet_step (fun K hK => ?_)
    go_simp
    refine ⟨.int .i64 many, fun wk hwk => ?_, hK _ ?_⟩
    · obtain ⟨_, c0, c1, c2, c3, c4, c5, c6⟩ := hwk.at_
      simp only [Nat.zero_add] at c0 c1 c2 c3 c4 c5 c6
      go_simp
    clear hK K
    refine wpQuiet_step (fun K hK => ?_)
    go_simp
    refine ⟨.int .i64 (at_ + many), fun wk hwk => ?_, hK _ ?_⟩
    · have e : IntKind.i64.wrap (at_ + many) = at_ + many := by rw [IntKind.wrap_i64]; omega
      rw [e]
    clear hK K
    refine wpQuiet_step (fun K hK => ?_)
    go_simp
    refine ⟨_, fun _ _ => rfl, hK _ ?_⟩
    clear hK K
    refine wpQuiet_step (fun K hK => ?_)
    go_simp
    refine ⟨_, fun _ _ => rfl, hK _ ?_⟩
    clear hK K
    refine wpQuiet_nil ?_
    intro w2 hw2
    have HI2 : Hid _ := hw2
    obtain ⟨_, c0, c1, c2, c3, c4, c5, c6⟩ := hw2.at_
    simp only [Nat.zero_add] at c0 c1 c2 c3 c4 c5 c6
    clear hw2
    by_cases h1 : cnt l seen by_ < at_ + many
    · go_wp2
      go_ret
      exact ⟨ret_int (by rw [HM.out, if_pos (by omega)]), HI2.out.below⟩
    · by_cases h2 : 200 < l.length + text.size
      · go_wp2
        go_ret
        exact ⟨ret_int (by rw [HM.out, if_neg (by omega), if_pos (by omega)]), HI2.out.below⟩
      · go_wp2
        go_ret
        exact ⟨ret_int (by rw [HM.out, if_neg (by omega), if_neg (by omega)]), HI2.out.below⟩
  · have HM : Hid (mayC l d = checkC d) := by show mayC l d = checkC d; rw [mayC, if_pos hc]
    have hne : (checkC d != 0) = true := by simp [hc]
    obtain ⟨kind, by_, no, seen, at_, many, text⟩ := d
    clear h hc
    go_enter Try.func75, Try.ntmps75
    go_wp2_with fail
    refine (check_any ⟨kind, by_, no, seen, at_, many, text⟩ _).mono ?_
    rintro e w1 ⟨rfl, hb⟩
    have HI1 : Hid _ := HI.out.after hb
    clear hb HI
    generalize checkC ⟨kind, by_, no, seen, at_, many, text⟩ = c at *
    go_wp2
    go_ret
    exact ⟨ret_int HM.out.symm, HI1.out.below⟩

end Go.Proofs.Ytebhbhcjfnohmab
