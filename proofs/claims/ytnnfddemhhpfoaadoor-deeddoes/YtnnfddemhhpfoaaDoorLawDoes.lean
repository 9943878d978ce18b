/-
  The walk of the law DeedDoes.
-/
import Derived.Test.YtnnfddemhhpfoaaDoorDBegun
import Derived.Test.YtnnfddemhhpfoaaDoorDRefD
namespace Go.Proofs.YtnnfddemhhpfoaaDoor
open Go.RowKit

/-- What holds of a world in the middle of the law's last test: the deed lies in block B2, what Parse and DeedOf answered in B9 and B11. -/
structure SInv (w : World) (B2 B9 B11 : Nat) (d x : Dd) (wk : World) : Prop where
  below : Below w.heap.size w wk
  d2 : At7 wk B2 d
  x9 : At7 wk B9 x
  x11 : At7 wk B11 x

theorem SInv.after {w wk w' : World} {B2 B9 B11 : Nat} {d x : Dd} (h : SInv w B2 B9 B11 d x wk) (hb : Below wk.heap.size wk w') : SInv w B2 B9 B11 d x w' :=
  ⟨below_after h.below hb, h.d2.below hb, h.x9.below hb, h.x11.below hb⟩
theorem SInv.drew {w wk : World} {B2 B9 B11 : Nat} {d x : Dd} (h : SInv w B2 B9 B11 d x wk) : SInv w B2 B9 B11 d x wk.drew := h.after (Below.refl _ _).drew

theorem check_q {w wk : World} {B2 B9 B11 : Nat} {d x : Dd} (h : SInv w B2 B9 B11 d x wk) :
    Calls Tryd.prog 11 #[ddV d] wk fun e w' => e = .returned (.int .i64 (checkC d)) ∧ SInv w B2 B9 B11 d x w' :=
  (check_any d wk).mono fun _ _ ⟨he, hb⟩ => ⟨he, h.after hb⟩

theorem fault_q {w wk : World} {B2 B9 B11 : Nat} {d x : Dd} (h : SInv w B2 B9 B11 d x wk) :
    Calls Tryd.prog 12 #[ddV d] wk fun e w' => e = .returned (.int .i64 (checkC d)) ∧ SInv w B2 B9 B11 d x w' :=
  (fault_any d wk).mono fun _ _ ⟨he, hb⟩ => ⟨he, h.after hb⟩

set_option maxHeartbeats 400000 in
theorem does_great (d : Dd) (s : ByteArray) (w : World) (hw : Ready w) (h : 1000 < d.text.size ∨ (d.text.size ≤ 1000 ∧ 1000 < s.size)) :
    Calls Tryd.prog 3 #[ddV d, .string s] w fun e w' => e = .returned (.bool true) ∧ Below w.heap.size w w' := by
  have HW : Hid _ := hw
  have HB0 : Hid (Below w.heap.size w (w.alloc (ddObj d))) := (Below.refl _ _).alloc (Nat.le_refl _) _
  have HA0 : Hid _ := at7_start w d
  unfold ddObj at HB0 HA0
  obtain ⟨kind, by_, no, seen, at_, many, text⟩ := d
  clear hw
  simp only at h
  rcases h with h | ⟨h, h'⟩
  all_goals
    go_enter Tryd.func3, Tryd.ntmps3
    go_wp2_with fail
    refine (begun_any _ (HW.out.below HB0.out)).mono ?_
    rintro e w1 ⟨rfl, hb1⟩
    have HB1 : Hid _ := below_after HB0.out hb1
    obtain ⟨_, c0, c1, c2, c3, c4, c5, c6⟩ := HA0.out.below hb1
    clear hb1
    go_wp2
    go_ret
    exact ⟨rfl, HB1.out⟩

set_option maxHeartbeats 1000000 in
theorem does_some (d : Dd) (s : ByteArray) (w : World) (hw : Ready w) (h : d.text.size ≤ 1000) (hs : s.size ≤ 1000) :
    Calls Tryd.prog 3 #[ddV d, .string s] w fun e w' => e = .returned (.bool true) ∧ Below w.heap.size w w' := by
  have HW : Hid _ := hw
  have HB0 : Hid (Below w.heap.size w (w.alloc (ddObj d))) := (Below.refl _ _).alloc (Nat.le_refl _) _
  have HA0 : Hid _ := at7_start w d
  unfold ddObj at HB0 HA0
  obtain ⟨kind, by_, no, seen, at_, many, text⟩ := d
  clear hw
  simp only at h
  go_enter Tryd.func3, Tryd.ntmps3
  go_wp2_with fail
  refine (begun_any _ (HW.out.below HB0.out)).mono ?_
  rintro e w1 ⟨rfl, hb1⟩
  have HB1 : Hid _ := below_after HB0.out hb1
  have HA1 : Hid _ := HA0.out.below hb1
  obtain ⟨_, c0, c1, c2, c3, c4, c5, c6⟩ := HA1.out
  clear hb1 HA0 HB0
  go_wp2_with fail
  clear c0 c1 c2 c3 c4 c5 c6
  refine (line_any ⟨kind, by_, no, seen, at_, many, text⟩ _ (HW.out.below HB1.out)).mono ?_
  rintro e w2 ⟨rfl, hb2⟩
  have HB2 : Hid _ := below_after HB1.out hb2
  have HA2 : Hid _ := HA1.out.below hb2
  obtain ⟨_, c0, c1, c2, c3, c4, c5, c6⟩ := HA2.out
  clear hb2 HA1 HB1
  go_wp2_with fail
  clear c0 c1 c2 c3 c4 c5 c6
  refine (lineOf_any ⟨kind, by_, no, seen, at_, many, text⟩ _ (HW.out.below HB2.out)).mono ?_
  rintro e w3 ⟨rfl, hb3⟩
  have HB3 : Hid _ := below_after HB2.out hb3
  have HA3 : Hid _ := HA2.out.below hb3
  clear hb3 HA2 HB2
  go_wp2_with fail
  refine (parse_any s _ (HW.out.below HB3.out) hs).mono ?_
  rintro e w4 ⟨rfl, hb4⟩
  have HB4 : Hid _ := below_after HB3.out hb4
  have HA4 : Hid _ := HA3.out.below hb4
  clear hb4 HA3 HB3
  generalize hx : valD (parseD s) = x
  generalize hcx : codeD (parseD s) = cx
  have HE : Hid _ := hx
  have HCE : Hid _ := hcx
  clear hx hcx
  have HX4 : Hid _ := at7_start w4 x
  have HB5 : Hid (Below w4.heap.size w4 (w4.alloc (ddObj x))) := (Below.refl _ _).alloc (Nat.le_refl _) _
  obtain ⟨xk, xb, xn, xs, xa, xm, xt⟩ := x
  unfold ddObj at HX4 HB5
  go_wp2_with fail
  refine (deedOf_any s _ (HW.out.below (below_after HB4.out HB5.out)) hs).mono ?_
  rintro e w6 ⟨rfl, hb6⟩
  rw [HE.out, HCE.out]
  have hb7 := below_after HB5.out hb6
  have HS : Hid (∀ o, Below w6.heap.size w6 (w6.alloc o)) := fun o => (Below.refl _ _).alloc (Nat.le_refl _) _
  have HI : Hid (SInv w w.heap.size w4.heap.size w6.heap.size ⟨kind, by_, no, seen, at_, many, text⟩ ⟨xk, xb, xn, xs, xa, xm, xt⟩ (w6.alloc (ddObj ⟨xk, xb, xn, xs, xa, xm, xt⟩))) :=
    ⟨below_after (below_after HB4.out hb7) (HS.out _), (HA4.out.below hb7).below (HS.out _), (HX4.out.below hb6).below (HS.out _), at7_start w6 _⟩
  unfold ddObj at HI
  clear hb6 hb7 HS HX4 HB5 HA4 HB4
  generalize lineS ⟨kind, by_, no, seen, at_, many, text⟩ = ln at *
  go_wp2
  refine wp_region_quiet (C := fun wk => SInv w w.heap.size w4.heap.size w6.heap.size ⟨kind, by_, no, seen, at_, many, text⟩ ⟨xk, xb, xn, xs, xa, xm, xt⟩ wk) (by kernel_rfl) (by kernel_rfl) (HI.out.drew) ?_
  refine wpQuiet_step (fun K hK => ?_)
  go_simp
  refine ⟨ddV ⟨kind, by_, no, seen, at_, many, text⟩, fun wk hwk => ?_, hK _ ?_⟩
  · obtain ⟨_, c0, c1, c2, c3, c4, c5, c6⟩ := hwk.d2
    go_simp
  clear hK K
  refine wpQuiet_step (fun K hK => ?_)
  go_simp
  refine ⟨_, fun wk hwk => check_q hwk, hK _ ?_⟩
  clear hK K
  refine wpQuiet_step (fun K hK => ?_)
  go_simp
  refine ⟨ddV ⟨kind, by_, no, seen, at_, many, text⟩, fun wk hwk => ?_, hK _ ?_⟩
  · obtain ⟨_, c0, c1, c2, c3, c4, c5, c6⟩ := hwk.d2
    go_simp
  clear hK K
  refine wpQuiet_step (fun K hK => ?_)
  go_simp
  refine ⟨_, fun wk hwk => fault_q hwk, hK _ ?_⟩
  clear hK K
  refine wpQuiet_step (fun K hK => ?_)
  go_simp
  refine ⟨_, fun _ _ => rfl, hK _ ?_⟩
  clear hK K
  refine wpQuiet_step (fun K hK => ?_)
  go_simp
  refine ⟨_, fun _ _ => rfl, hK _ ?_⟩
  clear hK K
  refine wpQuiet_step (fun K hK => ?_)
  go_simp
  refine ⟨_, fun _ _ => rfl, hK _ ?_⟩
  clear hK K
  refine wpQuiet_step (fun K hK => ?_)
  go_simp
  refine ⟨_, fun _ _ => rfl, hK _ ?_⟩
  clear hK K
  refine wpQuiet_step (fun K hK => ?_)
  go_simp
  refine ⟨_, fun _ _ => rfl, hK _ ?_⟩
  clear hK K
  refine wpQuiet_step (fun K hK => ?_)
  go_simp
  refine ⟨_, fun _ _ => rfl, hK _ ?_⟩
  clear hK K
  refine wpQuiet_step (fun K hK => ?_)
  go_simp
  refine ⟨_, fun _ _ => rfl, hK _ ?_⟩
  clear hK K
  refine wpQuiet_step (fun K hK => ?_)
  go_simp
  refine ⟨_, fun _ _ => rfl, hK _ ?_⟩
  clear hK K
  refine wpQuiet_step (fun K hK => ?_)
  go_simp
  refine ⟨_, fun _ _ => rfl, hK _ ?_⟩
  clear hK K
  refine wpQuiet_step (fun K hK => ?_)
  go_simp
  refine ⟨_, fun _ _ => rfl, hK _ ?_⟩
  clear hK K
  refine wpQuiet_step (fun K hK => ?_)
  go_simp
  refine ⟨_, fun _ _ => rfl, hK _ ?_⟩
  clear hK K
  refine wpQuiet_step (fun K hK => ?_)
  go_simp
  refine ⟨_, fun _ _ => rfl, hK _ ?_⟩
  clear hK K
  refine wpQuiet_step (fun K hK => ?_)
  go_simp
  refine ⟨ddV ⟨xk, xb, xn, xs, xa, xm, xt⟩, fun wk hwk => ?_, hK _ ?_⟩
  · obtain ⟨_, c0, c1, c2, c3, c4, c5, c6⟩ := hwk.x9
    go_simp
  clear hK K
  refine wpQuiet_step (fun K hK => ?_)
  go_simp
  refine ⟨ddV ⟨xk, xb, xn, xs, xa, xm, xt⟩, fun wk hwk => ?_, hK _ ?_⟩
  · obtain ⟨_, c0, c1, c2, c3, c4, c5, c6⟩ := hwk.x11
    go_simp
  clear hK K
  refine wpQuiet_step (fun K hK => ?_)
  go_simp
  refine ⟨_, fun _ _ => rfl, hK _ ?_⟩
  clear hK K
  refine wpQuiet_step (fun K hK => ?_)
  go_simp
  refine ⟨_, fun _ _ => rfl, hK _ ?_⟩
  clear hK K
  refine wpQuiet_step (fun K hK => ?_)
  go_simp
  refine ⟨_, fun _ _ => rfl, hK _ ?_⟩
  clear hK K
  refine wpQuiet_step (fun K hK => ?_)
  go_simp
  refine ⟨_, fun _ _ => rfl, hK _ ?_⟩
  clear hK K
  refine wpQuiet_step (fun K hK => ?_)
  go_simp
  refine ⟨_, fun _ _ => rfl, hK _ ?_⟩
  clear hK K
  refine wpQuiet_step (fun K hK => ?_)
  go_simp
  refine ⟨_, fun _ _ => rfl, hK _ ?_⟩
  clear hK K
  refine wpQuiet_step (fun K hK => ?_)
  go_simp
  refine ⟨_, fun _ _ => rfl, hK _ ?_⟩
  clear hK K
  refine wpQuiet_step (fun K hK => ?_)
  go_simp
  refine ⟨_, fun _ _ => rfl, hK _ ?_⟩
  clear hK K
  refine wpQuiet_nil ?_
  intro w8 hw8
  have HB8 : Hid (Below w.heap.size w w8) := hw8.below
  clear hw8
  go_wp2
  go_ret
  exact ⟨rfl, HB8.out⟩

theorem law_does (d : Dd) (s : ByteArray) (w : World) (hw : Ready w) :
    Calls Tryd.prog 3 #[ddV d, .string s] w fun e w' => e = .returned (.bool true) ∧ Below w.heap.size w w' := by
  by_cases h : d.text.size ≤ 1000
  · by_cases hs : s.size ≤ 1000
    · exact does_some d s w hw h hs
    · exact does_great d s w hw (.inr ⟨h, by omega⟩)
  · exact does_great d s w hw (.inl (by omega))

end Go.Proofs.YtnnfddemhhpfoaaDoor
