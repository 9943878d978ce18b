/-
  The contracts of the reference's FindIn and of the law's own apart.
-/
import Derived.Test.YtebhbhcjfnohmabCBegun
namespace Go.Proofs.Ytebhbhcjfnohmab
open Go.RowKit

/-- A list and a byte in a box. -/
structure FnInv (w : World) (v : Value) (l : List Ch) (y : Ch) (wk : World) : Prop where
  below : Below w.heap.size w wk
  lt : w.heap.size < wk.heap.size
  at_ : At wk w.heap.size 0 y
  lst : Lst wk v l

theorem FnInv.after {w wk w' : World} {v : Value} {l : List Ch} {y : Ch} (h : FnInv w v l y wk) (hb : Below wk.heap.size wk w') : FnInv w v l y w' := by
  obtain ⟨hc, _⟩ := bcell hb
  refine ⟨below_after h.below hb, Nat.lt_of_lt_of_le h.lt hb.size, ?_, h.lst.below hb⟩
  have hx := h.at_
  unfold At at hx ⊢
  simp only [hc _ _ h.lt]
  exact hx

theorem fninv_start {w : World} {v : Value} {l : List Ch} (y : Ch) (h : Lst w v l) : FnInv w v l y (w.alloc (.cells #[.int .u8 y.c, .int .i64 y.by_, .int .i64 y.no, .int .i64 y.k, .int .i64 y.inn, .int .i64 y.out, .int .i64 y.gone] 65)) := by
  refine ⟨below1 _ _, by simp, ?_, h.below (below1 _ _)⟩
  unfold At
  simp [go_sem]

theorem sameAt_at {l : List Ch} {y : Ch} {k : Nat} (h : k < l.length) : sameAt l y k = sameB l[k] y := by
  rw [sameAt, List.getElem?_eq_getElem h]

set_option maxRecDepth 20000 in
set_option maxHeartbeats 800000 in
theorem findIn_lst {w : World} {v : Value} {l : List Ch} (y : Ch) (h : Lst w v l) (hl : l.length ≤ 1000) :
    Calls Try.prog 69 #[v, chV y] w fun e w' => ∃ r, e = .returned (.int .i64 r) ∧ FindIs l y r ∧ Below w.heap.size w w' := by
  have HI : Hid (FnInv _ _ _ _ _) := fninv_start y h
  obtain ⟨ad, cap, rfl, _⟩ := h.len
  obtain ⟨c, b, no, k, i, o, g⟩ := y
  simp only at HI
  clear h
  go_enter Try.func69, Try.ntmps69
  go_wp2
  go_loopw [5] (fun s5 wr => ∃ j : Nat, j ≤ l.length ∧ s5 = .int .i64 j ∧ Hid (∀ t, t < j → sameAt l ⟨c, b, no, k, i, o, g⟩ t = false) ∧ Hid (FnInv w (.slice ad l.length cap) l ⟨c, b, no, k, i, o, g⟩ wr)) (fun s5 _ => l.length - (intOf s5).toNat)
  case atStart => exact ⟨0, Nat.zero_le _, rfl, fun j hj => absurd hj (Nat.not_lt_zero _), HI⟩
  case round =>
    obtain ⟨j, hj, rfl, HNO, HJ⟩ := hrel
    clear HI
    by_cases hlt : j < l.length
    · have hjI : (j : Int) < (l.length : Int) := by omega
      obtain ⟨b1, o1, rfl, _, _⟩ := HJ.out.lst.row (by omega)
      obtain ⟨x, hx⟩ : ∃ x, x = l[j] := ⟨_, rfl⟩
      have HX : Hid (sameAt l ⟨c, b, no, k, i, o, g⟩ j = sameB x ⟨c, b, no, k, i, o, g⟩) := by
        show sameAt _ _ _ = _
        rw [sameAt_at hlt, hx]
      have HL : Hid (∀ wk, Lst wk (.slice (some ⟨b1, o1, none⟩) l.length cap) l → At wk b1 (o1 + j * 7) x) := fun wk hh => by
        obtain ⟨b2, o2, e2, _, r2⟩ := hh.row (by omega)
        cases e2
        rw [hx]
        exact r2.at_ j hlt
      clear hx
      go_wp2
      refine wp_region_quiet (C := fun wk => FnInv w (.slice (some ⟨b1, o1, none⟩) l.length cap) l ⟨c, b, no, k, i, o, g⟩ wk) (by kernel_rfl) (by kernel_rfl) (HJ.out.after (Below.refl _ _).drew) ?_
      refine wpQuiet_step (fun K hK => ?_)
      go_simp
      refine ⟨_, fun _ _ => rfl, hK _ ?_⟩
      clear hK K
      refine wpQuiet_step (fun K hK => ?_)
      go_simp
      refine ⟨_, fun _ _ => rfl, hK _ ?_⟩
      clear hK K
      refine wpQuiet_step (fun K hK => ?_)
      go_simp
      refine ⟨.pointer (some ⟨b1, o1 + j * 7, none⟩), fun wk hwk => ?_, hK _ ?_⟩
      · go_simp
      clear hK K
      refine wpQuiet_step (fun K hK => ?_)
      go_simp
      refine ⟨chV x, fun wk hwk => ?_, hK _ ?_⟩
      · obtain ⟨g0, g1, g2, g3, g4, g5, g6⟩ := HL.out wk hwk.lst
        go_simp
      clear hK K
      refine wpQuiet_step (fun K hK => ?_)
      go_simp
      refine ⟨chV ⟨c, b, no, k, i, o, g⟩, fun wk hwk => ?_, hK _ ?_⟩
      · obtain ⟨g0, g1, g2, g3, g4, g5, g6⟩ := hwk.at_
        simp only [Nat.zero_add] at g0 g1 g2 g3 g4 g5 g6
        go_simp
      clear hK K
      refine wpQuiet_step (fun K hK => ?_)
      go_simp
      refine ⟨_, fun wk hwk => (refSame_any x ⟨c, b, no, k, i, o, g⟩ wk).mono (fun _ _ ⟨he, hb⟩ => ⟨he, hwk.after hb⟩), hK _ ?_⟩
      clear hK K
      refine wpQuiet_nil ?_
      intro w4 hw4
      have HK4 : Hid (FnInv _ _ _ _ _) := hw4
      clear hw4 HJ HL
      cases hs : sameB x ⟨c, b, no, k, i, o, g⟩
      · rw [hs] at HX
        go_wp2
        go_roundw
        case rel => exact ⟨j + 1, by omega, by go_num, no_step _ j HNO.out HX.out, HK4⟩
        case measure => simp [intOf]; omega
      · rw [hs] at HX
        go_wp2
        go_ret
        exact ⟨_, rfl, .inl ⟨j, hlt, HNO.out, HX.out, rfl⟩, HK4.out.below⟩
    · obtain rfl : j = l.length := by omega
      go_wp2
      go_ret
      exact ⟨_, rfl, .inr ⟨HNO.out, rfl⟩, HJ.out.below⟩

set_option maxRecDepth 20000 in
set_option maxHeartbeats 800000 in
theorem apart_lst {w : World} {v : Value} {l : List Ch} (h : Lst w v l) (hl : l.length ≤ 1000) :
    Calls Try.prog 43 #[v] w fun e w' => ∃ r, e = .returned (.bool r) ∧ (r = true → Apart l) ∧ Below w.heap.size w w' := by
  have HL : Hid (Lst w v l) := h
  obtain ⟨ad, cap, rfl, _⟩ := h.len
  clear h
  go_enter Try.func43, Try.ntmps43
  go_wp2
  go_loopw [3] (fun s wr => ∃ j : Nat, j ≤ l.length ∧ s = .int .i64 j ∧ Hid (∀ t (ht : t < l.length), t < j → FindIs l l[t] t) ∧ Hid (Below w.heap.size w wr)) (fun s _ => l.length - (intOf s).toNat)
  case atStart => exact ⟨0, Nat.zero_le _, rfl, fun j _ hj => absurd hj (Nat.not_lt_zero _), Below.refl _ _⟩
  case round =>
    obtain ⟨j, hj, rfl, HA, HI⟩ := hrel
    by_cases hlt : j < l.length
    · have hjI : (j : Int) < (l.length : Int) := by omega
      obtain ⟨b1, o1, rfl, _, r1⟩ := (HL.out.below HI.out).row (by omega)
      obtain ⟨g0, g1, g2, g3, g4, g5, g6⟩ := r1.at_ j hlt
      have HX : Hid (∀ r, FindIs l l[j] r → r = j → ∀ t (ht : t < l.length), t < j + 1 → FindIs l l[t] t) := fun r hr e t ht htj => by
        by_cases e2 : t = j
        · subst e2; rw [← e]; exact hr
        · exact HA.out t ht (by omega)
      generalize l[j] = x at *
      clear r1
      go_wp2_with fail
      refine (findIn_lst x (HL.out.below HI.out) hl).mono ?_
      rintro e w1 ⟨r, rfl, hr, hb⟩
      have HI1 : Hid (Below w.heap.size w w1) := below_after HI.out hb
      have HR : Hid _ := HX.out r hr
      clear hb hr HX HI g0 g1 g2 g3 g4 g5 g6
      by_cases he : r = j
      · subst he
        have hne : ((j : Int) != (j : Int)) = false := by simp
        go_wp2
        go_roundw
        case rel => exact ⟨j + 1, by omega, by go_num, HR.out trivial, HI1⟩
        case measure => simp [intOf]; omega
      · have hne : (r != (j : Int)) = true := by simp [he]
        go_wp2
        go_ret
        exact ⟨_, rfl, fun e => (by cases e), HI1.out⟩
    · obtain rfl : j = l.length := by omega
      go_wp2
      go_ret
      exact ⟨_, rfl, fun _ => apart_of fun k hk => HA.out k hk hk, HI.out⟩

end Go.Proofs.Ytebhbhcjfnohmab
