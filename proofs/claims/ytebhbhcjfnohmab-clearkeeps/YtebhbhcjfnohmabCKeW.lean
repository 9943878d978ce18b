/-
  The walk of the law ClearKeeps.
-/
import Derived.Test.YtebhbhcjfnohmabCApart
namespace Go.Proofs.Ytebhbhcjfnohmab
open Go.RowKit

theorem of_done {least : Int} {l : List Ch} {k : Nat} (h : k < l.length) (hd : doneB least l[k] = true) : (ofL least (l.take (k + 1))).length = (ofL least (l.take k)).length := by
  rw [ofL_take_succ least l k h, hd]; simp
theorem of_stays {least : Int} {l : List Ch} {k : Nat} (h : k < l.length) (hd : doneB least l[k] = false) : (ofL least (l.take (k + 1))).length = (ofL least (l.take k)).length + 1 := by
  rw [ofL_take_succ least l k h, hd]; simp

set_option maxRecDepth 20000 in
set_option maxHeartbeats 1600000 in
theorem law_clearKeeps {w : World} {v : Value} {l : List Ch} (h : Lst w v l) (less more : Int) :
    Calls Try.prog 12 #[v, .int .i64 less, .int .i64 more] w fun e w' => e = .returned (.bool true) ∧ Below w.heap.size w w' := by
  have HL : Hid (Lst w v l) := h
  obtain ⟨ad, cap, rfl, _⟩ := h.len
  clear h
  by_cases h3 : 300 < l.length
  · have h3I : (300 : Int) < (l.length : Int) := by omega
    go_enter Try.func12, Try.ntmps12
    go_wp2_with fail
    refine (clearBegun_any _).mono ?_
    rintro e w1 ⟨rfl, hb⟩
    have HB : Hid _ := hb
    clear hb
    go_wp2
    go_ret
    exact ⟨rfl, HB.out⟩
  have h3I : ¬ (300 : Int) < (l.length : Int) := by omega
  by_cases hlm : more < less
  · go_enter Try.func12, Try.ntmps12
    go_wp2_with fail
    refine (clearBegun_any _).mono ?_
    rintro e w1 ⟨rfl, hb⟩
    have HB : Hid _ := hb
    clear hb
    go_wp2
    go_ret
    exact ⟨rfl, HB.out⟩
  have HLM : Hid (less ≤ more) := (show less ≤ more by omega)
  go_enter Try.func12, Try.ntmps12
  go_wp2_with fail
  refine (clearBegun_any _).mono ?_
  rintro e w1 ⟨rfl, hb⟩
  have HB1 : Hid (Below w.heap.size w w1) := hb
  clear hb
  go_wp2_with fail
  refine (of_lst more (HL.out.below HB1.out) (by omega)).mono ?_
  rintro e w2 ⟨v2, rfl, ho, hb⟩
  have HB2 : Hid (Below w.heap.size w w2) := below_after HB1.out hb
  have HX : Hid (Lst w2 v2 (ofL more l)) := ho.lst
  obtain ⟨ax, cx, rfl, _⟩ := ho.lst.len
  have hxl := ofL_le more l
  clear ho hb HB1
  go_wp2
  go_loopw [8, 9] (fun s8 s9 wr => ∃ i : Nat, i ≤ l.length ∧ s9 = .int .i64 i ∧ s8 = .int .i64 (ofL more (l.take i)).length ∧ Hid (Below w2.heap.size w2 wr)) (fun _ s9 _ => l.length - (intOf s9).toNat)
  case atStart => exact ⟨0, Nat.zero_le _, rfl, rfl, Below.refl _ _⟩
  case round =>
    obtain ⟨i, hi, rfl, rfl, HI⟩ := hrel
    by_cases hlt : i < l.length
    · have hiI : (i : Int) < (l.length : Int) := by omega
      obtain ⟨b1, o1, rfl, _, r1⟩ := ((HL.out.below HB2.out).below HI.out).row (by omega)
      obtain ⟨g0, g1, g2, g3, g4, g5, g6⟩ := r1.at_ i hlt
      have HD1 : Hid (doneB more l[i] = true → (ofL more (l.take (i + 1))).length = (ofL more (l.take i)).length) := of_done hlt
      have HD2 : Hid (doneB more l[i] = false → (ofL more (l.take (i + 1))).length = (ofL more (l.take i)).length + 1) := of_stays hlt
      have HG : Hid (doneB more l[i] = false → (ofL more (l.take i)).length < (ofL more l).length ∧ (ofL more l)[(ofL more (l.take i)).length]? = some l[i]) := fun hd => ⟨(of_get hlt hd).1, (of_get hlt hd).2.1⟩
      have hkl : (ofL more (l.take i)).length ≤ 300 := by
        have h1 := ofL_le more (l.take i)
        rw [List.length_take] at h1
        omega
      have HAT : Hid (∀ wk, Lst wk (.slice (some ⟨b1, o1, none⟩) l.length cap) l → At wk b1 (o1 + i * 7) l[i]) := fun wk hh => by
        obtain ⟨b2, o2, e2, _, r2⟩ := hh.row (by omega)
        cases e2
        exact r2.at_ i hlt
      generalize l[i] = x at *
      generalize (ofL more (l.take i)).length = k at *
      clear r1
      go_wp2_with fail
      refine (done_any x more _).mono ?_
      rintro e w3 ⟨rfl, hb⟩
      have HI3 : Hid (Below w2.heap.size w2 w3) := below_after HI.out hb
      clear hb HI g0 g1 g2 g3 g4 g5 g6
      cases hd : doneB more x
      · have HD : Hid _ := HD2.out hd
        obtain ⟨hkx, hgx⟩ := HG.out hd
        have hkI : (k : Int) < ((ofL more l).length : Int) := by omega
        obtain ⟨b2, o2, rfl, _, r2⟩ := (HX.out.below HI3.out).row (by omega)
        have hx2 := r2.at_ k hkx
        rw [List.getElem?_eq_getElem hkx, Option.some.injEq] at hgx
        rw [hgx] at hx2
        obtain ⟨e0, e1, e2, e3, e4, e5, e6⟩ := hx2
        obtain ⟨g0, g1, g2, g3, g4, g5, g6⟩ := HAT.out w3 ((HL.out.below HB2.out).below HI3.out)
        obtain ⟨c, bb, no, kk, ii, o, g⟩ := x
        simp only at g0 g1 g2 g3 g4 g5 g6 e0 e1 e2 e3 e4 e5 e6
        have hge : decide (((ofL more l).length : Int) ≤ (k : Int)) = false := decide_eq_false (by omega)
        clear hgx r2 HAT HD1 HD2 HG
        go_wp2
        go_quiet (fail)
        go_wp2
        go_roundw
        case rel => exact ⟨i + 1, by omega, by go_num, by rw [HD.out]; go_num, below_drewN HI3.out _⟩
        case measure => simp [intOf]; omega
      · have HD : Hid _ := HD1.out hd
        go_wp2
        go_roundw
        case rel => exact ⟨i + 1, by omega, by go_num, by rw [HD.out], HI3⟩
        case measure => simp [intOf]; omega
    · obtain rfl : i = l.length := by omega
      have HL3 : Hid (Lst wr _ l) := (HL.out.below HB2.out).below HI.out
      have HX3 : Hid (Lst wr _ (ofL more l)) := HX.out.below HI.out
      have HB3 : Hid (Below w.heap.size w wr) := below_after HB2.out HI.out
      rw [List.take_length]
      have hle1 := ofL_le less l
      clear HI HX HL HB2
      go_wp2_with fail
      refine (of_lst less HL3.out (by omega)).mono ?_
      rintro e w4 ⟨v4, rfl, ho, hb⟩
      have HX4 : Hid (Lst w4 _ (ofL more l)) := HX3.out.below hb
      have HO4 : Hid (Lst w4 v4 (ofL less l)) := ho.lst
      have HB4 : Hid (Below w.heap.size w w4) := below_after HB3.out hb
      clear ho hb HL3 HX3 HB3
      go_wp2_with fail
      refine (of_lst more HO4.out (by omega)).mono ?_
      rintro e w5 ⟨v5, rfl, ho, hb⟩
      have HX5 : Hid (Lst w5 _ (ofL more l)) := HX4.out.below hb
      have HO5 : Hid (Lst w5 v5 (ofL more (ofL less l))) := ho.lst
      have HB5 : Hid (Below w.heap.size w w5) := below_after HB4.out hb
      rw [of_more HLM.out] at HO5
      clear ho hb HO4 HX4 HB4
      go_wp2_with fail
      refine (sameChars_lst HO5.out HX5.out (by omega) (by omega)).mono ?_
      rintro e w6 ⟨r, rfl, hr, hb⟩
      obtain rfl : r = true := hr.2 rfl
      have HB6 : Hid (Below w.heap.size w w6) := below_after HB5.out hb
      clear hr hb HO5 HX5 HB5
      go_wp2
      go_ret
      exact ⟨rfl, HB6.out⟩

end Go.Proofs.Ytebhbhcjfnohmab
