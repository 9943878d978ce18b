/-
  The law DesksAlone: ONE ALONE WRITES WHAT IT MEANS.
-/
import Derived.Test.YtnabhdfodckpdacTMath
namespace Go.Proofs.Ytnabhdfodckpdac
open Go Go.RowKit

theorem bg_first : bgT1.ws ((0 : Nat) : Int) = some (newW twn0.b 0) := by kernel_rfl
theorem bg_text : strOfNums (textL bgT1.b.chars) = ⟨#[]⟩ := by kernel_rfl
theorem bg_ws (k : Int) : bgT1.ws k = setF (fun _ => none) 0 (some (newW twn0.b 0)) k := by
  have hj : joinC twn0.b 0 = 0 := bgC1
  have h : bgT1 = (if joinC twn0.b 0 = 0 then (⟨joinB twn0.b 0, setF twn0.ws 0 (some (newW twn0.b 0))⟩ : Twn) else twn0) := rfl
  rw [h, if_pos hj]
  rfl
theorem bg_settled : Settled bgT1 := by
  refine ⟨bgI1, fun k r hr => ?_, fun k r hr => ?_⟩
  · rw [bg_ws] at hr
    by_cases e : k = 0
    · subst e
      rw [setF_same] at hr
      obtain rfl := Option.some.inj hr
      rfl
    · rw [setF_other _ _ e] at hr
      cases hr
  · rw [bg_ws] at hr
    by_cases e : k = 0
    · subst e
      rw [setF_same] at hr
      obtain rfl := Option.some.inj hr
      kernel_rfl
    · rw [setF_other _ _ e] at hr
      cases hr

/-- Desks, and boxes of the walk's own. -/
def DkX (base : Nat) (w : World) (S : Nat → Prop) (D G : Nat) (pw : Nat → Nat) (t : Twn) (ex : Nat → Th base) (wk : World) : Prop := ∃ tk, DkIn base w S D G pw t tk ex wk ∧ TR t tk

section
variable {w wk w' : World} {base D G : Nat} {S : Nat → Prop} {pw : Nat → Nat} {t : Twn} {ex : Nat → Th base}

theorem DkAny.boxes (h : DkAny base w S D G pw t wk) (x : Tst) : DkX base w S D G pw t (updT (fun _ => Th.no base) 0 (Th.st base wk.heap.size x)) (wk.alloc (tsObj x)) := by
  obtain ⟨tk, h1, h2⟩ := h
  exact ⟨tk, h1.step x 0, h2⟩
theorem DkX.any (h : DkX base w S D G pw t ex wk) : DkAny base w S D G pw t wk := by
  obtain ⟨tk, h1, h2⟩ := h
  exact ⟨tk, h1.bare, h2⟩
theorem DkX.stepAt {E : Nat} {x : Tst} (h : DkX base w S D G pw t (updT ex 0 (Th.st base E x)) wk) : TsAt wk E 0 x := by
  obtain ⟨tk, h1, h2⟩ := h
  exact h1.stepAt
theorem DkX.does (h : DkX base w S D G pw t ex wk) (x : Tst) :
    Calls Try.prog 34 #[.pointer (some ⟨D, 0, none⟩), tsV x] wk fun e w' => e = .returned (.int .i64 (tDo t x).1) ∧ ∃ pw', DkX base w S D G pw' (tDo t x).2 ex w' ∧ (x.kind ≠ 1 → pw' = pw) := by
  obtain ⟨tk, h1, h2⟩ := h
  obtain ⟨T, ha, hs⟩ := h1.call
  exact (do_dk ha h2 x).mono fun e w' ⟨e1, pw', tk', e2, e3, e4⟩ => ⟨e1, pw', ⟨tk', hs _ _ _ _ e2, e3⟩, e4⟩

end

set_option maxRecDepth 20000 in
set_option maxHeartbeats 6400000 in
theorem desksAlone_any (v : Value) (xs : List Tst) (w : World) (h : TLst w v xs) :
    Calls Try.prog 9 #[v] w fun e w' => e = .returned (.bool true) ∧ Below w.heap.size w w' := by
  have HD : Hid (TLst w v xs) := h
  obtain ⟨a, cap, rfl⟩ := h.len
  clear h
  go_enter Try.func9, Try.ntmps9
  go_wp2_with fail
  refine (tbegun_any _).mono ?_
  rintro e w0 ⟨rfl, hb0⟩
  have HB0 : Hid (Below w.heap.size w w0) := hb0
  clear hb0
  go_wp2_with fail
  refine (greatT_any _ xs _ (HD.out.below HB0.out)).mono ?_
  rintro e w1 ⟨gr, rfl, hgr, rfl⟩
  cases gr
  · have hl := hgr rfl
    clear hgr
    go_wp2_with fail
    have H0 : Hid (DkAny w1.heap.size w1 (fun _ => False) (w1.heap.size + 1) w1.heap.size (fun _ => 0) twn0 ((w1.alloc (.cells logZ 80)).alloc (.cells (deskZ w1.heap.size) 63))) := any_start w1
    refine (new_dk w1).mono ?_
    rintro e w2 ⟨rfl, rfl⟩
    generalize World.alloc _ _ = w2 at *
    generalize w1.heap.size + 1 = D at *
    have H2 : Hid (∃ G pw, DkAny w1.heap.size w1 (fun _ => False) D G pw twn0 w2) := ⟨_, _, H0.out⟩
    clear H0
    obtain ⟨G, pw0, hd2⟩ := H2.out
    go_wp2_with fail
    refine (hd2.does (bgS1 0)).mono ?_
    rintro e w3 ⟨rfl, pw, hd3, -⟩
    rw [bgC1]
    have H3 : Hid (DkAny w1.heap.size w1 (fun _ => False) D G pw bgT1 w3) := hd3
    clear hd2 hd3 H2
    go_wp2_with fail
    go_loopw [4, 5] (fun sv i wr => ∃ (j : Nat) (t : Twn) (r : Wr) (s : ByteArray) (pw : Nat → Nat), j ≤ xs.length ∧ i = .int .i64 j ∧ sv = .string s ∧ Hid (Settled t ∧ t.ws ((0 : Nat) : Int) = some r ∧ strOfNums (textL t.b.chars) = s) ∧ Hid (DkAny w1.heap.size w1 (fun _ => False) D G pw t wr)) (fun _ i _ => xs.length - (intOf i).toNat)
    case atStart => exact ⟨0, bgT1, newW twn0.b 0, ⟨#[]⟩, pw, Nat.zero_le _, rfl, rfl, ⟨bg_settled, bg_first, bg_text⟩, H3.out⟩
    case round =>
      obtain ⟨j, t, r, s, pw, hj, rfl, rfl, HST, HW⟩ := hrel
      clear H3
      by_cases hlt : j < xs.length
      · obtain ⟨bb, off, rfl, hr⟩ := (HD.out.below (below_after HB0.out HW.out.below)).row (by omega)
        obtain ⟨_, c0, c1, c2, c3, c4⟩ := hr.at_ j hlt
        generalize xs[j] = x at *
        obtain ⟨kind, w_, at_, many, text⟩ := x
        simp only at c0 c1 c2 c3 c4
        clear hr
        have HX : Hid (DkX w1.heap.size w1 (fun _ => False) D G pw t (updT (fun _ => Th.no _) 0 (Th.st w1.heap.size wr.heap.size ⟨kind, 0, at_, many, text⟩)) (wr.alloc (tsObj ⟨kind, 0, at_, many, text⟩))) := HW.out.boxes ⟨kind, 0, at_, many, text⟩
        by_cases hk2 : kind = 2
        · subst hk2
          go_wp2_with fail
          clear c0 c1 c2 c3 c4
          generalize World.alloc _ _ = w6 at *
          generalize wr.heap.size = E at *
          clear HW
          refine (HX.out.does ⟨2, 0, at_, many, text⟩).mono ?_
          rintro e w7 ⟨rfl, pw7, hd7, hp7⟩
          rw [hp7 (by show (2 : Int) ≠ 1; decide)] at hd7
          have H7 : Hid (DkX w1.heap.size w1 (fun _ => False) D G pw (tDo t ⟨2, 0, at_, many, text⟩).2 (updT (fun _ => Th.no _) 0 (Th.st w1.heap.size E ⟨2, 0, at_, many, text⟩)) w7) := hd7
          clear hd7 hp7 HX
          have hw2 : t.ws (⟨2, 0, at_, many, text⟩ : Tst).w = some r := HST.out.2.1
          by_cases hc : (tDo t ⟨2, 0, at_, many, text⟩).1 = 0
          · rw [hc]
            obtain ⟨_, c0, c1, c2, c3, c4⟩ := H7.out.stepAt
            simp only [Nat.zero_add] at c0 c1 c2 c3 c4
            obtain ⟨⟨q1, q2, q3, q4⟩, ⟨r2, q5, q6⟩, q7⟩ := own_settled HST.out.1 hw2 (.inl rfl) hc
            obtain ⟨a1, a2, a3⟩ := own_at r ⟨2, 0, at_, many, text⟩
            obtain ⟨n, rfl⟩ : ∃ n : Nat, at_ = n := ⟨at_.toNat, by have : 0 ≤ at_ := q1; omega⟩
            have hsz : (s.size : Int) = ((textL t.b.chars).length : Int) := by rw [← HST.out.2.2, str_size]
            have hx2 : (n : Int) ≤ (s.size : Int) := by rw [hsz]; exact q2
            have hx3 : ¬ (s.size : Int) < (n : Int) := by omega
            have hsz2 : s.size ≤ 200 := by have := text_small t.b; omega
            have hx5 : text.size ≤ 20 := q4 rfl
            have HSP : Hid (strOfNums (spliceL (textL t.b.chars) (ownD r ⟨2, 0, n, many, text⟩)) = (s.extract 0 n ++ text ++ s.extract n s.size)) := by
              show _ = _
              rw [str_splice1 (a2 rfl).1, (a2 rfl).2.2, a1, HST.out.2.2]
              rfl
            have HV2 : Hid (strOfNums (vw r2.list r2.seen r2.me) = (s.extract 0 n ++ text ++ s.extract n s.size)) := by show _ = _; rw [q6]; exact HSP.out
            have HE2 : Hid ((tDo t ⟨2, 0, n, many, text⟩).2.ws ((0 : Nat) : Int) = some r2) := q5
            have HN2 : Hid (∀ r3, (settleT (tDo t ⟨2, 0, n, many, text⟩).2).ws 0 = some r3 → strOfNums (textL (settleT (tDo t ⟨2, 0, n, many, text⟩).2).b.chars) = (s.extract 0 n ++ text ++ s.extract n s.size)) := fun r3 h3 => by
              rw [q7 (by rw [show (settleT (tDo t ⟨2, 0, n, many, text⟩).2).ws (⟨2, 0, n, many, text⟩ : Tst).w = some r3 from h3]; simp)]
              exact HSP.out
            have H8 : Hid (DkAny w1.heap.size w1 (fun _ => False) D G pw (tDo t ⟨2, 0, n, many, text⟩).2 w7) := H7.out.any
            clear q1 q2 q3 q4 q5 q6 q7 a1 a2 a3 hsz hc hw2 H7
            go_wp2_with fail
            go_quiet (fail)
            have H9 : Hid (DkAny w1.heap.size w1 (fun _ => False) D G pw (tDo t ⟨2, 0, n, many, text⟩).2 (w7.drewN nq)) := H8.out.after (below_drewN (Below.refl _ _) nq)
            generalize w7.drewN nq = w9 at *
            clear H8 c0 c1 c2 c3 c4
            obtain ⟨s2, hs2⟩ : ∃ s2, (s.extract 0 n ++ text ++ s.extract n s.size) = s2 := ⟨_, rfl⟩
            rw [hs2] at HV2 HN2 ⊢
            clear hs2 HSP
            generalize (tDo t ⟨2, 0, n, many, text⟩).2 = t2 at *
            go_wp2_with fail
            refine (H9.out.writer 0).mono ?_
            rintro e w20 ⟨rfl, hw20⟩
            rw [hw20, show deskP pw (hasW t2) 0 = .pointer (some ⟨pw 0, 0, none⟩) from desk_some (k := 0) (by omega) HE2.out]
            clear hw20 w20
            go_wp2_with fail
            refine (H9.out.writer 0).mono ?_
            rintro e w20 ⟨rfl, hw20⟩
            rw [hw20, show deskP pw (hasW t2) 0 = .pointer (some ⟨pw 0, 0, none⟩) from desk_some (k := 0) (by omega) HE2.out]
            clear hw20 w20
            go_wp2_with fail
            refine (H9.out.wtext (k := 0) (by omega) HE2.out).mono ?_
            rintro e w21 ⟨rfl, hb⟩
            rw [HV2.out]
            have H21 : Hid (DkAny w1.heap.size w1 (fun _ => False) D G pw t2 w21) := H9.out.after hb
            clear hb H9
            go_wp2_with fail
            refine H21.out.settles.mono ?_
            rintro e w22 ⟨rfl, hd22⟩
            have H22 : Hid (DkAny w1.heap.size w1 (fun _ => False) D G pw (settleT t2) w22) := hd22
            have HS2 : Hid (Settled (settleT t2)) := settled_of H21.out.ti
            clear hd22 H21
            generalize settleT t2 = tF at *
            go_wp2_with fail
            refine (H22.out.writer 0).mono ?_
            rintro e w23 ⟨rfl, hw23⟩
            rw [hw23]
            clear hw23 w23
            cases hf : tF.ws 0 with
            | none =>
              rw [desk_none hf]
              clear hf
              go_wp2_with fail
              go_ret
              exact ⟨rfl, below_after HB0.out H22.out.below⟩
            | some r3 =>
              rw [show deskP pw (hasW tF) 0 = .pointer (some ⟨pw 0, 0, none⟩) from desk_some (k := 0) (by omega) hf]
              have HF : Hid (tF.ws ((0 : Nat) : Int) = some r3) := hf
              have HW3 : Hid (strOfNums (textL tF.b.chars) = s2) := HN2.out r3 hf
              have HV3 : Hid (strOfNums (vw r3.list r3.seen r3.me) = s2) := by show _ = _; rw [(HS2.out.text hf).2.2]; exact HW3.out
              clear hf HN2
              go_wp2_with fail
              refine (H22.out.wtext (k := 0) (by omega) HF.out).mono ?_
              rintro e w24 ⟨rfl, hb⟩
              rw [HV3.out]
              have H24 : Hid (DkAny w1.heap.size w1 (fun _ => False) D G pw tF w24) := H22.out.after hb
              clear hb H22
              have g0 := H24.out.cells.book
              have hlt0 := H24.out.cells.lt
              go_wp2_with fail
              clear g0 hlt0
              refine H24.out.text.mono ?_
              rintro e w25 ⟨rfl, hb⟩
              rw [HW3.out]
              have H25 : Hid (DkAny w1.heap.size w1 (fun _ => False) D G pw tF w25) := H24.out.after hb
              clear hb H24
              go_wp2_with fail
              go_roundw
              case rel => exact ⟨j + 1, tF, r3, s2, pw, by omega, by go_num, rfl, ⟨HS2.out, HF.out, HW3.out⟩, H25.out⟩
              case measure => simp [intOf]; omega
            
          · have H8 : Hid (DkAny w1.heap.size w1 (fun _ => False) D G pw t w7) := by
              have := H7.out.any
              rw [own_no hw2 (.inl rfl) hc] at this
              exact this
            obtain ⟨cq, hcq⟩ : ∃ c, (tDo t ⟨2, 0, at_, many, text⟩).1 = c := ⟨_, rfl⟩
            have hcn : ¬ cq = 0 := by rw [← hcq]; exact hc
            rw [hcq]
            have HE2 : Hid (t.ws ((0 : Nat) : Int) = some r) := HST.out.2.1
            have HV2 : Hid (strOfNums (vw r.list r.seen r.me) = s) := by show _ = _; rw [(HST.out.1.text HST.out.2.1).2.2]; exact HST.out.2.2
            have HN2 : Hid (∀ r3, (settleT t).ws 0 = some r3 → strOfNums (textL (settleT t).b.chars) = s) := fun r3 h3 => by
              rw [HST.out.1.again]
              exact HST.out.2.2
            clear hcq hc H7 hw2
            go_wp2_with fail
            refine (H8.out.writer 0).mono ?_
            rintro e w20 ⟨rfl, hw20⟩
            rw [hw20, show deskP pw (hasW t) 0 = .pointer (some ⟨pw 0, 0, none⟩) from desk_some (k := 0) (by omega) HE2.out]
            clear hw20 w20
            go_wp2_with fail
            refine (H8.out.writer 0).mono ?_
            rintro e w20 ⟨rfl, hw20⟩
            rw [hw20, show deskP pw (hasW t) 0 = .pointer (some ⟨pw 0, 0, none⟩) from desk_some (k := 0) (by omega) HE2.out]
            clear hw20 w20
            go_wp2_with fail
            refine (H8.out.wtext (k := 0) (by omega) HE2.out).mono ?_
            rintro e w21 ⟨rfl, hb⟩
            rw [HV2.out]
            have H21 : Hid (DkAny w1.heap.size w1 (fun _ => False) D G pw t w21) := H8.out.after hb
            clear hb H8
            go_wp2_with fail
            refine H21.out.settles.mono ?_
            rintro e w22 ⟨rfl, hd22⟩
            have H22 : Hid (DkAny w1.heap.size w1 (fun _ => False) D G pw (settleT t) w22) := hd22
            have HS2 : Hid (Settled (settleT t)) := settled_of H21.out.ti
            clear hd22 H21
            generalize settleT t = tF at *
            go_wp2_with fail
            refine (H22.out.writer 0).mono ?_
            rintro e w23 ⟨rfl, hw23⟩
            rw [hw23]
            clear hw23 w23
            cases hf : tF.ws 0 with
            | none =>
              rw [desk_none hf]
              clear hf
              go_wp2_with fail
              go_ret
              exact ⟨rfl, below_after HB0.out H22.out.below⟩
            | some r3 =>
              rw [show deskP pw (hasW tF) 0 = .pointer (some ⟨pw 0, 0, none⟩) from desk_some (k := 0) (by omega) hf]
              have HF : Hid (tF.ws ((0 : Nat) : Int) = some r3) := hf
              have HW3 : Hid (strOfNums (textL tF.b.chars) = s) := HN2.out r3 hf
              have HV3 : Hid (strOfNums (vw r3.list r3.seen r3.me) = s) := by show _ = _; rw [(HS2.out.text hf).2.2]; exact HW3.out
              clear hf HN2
              go_wp2_with fail
              refine (H22.out.wtext (k := 0) (by omega) HF.out).mono ?_
              rintro e w24 ⟨rfl, hb⟩
              rw [HV3.out]
              have H24 : Hid (DkAny w1.heap.size w1 (fun _ => False) D G pw tF w24) := H22.out.after hb
              clear hb H22
              have g0 := H24.out.cells.book
              have hlt0 := H24.out.cells.lt
              go_wp2_with fail
              clear g0 hlt0
              refine H24.out.text.mono ?_
              rintro e w25 ⟨rfl, hb⟩
              rw [HW3.out]
              have H25 : Hid (DkAny w1.heap.size w1 (fun _ => False) D G pw tF w25) := H24.out.after hb
              clear hb H24
              go_wp2_with fail
              go_roundw
              case rel => exact ⟨j + 1, tF, r3, s, pw, by omega, by go_num, rfl, ⟨HS2.out, HF.out, HW3.out⟩, H25.out⟩
              case measure => simp [intOf]; omega
        · by_cases hk3 : kind = 3
          · subst hk3
            go_wp2_with fail
            clear c0 c1 c2 c3 c4
            generalize World.alloc _ _ = w6 at *
            generalize wr.heap.size = E at *
            clear HW
            refine (HX.out.does ⟨3, 0, at_, many, text⟩).mono ?_
            rintro e w7 ⟨rfl, pw7, hd7, hp7⟩
            rw [hp7 (by show (3 : Int) ≠ 1; decide)] at hd7
            have H7 : Hid (DkX w1.heap.size w1 (fun _ => False) D G pw (tDo t ⟨3, 0, at_, many, text⟩).2 (updT (fun _ => Th.no _) 0 (Th.st w1.heap.size E ⟨3, 0, at_, many, text⟩)) w7) := hd7
            clear hd7 hp7 HX
            have hw2 : t.ws (⟨3, 0, at_, many, text⟩ : Tst).w = some r := HST.out.2.1
            by_cases hc : (tDo t ⟨3, 0, at_, many, text⟩).1 = 0
            · rw [hc]
              obtain ⟨_, c0, c1, c2, c3, c4⟩ := H7.out.stepAt
              simp only [Nat.zero_add] at c0 c1 c2 c3 c4
              obtain ⟨⟨q1, q2, q3, q4⟩, ⟨r2, q5, q6⟩, q7⟩ := own_settled HST.out.1 hw2 (.inr rfl) hc
              obtain ⟨a1, a2, a3⟩ := own_at r ⟨3, 0, at_, many, text⟩
              obtain ⟨n, rfl⟩ : ∃ n : Nat, at_ = n := ⟨at_.toNat, by have : 0 ≤ at_ := q1; omega⟩
              have hsz : (s.size : Int) = ((textL t.b.chars).length : Int) := by rw [← HST.out.2.2, str_size]
              have hx2 : (n : Int) ≤ (s.size : Int) := by rw [hsz]; exact q2
              have hx3 : ¬ (s.size : Int) < (n : Int) := by omega
              have hsz2 : s.size ≤ 200 := by have := text_small t.b; omega
              obtain ⟨m, rfl⟩ : ∃ m : Nat, many = m := ⟨many.toNat, by have : 0 ≤ many := (q3 rfl).1; omega⟩
              have hx5 : (n : Int) + (m : Int) ≤ (s.size : Int) := by rw [hsz]; exact (q3 rfl).2
              have hx6 : ¬ (s.size : Int) - (n : Int) < (m : Int) := by omega
              have HSP : Hid (strOfNums (spliceL (textL t.b.chars) (ownD r ⟨3, 0, n, m, text⟩)) = (s.extract 0 n ++ s.extract (n + m) s.size)) := by
                show _ = _
                rw [str_splice2 (by rw [(a3 rfl).1]; decide), (a3 rfl).2, a1, HST.out.2.2]
                rfl
              have HV2 : Hid (strOfNums (vw r2.list r2.seen r2.me) = (s.extract 0 n ++ s.extract (n + m) s.size)) := by show _ = _; rw [q6]; exact HSP.out
              have HE2 : Hid ((tDo t ⟨3, 0, n, m, text⟩).2.ws ((0 : Nat) : Int) = some r2) := q5
              have HN2 : Hid (∀ r3, (settleT (tDo t ⟨3, 0, n, m, text⟩).2).ws 0 = some r3 → strOfNums (textL (settleT (tDo t ⟨3, 0, n, m, text⟩).2).b.chars) = (s.extract 0 n ++ s.extract (n + m) s.size)) := fun r3 h3 => by
                rw [q7 (by rw [show (settleT (tDo t ⟨3, 0, n, m, text⟩).2).ws (⟨3, 0, n, m, text⟩ : Tst).w = some r3 from h3]; simp)]
                exact HSP.out
              have H8 : Hid (DkAny w1.heap.size w1 (fun _ => False) D G pw (tDo t ⟨3, 0, n, m, text⟩).2 w7) := H7.out.any
              clear q1 q2 q3 q4 q5 q6 q7 a1 a2 a3 hsz hc hw2 H7
              go_wp2_with fail
              go_quiet (fail)
              have H9 : Hid (DkAny w1.heap.size w1 (fun _ => False) D G pw (tDo t ⟨3, 0, n, m, text⟩).2 (w7.drewN nq)) := H8.out.after (below_drewN (Below.refl _ _) nq)
              generalize w7.drewN nq = w9 at *
              clear H8 c0 c1 c2 c3 c4
              obtain ⟨s2, hs2⟩ : ∃ s2, (s.extract 0 n ++ s.extract (n + m) s.size) = s2 := ⟨_, rfl⟩
              rw [hs2] at HV2 HN2 ⊢
              clear hs2 HSP
              generalize (tDo t ⟨3, 0, n, m, text⟩).2 = t2 at *
              go_wp2_with fail
              refine (H9.out.writer 0).mono ?_
              rintro e w20 ⟨rfl, hw20⟩
              rw [hw20, show deskP pw (hasW t2) 0 = .pointer (some ⟨pw 0, 0, none⟩) from desk_some (k := 0) (by omega) HE2.out]
              clear hw20 w20
              go_wp2_with fail
              refine (H9.out.writer 0).mono ?_
              rintro e w20 ⟨rfl, hw20⟩
              rw [hw20, show deskP pw (hasW t2) 0 = .pointer (some ⟨pw 0, 0, none⟩) from desk_some (k := 0) (by omega) HE2.out]
              clear hw20 w20
              go_wp2_with fail
              refine (H9.out.wtext (k := 0) (by omega) HE2.out).mono ?_
              rintro e w21 ⟨rfl, hb⟩
              rw [HV2.out]
              have H21 : Hid (DkAny w1.heap.size w1 (fun _ => False) D G pw t2 w21) := H9.out.after hb
              clear hb H9
              go_wp2_with fail
              refine H21.out.settles.mono ?_
              rintro e w22 ⟨rfl, hd22⟩
              have H22 : Hid (DkAny w1.heap.size w1 (fun _ => False) D G pw (settleT t2) w22) := hd22
              have HS2 : Hid (Settled (settleT t2)) := settled_of H21.out.ti
              clear hd22 H21
              generalize settleT t2 = tF at *
              go_wp2_with fail
              refine (H22.out.writer 0).mono ?_
              rintro e w23 ⟨rfl, hw23⟩
              rw [hw23]
              clear hw23 w23
              cases hf : tF.ws 0 with
              | none =>
                rw [desk_none hf]
                clear hf
                go_wp2_with fail
                go_ret
                exact ⟨rfl, below_after HB0.out H22.out.below⟩
              | some r3 =>
                rw [show deskP pw (hasW tF) 0 = .pointer (some ⟨pw 0, 0, none⟩) from desk_some (k := 0) (by omega) hf]
                have HF : Hid (tF.ws ((0 : Nat) : Int) = some r3) := hf
                have HW3 : Hid (strOfNums (textL tF.b.chars) = s2) := HN2.out r3 hf
                have HV3 : Hid (strOfNums (vw r3.list r3.seen r3.me) = s2) := by show _ = _; rw [(HS2.out.text hf).2.2]; exact HW3.out
                clear hf HN2
                go_wp2_with fail
                refine (H22.out.wtext (k := 0) (by omega) HF.out).mono ?_
                rintro e w24 ⟨rfl, hb⟩
                rw [HV3.out]
                have H24 : Hid (DkAny w1.heap.size w1 (fun _ => False) D G pw tF w24) := H22.out.after hb
                clear hb H22
                have g0 := H24.out.cells.book
                have hlt0 := H24.out.cells.lt
                go_wp2_with fail
                clear g0 hlt0
                refine H24.out.text.mono ?_
                rintro e w25 ⟨rfl, hb⟩
                rw [HW3.out]
                have H25 : Hid (DkAny w1.heap.size w1 (fun _ => False) D G pw tF w25) := H24.out.after hb
                clear hb H24
                go_wp2_with fail
                go_roundw
                case rel => exact ⟨j + 1, tF, r3, s2, pw, by omega, by go_num, rfl, ⟨HS2.out, HF.out, HW3.out⟩, H25.out⟩
                case measure => simp [intOf]; omega
              
            · have H8 : Hid (DkAny w1.heap.size w1 (fun _ => False) D G pw t w7) := by
                have := H7.out.any
                rw [own_no hw2 (.inr rfl) hc] at this
                exact this
              obtain ⟨cq, hcq⟩ : ∃ c, (tDo t ⟨3, 0, at_, many, text⟩).1 = c := ⟨_, rfl⟩
              have hcn : ¬ cq = 0 := by rw [← hcq]; exact hc
              rw [hcq]
              have HE2 : Hid (t.ws ((0 : Nat) : Int) = some r) := HST.out.2.1
              have HV2 : Hid (strOfNums (vw r.list r.seen r.me) = s) := by show _ = _; rw [(HST.out.1.text HST.out.2.1).2.2]; exact HST.out.2.2
              have HN2 : Hid (∀ r3, (settleT t).ws 0 = some r3 → strOfNums (textL (settleT t).b.chars) = s) := fun r3 h3 => by
                rw [HST.out.1.again]
                exact HST.out.2.2
              clear hcq hc H7 hw2
              go_wp2_with fail
              refine (H8.out.writer 0).mono ?_
              rintro e w20 ⟨rfl, hw20⟩
              rw [hw20, show deskP pw (hasW t) 0 = .pointer (some ⟨pw 0, 0, none⟩) from desk_some (k := 0) (by omega) HE2.out]
              clear hw20 w20
              go_wp2_with fail
              refine (H8.out.writer 0).mono ?_
              rintro e w20 ⟨rfl, hw20⟩
              rw [hw20, show deskP pw (hasW t) 0 = .pointer (some ⟨pw 0, 0, none⟩) from desk_some (k := 0) (by omega) HE2.out]
              clear hw20 w20
              go_wp2_with fail
              refine (H8.out.wtext (k := 0) (by omega) HE2.out).mono ?_
              rintro e w21 ⟨rfl, hb⟩
              rw [HV2.out]
              have H21 : Hid (DkAny w1.heap.size w1 (fun _ => False) D G pw t w21) := H8.out.after hb
              clear hb H8
              go_wp2_with fail
              refine H21.out.settles.mono ?_
              rintro e w22 ⟨rfl, hd22⟩
              have H22 : Hid (DkAny w1.heap.size w1 (fun _ => False) D G pw (settleT t) w22) := hd22
              have HS2 : Hid (Settled (settleT t)) := settled_of H21.out.ti
              clear hd22 H21
              generalize settleT t = tF at *
              go_wp2_with fail
              refine (H22.out.writer 0).mono ?_
              rintro e w23 ⟨rfl, hw23⟩
              rw [hw23]
              clear hw23 w23
              cases hf : tF.ws 0 with
              | none =>
                rw [desk_none hf]
                clear hf
                go_wp2_with fail
                go_ret
                exact ⟨rfl, below_after HB0.out H22.out.below⟩
              | some r3 =>
                rw [show deskP pw (hasW tF) 0 = .pointer (some ⟨pw 0, 0, none⟩) from desk_some (k := 0) (by omega) hf]
                have HF : Hid (tF.ws ((0 : Nat) : Int) = some r3) := hf
                have HW3 : Hid (strOfNums (textL tF.b.chars) = s) := HN2.out r3 hf
                have HV3 : Hid (strOfNums (vw r3.list r3.seen r3.me) = s) := by show _ = _; rw [(HS2.out.text hf).2.2]; exact HW3.out
                clear hf HN2
                go_wp2_with fail
                refine (H22.out.wtext (k := 0) (by omega) HF.out).mono ?_
                rintro e w24 ⟨rfl, hb⟩
                rw [HV3.out]
                have H24 : Hid (DkAny w1.heap.size w1 (fun _ => False) D G pw tF w24) := H22.out.after hb
                clear hb H22
                have g0 := H24.out.cells.book
                have hlt0 := H24.out.cells.lt
                go_wp2_with fail
                clear g0 hlt0
                refine H24.out.text.mono ?_
                rintro e w25 ⟨rfl, hb⟩
                rw [HW3.out]
                have H25 : Hid (DkAny w1.heap.size w1 (fun _ => False) D G pw tF w25) := H24.out.after hb
                clear hb H24
                go_wp2_with fail
                go_roundw
                case rel => exact ⟨j + 1, tF, r3, s, pw, by omega, by go_num, rfl, ⟨HS2.out, HF.out, HW3.out⟩, H25.out⟩
                case measure => simp [intOf]; omega
          · have hb2 : (kind != 2) = true := by simp [hk2]
            have hb3 : (kind != 3) = true := by simp [hk3]
            go_wp2_with fail
            have H9 := HX.out.any
            go_roundw
            case rel => exact ⟨j + 1, t, r, s, pw, by omega, by go_num, rfl, HST.out, H9⟩
            case measure => simp [intOf]; omega
      · go_wp2_with fail
        go_ret
        exact ⟨rfl, below_after HB0.out HW.out.below⟩
  · go_wp2
    go_ret
    exact ⟨rfl, HB0.out⟩

theorem law_desksalone (w : World) {v : Value} {xs : List Tst} (h : TLst w v xs) :
    Calls Try.prog 9 #[v] w fun e w' => e = .returned (.bool true) ∧ Below w.heap.size w w' := desksAlone_any v xs w h

end Go.Proofs.Ytnabhdfodckpdac
