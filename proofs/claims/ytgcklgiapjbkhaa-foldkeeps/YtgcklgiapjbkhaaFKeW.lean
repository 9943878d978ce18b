/-
  The walk of the law FoldKeeps.
-/
import Derived.Test.YtgcklgiapjbkhaaFKeP
import Derived.Test.YtgcklgiapjbkhaaFSame
import Derived.Test.YtgcklgiapjbkhaaFSplP
import Derived.Test.YtgcklgiapjbkhaaOpen
import Derived.Test.YtgcklgiapjbkhaaFBig
import Derived.Deep.DeepCutAuto
import Derived.Lib.QuietBelow
namespace Go.Proofs.Ytgcklgiapjbkhaa
open Go.RowKit Go.Sort

/-- In the middle of the law: the deed, the list, and the list behind the deed. -/
structure KeInv (w : World) (d : Dd) (vl : Value) (l : List Ch) (vx : Value) (x : List Ch) (wk : World) : Prop where
  below : Below w.heap.size w wk
  d : DdAt wk w.heap.size 0 d
  lst : Lst wk vl l
  xs : Lst wk vx x

theorem KeInv.after {w wk w' : World} {d : Dd} {vl vx : Value} {l x : List Ch} (h : KeInv w d vl l vx x wk) (hb : Below wk.heap.size wk w') : KeInv w d vl l vx x w' :=
  ⟨below_after h.below hb, h.d.below hb, h.lst.below hb, h.xs.below hb⟩

theorem KeInv.drew {w wk : World} {d : Dd} {vl vx : Value} {l x : List Ch} (h : KeInv w d vl l vx x wk) : KeInv w d vl l vx x wk.drew := h.after (Below.refl _ _).drew

theorem KeInv.same {w wk : World} {d : Dd} {vl vx : Value} {l x : List Ch} (h : KeInv w d vl l vx x wk) (y z : Ch) :
    Calls Try.prog 20 #[chV y, chV z] wk fun e w' => e = .returned (.bool (sameB y z)) ∧ KeInv w d vl l vx x w' :=
  (refSame_any y z wk).mono fun _ _ ⟨he, hb⟩ => ⟨he, h.after hb⟩

/-- A byte in memory, in every world that has grown of it. -/
theorem at_regrown {w : World} {b o : Nat} {x : Ch} (h : At w b o x) :
    (∀ p : Regrown, (grow (redrawn w p.d) p.os).cell? ⟨b, o, none⟩ = some (.int .u8 x.c)) ∧ (∀ p : Regrown, (grow (redrawn w p.d) p.os).cell? ⟨b, o + 1, none⟩ = some (.int .i64 x.by_)) ∧ (∀ p : Regrown, (grow (redrawn w p.d) p.os).cell? ⟨b, o + 2, none⟩ = some (.int .i64 x.no)) ∧
    (∀ p : Regrown, (grow (redrawn w p.d) p.os).cell? ⟨b, o + 3, none⟩ = some (.int .i64 x.k)) ∧ (∀ p : Regrown, (grow (redrawn w p.d) p.os).cell? ⟨b, o + 4, none⟩ = some (.int .i64 x.inn)) ∧ (∀ p : Regrown, (grow (redrawn w p.d) p.os).cell? ⟨b, o + 5, none⟩ = some (.int .i64 x.out)) ∧
    (∀ p : Regrown, (grow (redrawn w p.d) p.os).cell? ⟨b, o + 6, none⟩ = some (.int .i64 x.gone)) := by
  obtain ⟨h0, h1, h2, h3, h4, h5, h6⟩ := h
  exact ⟨fun p => cell_regrown h0 _ _, fun p => cell_regrown h1 _ _, fun p => cell_regrown h2 _ _, fun p => cell_regrown h3 _ _, fun p => cell_regrown h4 _ _, fun p => cell_regrown h5 _ _, fun p => cell_regrown h6 _ _⟩

theorem refSame_is {y z : Ch} {b : Bool} (h : sameB y z = b) (w : World) : Calls Try.prog 20 #[chV y, chV z] w fun e w' => e = .returned (.bool b) ∧ Below w.heap.size w w' := by
  rw [← h]
  exact refSame_any y z w

abbrev chObj (x : Ch) : Obj := .cells #[.int .u8 x.c, .int .i64 x.by_, .int .i64 x.no, .int .i64 x.k, .int .i64 x.inn, .int .i64 x.out, .int .i64 x.gone] 28

theorem at_start (w : World) (x : Ch) : At (w.alloc (chObj x)) w.heap.size 0 x := by
  refine ⟨?_, ?_, ?_, ?_, ?_, ?_, ?_⟩ <;> simp [go_sem]

theorem At.below {w w' : World} {b o : Nat} {x : Ch} (h : At w b o x) (hl : b < w.heap.size) (hb : Below w.heap.size w w') : At w' b o x := by
  obtain ⟨hc, _⟩ := bcell hb
  obtain ⟨h0, h1, h2, h3, h4, h5, h6⟩ := h
  refine ⟨?_, ?_, ?_, ?_, ?_, ?_, ?_⟩ <;> rw [hc _ _ hl] <;> assumption

/-- In the middle of the inner loop: one byte beside it; two. -/
structure Y1Inv (w : World) (d : Dd) (vl : Value) (l : List Ch) (vx : Value) (x : List Ch) (Y : Nat) (a : Ch) (wk : World) : Prop where
  k : KeInv w d vl l vx x wk
  lt : Y < wk.heap.size
  y : At wk Y 0 a

structure YInv (w : World) (d : Dd) (vl : Value) (l : List Ch) (vx : Value) (x : List Ch) (Y Z : Nat) (a b : Ch) (wk : World) : Prop where
  k : KeInv w d vl l vx x wk
  lt : Y < wk.heap.size
  lz : Z < wk.heap.size
  y : At wk Y 0 a
  z : At wk Z 0 b

theorem YInv.after {w wk w' : World} {d : Dd} {vl vx : Value} {l x : List Ch} {Y Z : Nat} {a b : Ch} (h : YInv w d vl l vx x Y Z a b wk) (hb : Below wk.heap.size wk w') : YInv w d vl l vx x Y Z a b w' :=
  ⟨h.k.after hb, Nat.lt_of_lt_of_le h.lt hb.size, Nat.lt_of_lt_of_le h.lz hb.size, h.y.below h.lt hb, h.z.below h.lz hb⟩

theorem y1_start {w wk : World} {d : Dd} {vl vx : Value} {l x : List Ch} (h : KeInv w d vl l vx x wk) (a : Ch) : Y1Inv w d vl l vx x wk.heap.size a (wk.alloc (chObj a)) :=
  ⟨h.after ((Below.refl _ _).alloc (Nat.le_refl _) _), by simp, at_start wk a⟩

theorem Y1Inv.two {w wk : World} {d : Dd} {vl vx : Value} {l x : List Ch} {Y : Nat} {a : Ch} (h : Y1Inv w d vl l vx x Y a wk) (b : Ch) : YInv w d vl l vx x Y wk.heap.size a b (wk.alloc (chObj b)) := by
  have h1 : Below wk.heap.size wk (wk.alloc (chObj b)) := (Below.refl _ _).alloc (Nat.le_refl _) _
  exact ⟨h.k.after h1, Nat.lt_of_lt_of_le h.lt h1.size, by simp, h.y.below h.lt h1, at_start wk b⟩

/-- A Bool that is true under a condition. -/
def PickR (c : Prop) (v : Value) : Prop := ∃ r, v = .bool r ∧ (c → r = true)

theorem took_is {g n : Int} {b : Bool} (h : tookB g n = b) (h0 : -9223372036854775808 ≤ g) (h1 : g ≤ 9223372036854775807) (w : World) : Calls Try.prog 16 #[.int .i64 g, .int .i64 n] w fun e w' => e = .returned (.bool b) ∧ w' = w := by
  rw [← h]
  exact refTook_any g n w h0 h1

/-- What the first loop's test comes to. -/
def Pre1 (w : World) (d : Dd) (vl : Value) (l : List Ch) (vx : Value) (x : List Ch) (k : Nat) (s : Value) (wx : World) : Prop :=
  ∃ b, s = .bool b ∧ (b = true → k < l.length) ∧ (b = false → placeK l d ≤ k) ∧ KeInv w d vl l vx x wx

theorem run_range_val (a : Option Addr) (len cap m t : Nat) (hk : m + t ≤ cap) (w : World) : (Instr.sliceAt 22 (.slice a len cap) (some (.int .i64 m)) (some (.int .i64 ((m : Int) + t))) none).run Try.prog w = .ok (sliced a m (m + t) cap 7) w := by
  rw [run_sliceAt_slice _ _ _ _ _ _ und_chars, run_slice_lh _ _ _ _ _ und_chars _ _ _ _ (by omega) (by omega) (by omega), elem_chars, size_char]
  rw [show ((m : Int) + t).toNat = m + t by omega]
  rfl

theorem lst_range {w : World} {a : Option Addr} {cap : Nat} {l : List Ch} (h : Lst w (.slice a l.length cap) l) {m t : Nat} (hk : m + t ≤ l.length) : Lst w (sliced a m (m + t) cap 7) ((l.drop m).take t) := by
  obtain ⟨a', len, cap', he, h1, h2, h3⟩ := h
  simp only [Value.slice.injEq] at he
  obtain ⟨rfl, rfl, rfl⟩ := he
  refine ⟨_, m + t - m, cap - m, rfl, by rw [List.length_take, List.length_drop]; omega, by omega, ?_⟩
  rcases h3 with h3 | ⟨b, off, rfl, hr⟩
  · exact .inl (by omega)
  · by_cases hc : cap = m
    · exact .inl (by omega)
    · rw [if_neg hc]
      exact .inr ⟨b, off + m * 7, by simp [addr_add], (hr.drop' m).take t⟩

set_option maxRecDepth 20000 in
set_option maxHeartbeats 800000 in
theorem keeps_great (l : List Ch) (d : Dd) (number : Int) (v : Value) (w : World) (h : Lst w v l) (hg : 300 < l.length ∨ 100 < d.text.size) :
    Calls Try.prog 7 #[v, ddV d, .int .i64 number] w fun e w' => e = .returned (.bool true) ∧ Below w.heap.size w w' := by
  have HI : Hid (MInv w w.heap.size d v l (w.alloc (dObj d))) := minv_start h
  obtain ⟨ad, cap, rfl, hcap⟩ := h.len
  obtain ⟨kind, by_, no, seen, at_, many, text⟩ := d
  simp only at hg
  clear h
  by_cases h1 : 300 < l.length
  · go_enter Try.func7, Try.ntmps7
    go_wp2_with fail
    refine (fbegun_any _).mono ?_
    rintro e w1 ⟨rfl, hb1⟩
    have HI1 : Hid _ := HI.out.after hb1
    clear hb1 HI
    obtain ⟨_, c0, c1, c2, c3, c4, c5, c6⟩ := HI1.out.at_
    simp only [Nat.zero_add] at c0 c1 c2 c3 c4 c5 c6
    go_wp2
    go_ret
    exact ⟨rfl, HI1.out.below⟩
  · have h2 : 100 < text.size := by omega
    go_enter Try.func7, Try.ntmps7
    go_wp2_with fail
    refine (fbegun_any _).mono ?_
    rintro e w1 ⟨rfl, hb1⟩
    have HI1 : Hid _ := HI.out.after hb1
    clear hb1 HI
    obtain ⟨_, c0, c1, c2, c3, c4, c5, c6⟩ := HI1.out.at_
    simp only [Nat.zero_add] at c0 c1 c2 c3 c4 c5 c6
    go_wp2
    go_ret
    exact ⟨rfl, HI1.out.below⟩

set_option maxRecDepth 20000 in
set_option maxHeartbeats 800000 in
theorem keeps_code (l : List Ch) (d : Dd) (number : Int) (v : Value) (w : World) (h : Lst w v l) (hf : FitsL l) (hl : l.length ≤ 300) (ht : d.text.size ≤ 100) (hc : doC l d number ≠ 0) :
    Calls Try.prog 7 #[v, ddV d, .int .i64 number] w fun e w' => e = .returned (.bool true) ∧ Below w.heap.size w w' := by
  have HI : Hid (MInv w w.heap.size d v l (w.alloc (dObj d))) := minv_start h
  obtain ⟨ad, cap, rfl, hcap⟩ := h.len
  obtain ⟨kind, by_, no, seen, at_, many, text⟩ := d
  simp only at ht
  have hne : (doC l ⟨kind, by_, no, seen, at_, many, text⟩ number != 0) = true := by simp [hc]
  clear h hc
  go_enter Try.func7, Try.ntmps7
  go_wp2_with fail
  refine (fbegun_any _).mono ?_
  rintro e w1 ⟨rfl, hb1⟩
  have HI1 : Hid _ := HI.out.after hb1
  clear hb1 HI
  obtain ⟨_, c0, c1, c2, c3, c4, c5, c6⟩ := HI1.out.at_
  simp only [Nat.zero_add] at c0 c1 c2 c3 c4 c5 c6
  go_wp2_with fail
  clear c0 c1 c2 c3 c4 c5 c6
  refine (do_any l ⟨kind, by_, no, seen, at_, many, text⟩ number _ _ HI1.out.lst (by omega) hf).mono ?_
  rintro e w3 ⟨v3, rfl, ho3, hb3⟩
  have HI3 : Hid _ := HI1.out.after hb3
  clear hb3 ho3 HI1
  generalize doC l ⟨kind, by_, no, seen, at_, many, text⟩ number = c at *
  go_wp2
  go_ret
  exact ⟨rfl, HI3.out.below⟩

set_option maxRecDepth 20000 in
set_option maxHeartbeats 6400000 in
theorem keeps_some (l : List Ch) (d : Dd) (number : Int) (v : Value) (w : World) (h : Lst w v l) (hf : FitsL l) (hl : l.length ≤ 300) (ht : d.text.size ≤ 100) (hc : doC l d number = 0) :
    Calls Try.prog 7 #[v, ddV d, .int .i64 number] w fun e w' => e = .returned (.bool true) ∧ Below w.heap.size w w' := by
  have HI : Hid (MInv w w.heap.size d v l (w.alloc (dObj d))) := minv_start h
  obtain ⟨ad, cap, rfl, hcap⟩ := h.len
  have hxl0 : (doL l d number).length = l.length + d.text.size := doL_len (fun hk => (check_parts (doC_zero hc).1).2.2.2.2.2.2.2.2.2.2.2 hk)
  have HCK : Hid (checkC d = 0) := (doC_zero hc).1
  have hlt : l.length + d.text.size ≤ 200 := (doC_zero hc).2.2.1
  have hpk := (keeps_place hc).1
  have hfx0 : FitsL (doL l d number) := fits_do hf (doC_zero hc).1
  obtain ⟨kind, by_, no, seen, at_, many, text⟩ := d
  simp only at ht hxl0 hlt
  clear h
  go_enter Try.func7, Try.ntmps7
  go_wp2_with fail
  refine (fbegun_any _).mono ?_
  rintro e w1 ⟨rfl, hb1⟩
  have HI1 : Hid _ := HI.out.after hb1
  clear hb1 HI
  obtain ⟨_, c0, c1, c2, c3, c4, c5, c6⟩ := HI1.out.at_
  simp only [Nat.zero_add] at c0 c1 c2 c3 c4 c5 c6
  go_wp2_with fail
  clear c0 c1 c2 c3 c4 c5 c6
  refine (do_any l ⟨kind, by_, no, seen, at_, many, text⟩ number _ _ HI1.out.lst (by omega) hf).mono ?_
  rintro e w3 ⟨v3, rfl, ho3, hb3⟩
  rw [hc]
  have e3 : doR l ⟨kind, by_, no, seen, at_, many, text⟩ number = doL l ⟨kind, by_, no, seen, at_, many, text⟩ number := by rw [doR, if_pos hc]
  rw [e3] at ho3
  obtain ⟨x, hx⟩ : ∃ x, x = doL l ⟨kind, by_, no, seen, at_, many, text⟩ number := ⟨_, rfl⟩
  have HXE : Hid (x = doL l ⟨kind, by_, no, seen, at_, many, text⟩ number) := hx
  rw [← hx] at ho3 hxl0 hfx0
  have HFX : Hid (FitsL x) := hfx0
  clear hfx0
  obtain ⟨a3, cap3, rfl, hcap3⟩ := ho3.lst.len
  have HI3 : Hid (KeInv w ⟨kind, by_, no, seen, at_, many, text⟩ (.slice ad l.length cap) l (.slice a3 x.length cap3) x w3) := ⟨(HI1.out.after hb3).below, (HI1.out.after hb3).at_, (HI1.out.after hb3).lst, ho3.lst⟩
  clear hb3 ho3 HI1 e3 hx
  have HXL : Hid (x.length = l.length + text.size) := hxl0
  have hx2 : ((x.length : Int) != (l.length : Int) + (text.size : Int)) = false := by simp; omega
  clear hxl0
  obtain ⟨_, c0, c1, c2, c3, c4, c5, c6⟩ := HI3.out.d
  simp only [Nat.zero_add] at c0 c1 c2 c3 c4 c5 c6
  go_wp2
  clear c0 c1 c2 c3 c4 c5 c6
  go_loopw [9] (fun i wr => ∃ k : Nat, k ≤ l.length ∧ i = .int .i64 k ∧ Hid (KeInv w ⟨kind, by_, no, seen, at_, many, text⟩ (.slice ad l.length cap) l (.slice a3 x.length cap3) x wr)) (fun i _ => l.length - (intOf i).toNat)
  case atStart => exact ⟨0, Nat.zero_le _, rfl, HI3⟩
  case round =>
    obtain ⟨k, hk, rfl, HI4⟩ := hrel
    clear HI3
    go_upto_region 11 with fail
    go_cut [86] (fun s wx => Pre1 w ⟨kind, by_, no, seen, at_, many, text⟩ (.slice ad l.length cap) l (.slice a3 x.length cap3) x k s wx)
    case first =>
      as_aux_lemma =>
        by_cases hkl : k < l.length
        · have hkx : k < x.length := by have := HXL.out; omega
          have hki : (k : Int) < (l.length : Int) := by omega
          have hki2 : (k : Int) < (x.length : Int) := by omega
          obtain ⟨b1, o1, rfl, _, _⟩ := HI4.out.lst.row (by omega)
          obtain ⟨b2, o2, rfl, _, _⟩ := HI4.out.xs.row (by omega)
          obtain ⟨z, hz⟩ : ∃ z, z = l[k] := ⟨_, rfl⟩
          obtain ⟨y, hy⟩ : ∃ y, y = x[k] := ⟨_, rfl⟩
          have HLK : Hid (z = l[k]) := hz
          have HXK : Hid (y = x[k]) := hy
          clear hz hy
          have HPL : Hid (preB y z = false → placeK l ⟨kind, by_, no, seen, at_, many, text⟩ ≤ k) := fun hp => by
            rcases Nat.lt_or_ge k (placeK l ⟨kind, by_, no, seen, at_, many, text⟩) with h1 | h1
            · have h2 := keeps_pre hc h1 (y := y) (old := z) (by rw [← HXE.out, HXK.out]; exact List.getElem?_eq_getElem hkx) (by rw [HLK.out]; exact List.getElem?_eq_getElem hkl)
              rw [hp] at h2
              cases h2
            · exact h1
          have gz := at_regrown (HI4.out.lst.nth hkl)
          have gy := at_regrown (HI4.out.xs.nth hkx)
          rw [← HLK.out] at gz
          rw [← HXK.out] at gy
          obtain ⟨z0, z1, z2, z3, z4, z5, z6⟩ := gz
          obtain ⟨y0, y1, y2, y3, y4, y5, y6⟩ := gy
          clear hc
          by_cases q1 : y.c = z.c
          · have q1' : (y.c == z.c) = true := by simp [q1]
            cases q2 : sameB y z
            · have hpre : preB y z = false := by simp [preB, q2]
              have HSM : Hid (sameB y z = false) := q2
              clear q1 q2
              refine wp_region_quiet_below (by kernel_rfl) (by kernel_rfl) ?_
              repeat (go_big_quiet_step ((go_at_call 20; exact Calls.regrown_of (refSame_is HSM.out _))))
              refine wpQuiet_nil ?_
              rintro w5 ⟨p, rfl⟩
              go_wp2
              go_meet
              exact ⟨false, rfl, fun e => (by cases e), fun _ => HPL.out hpre, HI4.out.after (below_regrown _ _ _)⟩
            · have HSM : Hid (sameB y z = true) := q2
              by_cases q3 : y.inn = z.inn
              · have q3' : (y.inn == z.inn) = true := by simp [q3]
                clear q1 q2 q3
                refine wp_region_quiet_below (by kernel_rfl) (by kernel_rfl) ?_
                repeat (go_big_quiet_step ((go_at_call 20; exact Calls.regrown_of (refSame_is HSM.out _))))
                refine wpQuiet_nil ?_
                rintro w5 ⟨p, rfl⟩
                go_wp2
                go_meet
                exact ⟨true, rfl, fun _ => hkl, fun e => (by cases e), HI4.out.after (below_regrown _ _ _)⟩
              · have q3' : (y.inn == z.inn) = false := by simp [q3]
                have hpre : preB y z = false := by simp [preB, q3]
                clear q1 q2 q3
                refine wp_region_quiet_below (by kernel_rfl) (by kernel_rfl) ?_
                repeat (go_big_quiet_step ((go_at_call 20; exact Calls.regrown_of (refSame_is HSM.out _))))
                refine wpQuiet_nil ?_
                rintro w5 ⟨p, rfl⟩
                go_wp2
                go_meet
                exact ⟨false, rfl, fun e => (by cases e), fun _ => HPL.out hpre, HI4.out.after (below_regrown _ _ _)⟩
          · have q1' : (y.c == z.c) = false := by simp [q1]
            have hpre : preB y z = false := by simp [preB, q1]
            clear q1
            refine wp_region_quiet_below (by kernel_rfl) (by kernel_rfl) ?_
            repeat (go_big_quiet_step ((go_at_call 20; exact Calls.regrown_of (refSame_is HSM.out _))))
            refine wpQuiet_nil ?_
            rintro w5 ⟨p, rfl⟩
            go_wp2
            go_meet
            exact ⟨false, rfl, fun e => (by cases e), fun _ => HPL.out hpre, HI4.out.after (below_regrown _ _ _)⟩
        · have hkf : decide ((k : Int) < (l.length : Int)) = false := decide_eq_false (by omega)
          go_quiet (fail)
          go_wp2
          go_meet
          exact ⟨false, rfl, fun e => (by cases e), fun _ => (by have := (keeps_place hc).1; omega), HI4.out.after (below_drewN (Below.refl _ _) _)⟩
    case rest =>
      obtain ⟨b, rfl, hb1, hb2, hI5⟩ := hcut
      have HI5 : Hid (KeInv w ⟨kind, by_, no, seen, at_, many, text⟩ (.slice ad l.length cap) l (.slice a3 x.length cap3) x wc) := hI5
      clear hI5 HI4
      cases b
      · have hp5 := hb2 rfl
        clear hb1 hb2
        go_wp2
        go_loopw [10] (fun f wr => ∃ m : Nat, f = .int .i64 m ∧ placeK l ⟨kind, by_, no, seen, at_, many, text⟩ ≤ m ∧ m ≤ l.length ∧ Hid (KeInv w ⟨kind, by_, no, seen, at_, many, text⟩ (.slice ad l.length cap) l (.slice a3 x.length cap3) x wr)) (fun f _ => (intOf f).toNat)
        case atStart => exact ⟨k, rfl, hp5, hk, HI5⟩
        case round =>
          obtain ⟨m, rfl, hm1, hm2, HI6⟩ := hrel
          clear HI5
          go_wp2
          go_loopw [11, 12] (fun o i wr => ∃ (j : Nat) (b : Bool), o = .bool b ∧ i = .int .i64 j ∧ j ≤ l.length ∧ Hid (b = keepTo l x ⟨kind, by_, no, seen, at_, many, text⟩ m j) ∧ Hid (KeInv w ⟨kind, by_, no, seen, at_, many, text⟩ (.slice ad l.length cap) l (.slice a3 x.length cap3) x wr)) (fun _ i _ => l.length - (intOf i).toNat)
          case atStart => exact ⟨0, true, rfl, rfl, Nat.zero_le _, rfl, HI6⟩
          case round =>
            obtain ⟨j, b, rfl, rfl, hj, HB, HI7⟩ := hrel
            clear HI6
            by_cases hjl : j < l.length
            · cases b
              · have hji : (j : Int) < (l.length : Int) := by omega
                as_aux_lemma =>
                  have hgt : placeK l ⟨kind, by_, no, seen, at_, many, text⟩ < m := by
                    rcases Nat.lt_or_ge (placeK l ⟨kind, by_, no, seen, at_, many, text⟩) m with h1 | h1
                    · exact h1
                    · exfalso
                      have e : m = placeK l ⟨kind, by_, no, seen, at_, many, text⟩ := by omega
                      have h2 := keepTo_le (m := l.length) HB.out.symm hj
                      rw [e, HXE.out, keeps_to hc] at h2
                      cases h2
                  go_wp2
                  go_quiet (fail)
                  go_wp2
                  go_roundw
                  case rel => exact ⟨m - 1, by go_num, by omega, by omega, HI7.out.after (below_drewN (Below.refl _ _) _)⟩
                  case measure => simp [intOf]; omega
              · have hyx : shiftAt m text.size j < x.length := by have := HXL.out; unfold shiftAt; split <;> omega
                obtain ⟨b1, o1, rfl, _, r1⟩ := HI7.out.lst.row (by omega)
                obtain ⟨b2, o2, rfl, _, r2⟩ := HI7.out.xs.row (by omega)
                have hb1 := r1.lt
                have hb2 := r2.lt
                clear r1 r2
                obtain ⟨z, hz⟩ : ∃ z, z = l[j] := ⟨_, rfl⟩
                obtain ⟨y, hy⟩ : ∃ y, y = x[shiftAt m text.size j] := ⟨_, rfl⟩
                have HKA : Hid (keepAt l x ⟨kind, by_, no, seen, at_, many, text⟩ m j = (preB y z && fellB ⟨kind, by_, no, seen, at_, many, text⟩ y z)) := by
                  show keepAt l x ⟨kind, by_, no, seen, at_, many, text⟩ m j = _
                  unfold keepAt
                  rw [List.getElem?_eq_getElem hjl, List.getElem?_eq_getElem hyx, ← hz, ← hy]
                  rfl
                have HGF : Hid (-9223372036854775808 ≤ y.gone ∧ y.gone ≤ 9223372036854775807) := by rw [hy]; exact HFX.out _ (List.getElem_mem hyx)
                have HAZ : Hid (At wr b1 (o1 + j * 7) z) := by rw [hz]; exact HI7.out.lst.nth hjl
                have HAY : Hid (At wr b2 (o2 + shiftAt m text.size j * 7) y) := by rw [hy]; exact HI7.out.xs.nth hyx
                have hjx : j < x.length := by have := HXL.out; omega
                have HAJ : Hid (At wr b2 (o2 + j * 7) x[j]) := HI7.out.xs.nth hjx
                have hji : (j : Int) < (l.length : Int) := by omega
                have hji2 : (j : Int) < (x.length : Int) := by omega
                have HZE : Hid (z = l[j]) := hz
                have HXJ : Hid (¬ m ≤ j → x[j] = y) := fun hjm => by
                  have e : shiftAt m text.size j = j := if_neg hjm
                  rw [hy]
                  simp only [e]
                generalize x[j] = xj at HAJ HXJ
                clear hz hy
                obtain ⟨x0, x1, x2, x3, x4, x5, x6⟩ := HAJ.out
                go_upto_if 109 with fail
                clear x0 x1 x2 x3 x4 x5 x6
                go_cut [13] (fun s wx => s = .pointer (some ⟨wr.heap.size, 0, none⟩) ∧ Y1Inv w ⟨kind, by_, no, seen, at_, many, text⟩ (.slice (some ⟨b1, o1, none⟩) l.length cap) l (.slice (some ⟨b2, o2, none⟩) x.length cap3) x wr.heap.size y wx)
                case first =>
                  as_aux_lemma =>
                    by_cases hjm : m ≤ j
                    · have hjm' : (m : Int) ≤ (j : Int) := by omega
                      have hsh : shiftAt m text.size j = j + text.size := if_pos hjm
                      have hjt : (j : Int) + (text.size : Int) < (x.length : Int) := by have := HXL.out; omega
                      rw [hsh] at HAY
                      obtain ⟨y0, y1, y2, y3, y4, y5, y6⟩ := HAY.out
                      obtain ⟨_, c0, c1, c2, c3, c4, c5, c6⟩ := HI7.out.d
                      simp only [Nat.zero_add] at c1 c2 c3 c4 c5 c6
                      clear hsh hjm
                      go_wp2
                      go_meet
                      exact ⟨rfl, y1_start HI7.out y⟩
                    · have hjm' : (j : Int) < (m : Int) := by omega
                      obtain rfl : xj = y := HXJ.out hjm
                      clear hjm
                      go_wp2
                      go_meet
                      exact ⟨rfl, y1_start HI7.out xj⟩
                case rest =>
                  obtain ⟨rfl, hY7⟩ := hcut
                  have HY7 : Hid (Y1Inv w ⟨kind, by_, no, seen, at_, many, text⟩ (.slice (some ⟨b1, o1, none⟩) l.length cap) l (.slice (some ⟨b2, o2, none⟩) x.length cap3) x wr.heap.size y wc) := hY7
                  have HAZ2 : Hid (At wc b1 (o1 + j * 7) z) := by rw [HZE.out]; exact HY7.out.k.lst.nth hjl
                  clear hY7 HI7 HAY HAZ HAJ
                  generalize wr.heap.size = Y at *
                  obtain ⟨z0, z1, z2, z3, z4, z5, z6⟩ := HAZ2.out
                  go_upto_region 24 with fail
                  clear z0 z1 z2 z3 z4 z5 z6
                  have HY8 : Hid (YInv w ⟨kind, by_, no, seen, at_, many, text⟩ (.slice (some ⟨b1, o1, none⟩) l.length cap) l (.slice (some ⟨b2, o2, none⟩) x.length cap3) x Y wc.heap.size y z (wc.alloc (chObj z))) := HY7.out.two z
                  unfold chObj at HY8
                  clear HY7 HAZ2
                  generalize hw8 : wc.alloc _ = w8 at HY8 ⊢
                  generalize wc.heap.size = Z at *
                  clear hw8
                  go_cut [15] (fun s wx => s = .bool (preB y z) ∧ YInv w ⟨kind, by_, no, seen, at_, many, text⟩ (.slice (some ⟨b1, o1, none⟩) l.length cap) l (.slice (some ⟨b2, o2, none⟩) x.length cap3) x Y Z y z wx)
                  case first =>
                    as_aux_lemma =>
                      obtain ⟨y0, y1, y2, y3, y4, y5, y6⟩ := HY8.out.y
                      obtain ⟨z0, z1, z2, z3, z4, z5, z6⟩ := HY8.out.z
                      obtain ⟨_, c0, c1, c2, c3, c4, c5, c6⟩ := HY8.out.k.d
                      simp only [Nat.zero_add] at y1 y2 y3 y4 y5 y6 z1 z2 z3 z4 z5 z6 c1 c2 c3 c4 c5 c6
                      by_cases q1 : y.c = z.c
                      · have q1' : (y.c == z.c) = true := by simp [q1]
                        cases q2 : sameB y z
                        · have HSM : Hid (sameB y z = false) := q2
                          have HQ1 : Hid (y.c = z.c) := q1
                          clear q1 q2
                          go_wp2_with fail
                          clear y0 y1 y2 y3 y4 y5 y6 z0 z1 z2 z3 z4 z5 z6 c0 c1 c2 c3 c4 c5 c6
                          refine (refSame_is HSM.out _).mono ?_
                          rintro e w9 ⟨rfl, hb9⟩
                          have HY9 : Hid (YInv w ⟨kind, by_, no, seen, at_, many, text⟩ (.slice (some ⟨b1, o1, none⟩) l.length cap) l (.slice (some ⟨b2, o2, none⟩) x.length cap3) x Y Z y z w9) := HY8.out.after hb9
                          clear hb9 HY8
                          obtain ⟨y0, y1, y2, y3, y4, y5, y6⟩ := HY9.out.y
                          obtain ⟨z0, z1, z2, z3, z4, z5, z6⟩ := HY9.out.z
                          obtain ⟨_, c0, c1, c2, c3, c4, c5, c6⟩ := HY9.out.k.d
                          simp only [Nat.zero_add] at y1 y2 y3 y4 y5 y6 z1 z2 z3 z4 z5 z6 c1 c2 c3 c4 c5 c6
                          go_wp2
                          go_meet
                          exact ⟨congrArg Value.bool (show _ = preB y z by simp [preB, HSM.out]), HY9.out⟩
                        · have HSM : Hid (sameB y z = true) := q2
                          have HQ1 : Hid (y.c = z.c) := q1
                          clear q1 q2
                          by_cases q3 : y.inn = z.inn
                          · have q3' : (y.inn == z.inn) = true := by simp [q3]
                            have HQ3 : Hid (y.inn = z.inn) := q3
                            clear q3
                            go_wp2_with fail
                            clear y0 y1 y2 y3 y4 y5 y6 z0 z1 z2 z3 z4 z5 z6 c0 c1 c2 c3 c4 c5 c6
                            refine (refSame_is HSM.out _).mono ?_
                            rintro e w9 ⟨rfl, hb9⟩
                            have HY9 : Hid (YInv w ⟨kind, by_, no, seen, at_, many, text⟩ (.slice (some ⟨b1, o1, none⟩) l.length cap) l (.slice (some ⟨b2, o2, none⟩) x.length cap3) x Y Z y z w9) := HY8.out.after hb9
                            clear hb9 HY8
                            obtain ⟨y0, y1, y2, y3, y4, y5, y6⟩ := HY9.out.y
                            obtain ⟨z0, z1, z2, z3, z4, z5, z6⟩ := HY9.out.z
                            obtain ⟨_, c0, c1, c2, c3, c4, c5, c6⟩ := HY9.out.k.d
                            simp only [Nat.zero_add] at y1 y2 y3 y4 y5 y6 z1 z2 z3 z4 z5 z6 c1 c2 c3 c4 c5 c6
                            go_wp2
                            go_meet
                            exact ⟨congrArg Value.bool (show _ = preB y z by simp [preB, HQ1.out, HSM.out, HQ3.out]), HY9.out⟩
                          · have q3' : (y.inn == z.inn) = false := by simp [q3]
                            have HQ3 : Hid (¬ y.inn = z.inn) := q3
                            clear q3
                            go_wp2_with fail
                            clear y0 y1 y2 y3 y4 y5 y6 z0 z1 z2 z3 z4 z5 z6 c0 c1 c2 c3 c4 c5 c6
                            refine (refSame_is HSM.out _).mono ?_
                            rintro e w9 ⟨rfl, hb9⟩
                            have HY9 : Hid (YInv w ⟨kind, by_, no, seen, at_, many, text⟩ (.slice (some ⟨b1, o1, none⟩) l.length cap) l (.slice (some ⟨b2, o2, none⟩) x.length cap3) x Y Z y z w9) := HY8.out.after hb9
                            clear hb9 HY8
                            obtain ⟨y0, y1, y2, y3, y4, y5, y6⟩ := HY9.out.y
                            obtain ⟨z0, z1, z2, z3, z4, z5, z6⟩ := HY9.out.z
                            obtain ⟨_, c0, c1, c2, c3, c4, c5, c6⟩ := HY9.out.k.d
                            simp only [Nat.zero_add] at y1 y2 y3 y4 y5 y6 z1 z2 z3 z4 z5 z6 c1 c2 c3 c4 c5 c6
                            go_wp2
                            go_meet
                            exact ⟨congrArg Value.bool (show _ = preB y z by simp [preB, HQ3.out]), HY9.out⟩
                      · have q1' : (y.c == z.c) = false := by simp [q1]
                        have HQ1 : Hid (¬ y.c = z.c) := q1
                        clear q1
                        go_wp2
                        go_meet
                        exact ⟨congrArg Value.bool (show _ = preB y z by simp [preB, HQ1.out]), HY8.out⟩
                  case rest =>
                    obtain ⟨rfl, hY10⟩ := hcut
                    have HY10 : Hid (YInv w ⟨kind, by_, no, seen, at_, many, text⟩ (.slice (some ⟨b1, o1, none⟩) l.length cap) l (.slice (some ⟨b2, o2, none⟩) x.length cap3) x Y Z y z wc) := hY10
                    clear hY10 HY8
                    generalize hp10 : preB y z = p at HKA ⊢
                    clear hp10
                    go_upto_region 25 with fail
                    go_cut [16] (fun s wx => s = .bool (fellB ⟨kind, by_, no, seen, at_, many, text⟩ y z) ∧ YInv w ⟨kind, by_, no, seen, at_, many, text⟩ (.slice (some ⟨b1, o1, none⟩) l.length cap) l (.slice (some ⟨b2, o2, none⟩) x.length cap3) x Y Z y z wx)
                    case first =>
                      as_aux_lemma =>
                        have HY8 := HY10
                        clear HY10
                        obtain ⟨y0, y1, y2, y3, y4, y5, y6⟩ := HY8.out.y
                        obtain ⟨z0, z1, z2, z3, z4, z5, z6⟩ := HY8.out.z
                        obtain ⟨_, c0, c1, c2, c3, c4, c5, c6⟩ := HY8.out.k.d
                        simp only [Nat.zero_add] at y1 y2 y3 y4 y5 y6 z1 z2 z3 z4 z5 z6 c1 c2 c3 c4 c5 c6
                        by_cases g1 : y.gone = z.gone
                        · have g1' : (y.gone == z.gone) = true := by simp [g1]
                          have HG1 : Hid (decide (y.gone = z.gone) = true) := decide_eq_true g1
                          clear g1
                          by_cases p1 : y.out = z.out
                          · have p1' : (y.out == z.out) = true := by simp [p1]
                            have HP1 : Hid (decide (y.out = z.out) = true) := decide_eq_true p1
                            clear p1
                            go_wp2
                            go_meet
                            refine ⟨congrArg Value.bool (show _ = ((decide (y.gone = z.gone) && decide (y.out = z.out)) || (decide (kind = 2) && (tookB y.gone by_ && (decide (y.out = z.out) || (decide (z.out = 0) || decide (y.out < z.out)))))) from ?_), HY8.out⟩
                            rw [HG1.out, HP1.out]
                            rfl
                          · have p1' : (y.out == z.out) = false := by simp [p1]
                            have HP1 : Hid (decide (y.out = z.out) = false) := decide_eq_false p1
                            clear p1
                            by_cases k2 : kind = 2
                            · have k2' : (kind == 2) = true := by simp [k2]
                              have HK2 : Hid (decide (kind = 2) = true) := decide_eq_true k2
                              clear k2
                              cases tk : tookB y.gone by_
                              · have HTK : Hid (tookB y.gone by_ = false) := tk
                                clear tk
                                go_wp2_with fail
                                refine (took_is HTK.out HGF.out.1 HGF.out.2 _).mono ?_
                                rintro e w9 ⟨rfl, rfl⟩
                                go_wp2
                                go_meet
                                refine ⟨congrArg Value.bool (show _ = ((decide (y.gone = z.gone) && decide (y.out = z.out)) || (decide (kind = 2) && (tookB y.gone by_ && (decide (y.out = z.out) || (decide (z.out = 0) || decide (y.out < z.out)))))) from ?_), HY8.out⟩
                                rw [HG1.out, HK2.out, HTK.out, HP1.out]
                                rfl
                              · have HTK : Hid (tookB y.gone by_ = true) := tk
                                clear tk
                                by_cases p2 : z.out = 0
                                · have p2' : (z.out == 0) = true := by simp [p2]
                                  have HP2 : Hid (decide (z.out = 0) = true) := decide_eq_true p2
                                  clear p2
                                  go_wp2_with fail
                                  refine (took_is HTK.out HGF.out.1 HGF.out.2 _).mono ?_
                                  rintro e w9 ⟨rfl, rfl⟩
                                  go_wp2
                                  go_meet
                                  refine ⟨congrArg Value.bool (show _ = ((decide (y.gone = z.gone) && decide (y.out = z.out)) || (decide (kind = 2) && (tookB y.gone by_ && (decide (y.out = z.out) || (decide (z.out = 0) || decide (y.out < z.out)))))) from ?_), HY8.out⟩
                                  rw [HG1.out, HP1.out, HP2.out, HK2.out, HTK.out]
                                  rfl
                                · have p2' : (z.out == 0) = false := by simp [p2]
                                  have HP2 : Hid (decide (z.out = 0) = false) := decide_eq_false p2
                                  clear p2
                                  go_wp2_with fail
                                  refine (took_is HTK.out HGF.out.1 HGF.out.2 _).mono ?_
                                  rintro e w9 ⟨rfl, rfl⟩
                                  go_wp2
                                  go_meet
                                  refine ⟨congrArg Value.bool (show _ = ((decide (y.gone = z.gone) && decide (y.out = z.out)) || (decide (kind = 2) && (tookB y.gone by_ && (decide (y.out = z.out) || (decide (z.out = 0) || decide (y.out < z.out)))))) from ?_), HY8.out⟩
                                  rw [HG1.out, HP1.out, HP2.out, HK2.out, HTK.out]
                                  rfl
                            · have k2' : (kind == 2) = false := by simp [k2]
                              have HK2 : Hid (decide (kind = 2) = false) := decide_eq_false k2
                              clear k2
                              go_wp2
                              go_meet
                              refine ⟨congrArg Value.bool (show _ = ((decide (y.gone = z.gone) && decide (y.out = z.out)) || (decide (kind = 2) && (tookB y.gone by_ && (decide (y.out = z.out) || (decide (z.out = 0) || decide (y.out < z.out)))))) from ?_), HY8.out⟩
                              rw [HG1.out, HK2.out, HP1.out]
                              rfl
                        · have g1' : (y.gone == z.gone) = false := by simp [g1]
                          have HG1 : Hid (decide (y.gone = z.gone) = false) := decide_eq_false g1
                          clear g1
                          by_cases k2 : kind = 2
                          · have k2' : (kind == 2) = true := by simp [k2]
                            have HK2 : Hid (decide (kind = 2) = true) := decide_eq_true k2
                            clear k2
                            cases tk : tookB y.gone by_
                            · have HTK : Hid (tookB y.gone by_ = false) := tk
                              clear tk
                              go_wp2_with fail
                              refine (took_is HTK.out HGF.out.1 HGF.out.2 _).mono ?_
                              rintro e w9 ⟨rfl, rfl⟩
                              go_wp2
                              go_meet
                              refine ⟨congrArg Value.bool (show _ = ((decide (y.gone = z.gone) && decide (y.out = z.out)) || (decide (kind = 2) && (tookB y.gone by_ && (decide (y.out = z.out) || (decide (z.out = 0) || decide (y.out < z.out)))))) from ?_), HY8.out⟩
                              rw [HG1.out, HK2.out, HTK.out]
                              rfl
                            · have HTK : Hid (tookB y.gone by_ = true) := tk
                              clear tk
                              by_cases p1 : y.out = z.out
                              · have p1' : (y.out == z.out) = true := by simp [p1]
                                have HP1 : Hid (decide (y.out = z.out) = true) := decide_eq_true p1
                                clear p1
                                go_wp2_with fail
                                refine (took_is HTK.out HGF.out.1 HGF.out.2 _).mono ?_
                                rintro e w9 ⟨rfl, rfl⟩
                                go_wp2
                                go_meet
                                refine ⟨congrArg Value.bool (show _ = ((decide (y.gone = z.gone) && decide (y.out = z.out)) || (decide (kind = 2) && (tookB y.gone by_ && (decide (y.out = z.out) || (decide (z.out = 0) || decide (y.out < z.out)))))) from ?_), HY8.out⟩
                                rw [HG1.out, HP1.out, HK2.out, HTK.out]
                                rfl
                              · have p1' : (y.out == z.out) = false := by simp [p1]
                                have HP1 : Hid (decide (y.out = z.out) = false) := decide_eq_false p1
                                clear p1
                                by_cases p2 : z.out = 0
                                · have p2' : (z.out == 0) = true := by simp [p2]
                                  have HP2 : Hid (decide (z.out = 0) = true) := decide_eq_true p2
                                  clear p2
                                  go_wp2_with fail
                                  refine (took_is HTK.out HGF.out.1 HGF.out.2 _).mono ?_
                                  rintro e w9 ⟨rfl, rfl⟩
                                  go_wp2
                                  go_meet
                                  refine ⟨congrArg Value.bool (show _ = ((decide (y.gone = z.gone) && decide (y.out = z.out)) || (decide (kind = 2) && (tookB y.gone by_ && (decide (y.out = z.out) || (decide (z.out = 0) || decide (y.out < z.out)))))) from ?_), HY8.out⟩
                                  rw [HG1.out, HP1.out, HP2.out, HK2.out, HTK.out]
                                  rfl
                                · have p2' : (z.out == 0) = false := by simp [p2]
                                  have HP2 : Hid (decide (z.out = 0) = false) := decide_eq_false p2
                                  clear p2
                                  go_wp2_with fail
                                  refine (took_is HTK.out HGF.out.1 HGF.out.2 _).mono ?_
                                  rintro e w9 ⟨rfl, rfl⟩
                                  go_wp2
                                  go_meet
                                  refine ⟨congrArg Value.bool (show _ = ((decide (y.gone = z.gone) && decide (y.out = z.out)) || (decide (kind = 2) && (tookB y.gone by_ && (decide (y.out = z.out) || (decide (z.out = 0) || decide (y.out < z.out)))))) from ?_), HY8.out⟩
                                  rw [HG1.out, HP1.out, HP2.out, HK2.out, HTK.out]
                                  rfl
                          · have k2' : (kind == 2) = false := by simp [k2]
                            have HK2 : Hid (decide (kind = 2) = false) := decide_eq_false k2
                            clear k2
                            go_wp2
                            go_meet
                            refine ⟨congrArg Value.bool (show _ = ((decide (y.gone = z.gone) && decide (y.out = z.out)) || (decide (kind = 2) && (tookB y.gone by_ && (decide (y.out = z.out) || (decide (z.out = 0) || decide (y.out < z.out)))))) from ?_), HY8.out⟩
                            rw [HG1.out, HK2.out]
                            rfl
                    case rest =>
                      obtain ⟨rfl, hY11⟩ := hcut
                      have HY11 : Hid (YInv w ⟨kind, by_, no, seen, at_, many, text⟩ (.slice (some ⟨b1, o1, none⟩) l.length cap) l (.slice (some ⟨b2, o2, none⟩) x.length cap3) x Y Z y z wc) := hY11
                      clear hY11 HY10
                      generalize hf11 : fellB ⟨kind, by_, no, seen, at_, many, text⟩ y z = f at HKA ⊢
                      clear hf11
                      have HB2 : Hid ((p && f) = keepTo l x ⟨kind, by_, no, seen, at_, many, text⟩ m (j + 1)) := by
                        show (p && f) = _
                        rw [keepTo_succ, ← HB.out, Bool.true_and, HKA.out]
                      cases p
                      · go_wp2
                        go_roundw
                        case rel => exact ⟨j + 1, false, rfl, by go_num, by omega, HB2, HY11.out.k⟩
                        case measure => simp [intOf]; omega
                      · cases f
                        all_goals
                          go_wp2
                          go_roundw
                          case rel => exact ⟨j + 1, _, rfl, by go_num, by omega, HB2, HY11.out.k⟩
                          case measure => simp [intOf]; omega
            · have hjf : decide ((j : Int) < (l.length : Int)) = false := decide_eq_false (by omega)
              cases b
              · as_aux_lemma =>
                  have hgt : placeK l ⟨kind, by_, no, seen, at_, many, text⟩ < m := by
                    rcases Nat.lt_or_ge (placeK l ⟨kind, by_, no, seen, at_, many, text⟩) m with h1 | h1
                    · exact h1
                    · exfalso
                      have e : m = placeK l ⟨kind, by_, no, seen, at_, many, text⟩ := by omega
                      have h2 := keepTo_le (m := l.length) HB.out.symm hj
                      rw [e, HXE.out, keeps_to hc] at h2
                      cases h2
                  go_wp2
                  go_quiet (fail)
                  go_wp2
                  go_roundw
                  case rel => exact ⟨m - 1, by go_num, by omega, by omega, HI7.out.after (below_drewN (Below.refl _ _) _)⟩
                  case measure => simp [intOf]; omega
              · as_aux_lemma =>
                  have HNW : Hid (m = placeK l ⟨kind, by_, no, seen, at_, many, text⟩ → (x.drop m).take text.size = newL ⟨kind, by_, no, seen, at_, many, text⟩ number) := fun e => by
                    rw [e, HXE.out]
                    exact (keeps_place hc).2.2
                  have hmx : m + text.size ≤ cap3 := by have := HXL.out; omega
                  obtain ⟨sv, hsv⟩ : ∃ sv, sv = sliced a3 m (m + text.size) cap3 7 := ⟨_, rfl⟩
                  have HSV : Hid (sv = sliced a3 m (m + text.size) cap3 7) := hsv
                  clear hsv
                  go_wp2
                  refine wp_region_late (fun wk => KeInv w ⟨kind, by_, no, seen, at_, many, text⟩ (.slice ad l.length cap) l (.slice a3 x.length cap3) x wk) (fun i => i == 12 || i == 13) (fun _ => false) (by kernel_rfl) (by kernel_rfl) (by kernel_rfl) (HI7.out.drew) ?_
                  refine wpLate_big (some 186) w rfl (.bool true) rfl (by kernel_rfl) (fun wk hwk => ?_) ?_
                  · generalize hA : Act.eval _ = ρ
                    have s11 : ρ (.tmp 11) = .bool true := by rw [← hA]; kernel_rfl
                    clear hA
                    go_simp
                  go_big_quiet_op
                  refine wpLate_big (some 187) w rfl (.bool true) rfl (by kernel_rfl) (fun wk hwk => ?_) ?_
                  · generalize hA : Act.eval _ = ρ
                    have s186 : ρ (.tmp 186) = .bool true := by rw [← hA]; kernel_rfl
                    clear hA
                    go_simp
                  go_big_quiet_op
                  refine wpLate_big (some 188) w rfl ((.slice a3 x.length cap3)) rfl (by kernel_rfl) (fun wk hwk => ?_) ?_
                  · generalize hA : Act.eval _ = ρ
                    have s7 : ρ (.tmp 7) = (.slice a3 x.length cap3) := by rw [← hA]; kernel_rfl
                    clear hA
                    go_simp
                  go_big_quiet_op
                  refine wpLate_big (some 189) w rfl (.int .i64 m) rfl (by kernel_rfl) (fun wk hwk => ?_) ?_
                  · generalize hA : Act.eval _ = ρ
                    have s10 : ρ (.tmp 10) = .int .i64 m := by rw [← hA]; kernel_rfl
                    clear hA
                    go_simp
                  go_big_quiet_op
                  refine wpLate_big (some 190) w rfl (.int .i64 m) rfl (by kernel_rfl) (fun wk hwk => ?_) ?_
                  · generalize hA : Act.eval _ = ρ
                    have s10 : ρ (.tmp 10) = .int .i64 m := by rw [← hA]; kernel_rfl
                    clear hA
                    go_simp
                  go_big_quiet_op
                  refine wpLate_big (some 191) w rfl (.pointer (some ⟨w.heap.size, 6, none⟩)) rfl (by kernel_rfl) (fun wk hwk => ?_) ?_
                  · generalize hA : Act.eval _ = ρ
                    have s4 : ρ (.tmp 4) = .pointer (some ⟨w.heap.size, 0, none⟩) := by rw [← hA]; kernel_rfl
                    clear hA
                    go_simp
                  go_big_quiet_op
                  refine wpLate_big (some 192) w rfl (.string text) rfl (by kernel_rfl) (fun wk hwk => ?_) ?_
                  · generalize hA : Act.eval _ = ρ
                    have s191 : ρ (.tmp 191) = .pointer (some ⟨w.heap.size, 6, none⟩) := by rw [← hA]; kernel_rfl
                    clear hA
                    obtain ⟨_, c0, c1, c2, c3, c4, c5, c6⟩ := hwk.d
                    simp only [Nat.zero_add] at c1 c2 c3 c4 c5 c6
                    go_simp
                  go_big_quiet_op
                  refine wpLate_big (some 193) w rfl (.int .i64 text.size) rfl (by kernel_rfl) (fun wk hwk => ?_) ?_
                  · generalize hA : Act.eval _ = ρ
                    have s192 : ρ (.tmp 192) = .string text := by rw [← hA]; kernel_rfl
                    clear hA
                    go_simp
                  go_big_quiet_op
                  refine wpLate_big (some 194) w rfl (.int .i64 ((m : Int) + text.size)) rfl (by kernel_rfl) (fun wk hwk => ?_) ?_
                  · generalize hA : Act.eval _ = ρ
                    have s190 : ρ (.tmp 190) = .int .i64 m := by rw [← hA]; kernel_rfl
                    have s193 : ρ (.tmp 193) = .int .i64 text.size := by rw [← hA]; kernel_rfl
                    clear hA
                    go_simp
                    rw [wrapEq]
                    unfold wrap64
                    omega
                  go_big_quiet_op
                  refine wpLate_big (some 195) w rfl sv rfl (by kernel_rfl) (fun wk hwk => ?_) ?_
                  · refine exec_slice rfl ?_
                    generalize hA : Act.eval _ = ρ
                    have s1 : ρ (.tmp 188) = (.slice a3 x.length cap3) := by rw [← hA]; kernel_rfl
                    have s2 : ρ (.tmp 189) = .int .i64 m := by rw [← hA]; kernel_rfl
                    have s3 : ρ (.tmp 194) = .int .i64 ((m : Int) + text.size) := by rw [← hA]; kernel_rfl
                    simp only [Option.map_some, Option.map_none, s1, s2, s3]
                    rw [HSV.out]
                    exact run_range_val a3 x.length cap3 m text.size (by omega) wk
                  go_big_quiet_op
                  refine wpLate_big (some 196) w rfl (ddV ⟨kind, by_, no, seen, at_, many, text⟩) rfl (by kernel_rfl) (fun wk hwk => ?_) ?_
                  · generalize hA : Act.eval _ = ρ
                    have s4 : ρ (.tmp 4) = .pointer (some ⟨w.heap.size, 0, none⟩) := by rw [← hA]; kernel_rfl
                    clear hA
                    obtain ⟨_, c0, c1, c2, c3, c4, c5, c6⟩ := hwk.d
                    simp only [Nat.zero_add] at c1 c2 c3 c4 c5 c6
                    go_simp
                  go_big_quiet_op
                  refine wpLate_big (some 197) w rfl (.int .i64 number) rfl (by kernel_rfl) (fun wk hwk => ?_) ?_
                  · generalize hA : Act.eval _ = ρ
                    have s2 : ρ (.tmp 2) = .int .i64 number := by rw [← hA]; kernel_rfl
                    clear hA
                    go_simp
                  go_big_quiet_op
                  refine wpLate_bigSpine (some 198) w rfl rfl (by kernel_rfl) (fun _ => True) (fun u wk => KeInv w ⟨kind, by_, no, seen, at_, many, text⟩ (.slice ad l.length cap) l (.slice a3 x.length cap3) x wk ∧ Lst wk u (newL ⟨kind, by_, no, seen, at_, many, text⟩ number)) (fun u wk => KeInv w ⟨kind, by_, no, seen, at_, many, text⟩ (.slice ad l.length cap) l (.slice a3 x.length cap3) x wk ∧ Lst wk u (newL ⟨kind, by_, no, seen, at_, many, text⟩ number)) ⟨.int .i64 0, trivial⟩ (fun _ _ h => h.1) (fun _ _ h => h) (fun wk hwk => ?_) (fun u12 _ => ?_)
                  · generalize hA : Act.eval _ = ρ
                    have s1 : ρ (.tmp 196) = ddV ⟨kind, by_, no, seen, at_, many, text⟩ := by rw [← hA]; kernel_rfl
                    have s2 : ρ (.tmp 197) = .int .i64 number := by rw [← hA]; kernel_rfl
                    have s3 : ρ (.func 22) = .func (.func 22) #[] #[] := by rw [← hA]; kernel_rfl
                    clear hA
                    go_simp
                    refine (new_any ⟨kind, by_, no, seen, at_, many, text⟩ number wk (by simp only; omega)).mono ?_
                    rintro e w12 ⟨u, rfl, ho, hb⟩
                    exact ⟨u, rfl, hwk.after hb, ho.lst⟩
                  go_big_quiet_op
                  refine wpLate_bigSpine (some 199) w rfl rfl (by kernel_rfl) (fun v => PickR (m = placeK l ⟨kind, by_, no, seen, at_, many, text⟩) v) (fun _ wk => KeInv w ⟨kind, by_, no, seen, at_, many, text⟩ (.slice ad l.length cap) l (.slice a3 x.length cap3) x wk ∧ Lst wk u12 (newL ⟨kind, by_, no, seen, at_, many, text⟩ number)) (fun _ wk => KeInv w ⟨kind, by_, no, seen, at_, many, text⟩ (.slice ad l.length cap) l (.slice a3 x.length cap3) x wk ∧ Lst wk u12 (newL ⟨kind, by_, no, seen, at_, many, text⟩ number)) ⟨.bool true, true, rfl, fun _ => rfl⟩ (fun _ _ h => h) (fun _ _ h => h) (fun wk hwk => ?_) (fun v13 hv13 => ?_)
                  · generalize hA : Act.eval _ = ρ
                    have s1 : ρ (.tmp 195) = sv := by rw [← hA]; kernel_rfl
                    have s2 : ρ (.tmp 198) = u12 := by rw [← hA]; kernel_rfl
                    have s3 : ρ (.func 21) = .func (.func 21) #[] #[] := by rw [← hA]; kernel_rfl
                    clear hA
                    have HC : Hid (Calls Try.prog 21 #[sv, u12] wk fun e w' => SameIs ((x.drop m).take text.size) (newL ⟨kind, by_, no, seen, at_, many, text⟩ number) wk e w') := sameChars_lst (by rw [HSV.out]; exact lst_range hwk.1.xs (by have := HXL.out; omega)) hwk.2 (by rw [List.length_take]; omega) (by rw [newL_len]; simp only; omega)
                    go_simp
                    refine HC.out.mono ?_
                    rintro e w13 ⟨r, rfl, hr, hb⟩
                    exact ⟨_, rfl, ⟨r, rfl, fun hm => hr.2 (HNW.out hm)⟩, hwk.1.after hb, hwk.2.below hb⟩
                  obtain ⟨r, rfl, hr⟩ := hv13
                  go_big_quiet_op
                  refine wpLate_big (some 200) w rfl (.bool r) rfl (by kernel_rfl) (fun wk hwk => ?_) ?_
                  · generalize hA : Act.eval _ = ρ
                    have s187 : ρ (.tmp 187) = .bool true := by rw [← hA]; kernel_rfl
                    have s199 : ρ (.tmp 199) = .bool r := by rw [← hA]; kernel_rfl
                    clear hA
                    go_simp
                  go_big_quiet_op
                  refine wpLate_nil (fun w14 hw14 => ?_)
                  have HI14 : Hid (KeInv w ⟨kind, by_, no, seen, at_, many, text⟩ (.slice ad l.length cap) l (.slice a3 x.length cap3) x w14) := hw14.1
                  clear hw14 HI7
                  cases r
                  · have hgt : placeK l ⟨kind, by_, no, seen, at_, many, text⟩ < m := by
                      rcases Nat.lt_or_ge (placeK l ⟨kind, by_, no, seen, at_, many, text⟩) m with h1 | h1
                      · exact h1
                      · have := hr (by omega)
                        cases this
                    clear hr
                    go_wp2
                    go_roundw
                    case rel => exact ⟨m - 1, by go_num, by omega, by omega, HI14⟩
                    case measure => simp [intOf]; omega
                  · clear hr
                    obtain ⟨_, c0, c1, c2, c3, c4, c5, c6⟩ := HI14.out.d
                    simp only [Nat.zero_add] at c1 c2 c3 c4 c5 c6
                    go_wp2_with fail
                    clear c0 c1 c2 c3 c4 c5 c6
                    refine (check_any ⟨kind, by_, no, seen, at_, many, text⟩ _).mono ?_
                    rintro e w15 ⟨rfl, hb15⟩
                    have HB15 : Hid (Below w.heap.size w w15) := below_after HI14.out.below hb15
                    rw [HCK.out]
                    clear hb15 HI14
                    go_wp2
                    go_ret
                    exact ⟨rfl, HB15.out⟩
      · have hk5 := hb1 rfl
        clear hb1 hb2
        go_wp2
        go_roundw
        case rel => exact ⟨k + 1, by omega, by go_num, HI5⟩
        case measure => simp [intOf]; omega

/-- THE LAW. -/
theorem law_keeps (w : World) {v : Value} {l : List Ch} (h : Lst w v l) (hf : FitsL l) (d : Dd) (number : Int) (_ : Fits number) :
    Calls Try.prog 7 #[v, ddV d, .int .i64 number] w fun e w' => e = .returned (.bool true) ∧ Below w.heap.size w w' := by
  by_cases hg : 300 < l.length ∨ 100 < d.text.size
  · exact keeps_great l d number v w h hg
  · by_cases hc : doC l d number = 0
    · exact keeps_some l d number v w h hf (by omega) (by omega) hc
    · exact keeps_code l d number v w h hf (by omega) (by omega) hc

end Go.Proofs.Ytgcklgiapjbkhaa
