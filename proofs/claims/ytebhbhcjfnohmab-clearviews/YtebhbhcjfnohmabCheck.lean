/-
  The contract of chars.Check: may there be such a list.
-/
import Derived.Test.YtebhbhcjfnohmabFind
import Derived.Deep.RegionWith
namespace Go.Proofs.Ytebhbhcjfnohmab
open Go.RowKit

def namedB (x : Ch) : Bool := wrB x.by_ && decide (1 ≤ x.no) && withinB x.k 0 19 && withinB x.gone 0 15
def numberedB (x : Ch) (log : Int) : Bool := ((x.inn == 1073741824) || withinB x.inn 1 log) && withinB x.out 0 log
def formB (x : Ch) : Bool := (x.out != 0) && (decide (x.out ≤ x.inn) || (x.gone == 0))
def oneFault (x : Ch) (log : Int) : Int := if (namedB x && numberedB x log) = true then (if formB x = true then 3 else 0) else 1

set_option maxRecDepth 20000 in
set_option maxHeartbeats 400000 in
theorem named_any (x : Ch) (w : World) :
    Calls Try.prog 78 #[chV x] w fun e w' => e = .returned (.bool (namedB x)) ∧ Below w.heap.size w w' := by
  obtain ⟨c, b, no, k, i, o, g⟩ := x
  cases h1 : wrB b
  · go_enter Try.func78, Try.ntmps78
    go_wp2_with (first | (go_at_call 55; refine (writer_any _ _).mono ?_; rintro e w' ⟨rfl, rfl⟩) | (go_at_call 83; refine (within_any _ _ _ _).mono ?_; rintro e w' ⟨rfl, rfl⟩))
    go_ret
    exact ⟨ret_b (by simp [namedB, h1]), (Below.refl _ _).alloc (Nat.le_refl _) _⟩
  · by_cases h2 : 1 ≤ no
    · cases h3 : withinB k 0 19
      all_goals
        go_enter Try.func78, Try.ntmps78
        go_wp2_with (first | (go_at_call 55; refine (writer_any _ _).mono ?_; rintro e w' ⟨rfl, rfl⟩) | (go_at_call 83; refine (within_any _ _ _ _).mono ?_; rintro e w' ⟨rfl, rfl⟩))
        go_ret
        exact ⟨ret_b (by simp [namedB, h1, h2, h3]), (Below.refl _ _).alloc (Nat.le_refl _) _⟩
    · go_enter Try.func78, Try.ntmps78
      go_wp2_with (first | (go_at_call 55; refine (writer_any _ _).mono ?_; rintro e w' ⟨rfl, rfl⟩) | (go_at_call 83; refine (within_any _ _ _ _).mono ?_; rintro e w' ⟨rfl, rfl⟩))
      go_ret
      exact ⟨ret_b (by simp [namedB]; intro _ h; omega), (Below.refl _ _).alloc (Nat.le_refl _) _⟩

set_option maxRecDepth 20000 in
set_option maxHeartbeats 400000 in
theorem numbered_any (x : Ch) (log : Int) (w : World) :
    Calls Try.prog 79 #[chV x, .int .i64 log] w fun e w' => e = .returned (.bool (numberedB x log)) ∧ Below w.heap.size w w' := by
  obtain ⟨c, b, no, k, i, o, g⟩ := x
  cases h1 : (i == 1073741824)
  · cases h2 : withinB i 1 log
    all_goals
      go_enter Try.func79, Try.ntmps79
      go_wp2_with (go_at_call 83; refine (within_any _ _ _ _).mono ?_; rintro e w' ⟨rfl, rfl⟩)
      go_ret
      exact ⟨ret_b (by simp [numberedB, h1, h2]), (Below.refl _ _).alloc (Nat.le_refl _) _⟩
  · go_enter Try.func79, Try.ntmps79
    go_wp2_with (go_at_call 83; refine (within_any _ _ _ _).mono ?_; rintro e w' ⟨rfl, rfl⟩)
    go_ret
    exact ⟨ret_b (by simp [numberedB, h1]), (Below.refl _ _).alloc (Nat.le_refl _) _⟩

set_option maxRecDepth 20000 in
set_option maxHeartbeats 400000 in
theorem checkOne_any (x : Ch) (log : Int) (w : World) :
    Calls Try.prog 49 #[chV x, .int .i64 log] w fun e w' => e = .returned (.int .i64 (oneFault x log)) ∧ Below w.heap.size w w' := by
  cases h1 : namedB x
  · go_enter Try.func49, Try.ntmps49
    go_wp2_with fail
    refine (named_any x _).mono ?_
    rintro e w1 ⟨rfl, hb⟩
    have HB : Hid (Below w.heap.size w w1) := below_after ((Below.refl _ _).alloc (Nat.le_refl _) _) hb
    clear hb
    go_wp2
    go_ret
    exact ⟨ret_int (by simp [oneFault, h1]), HB.out⟩
  · cases h2 : numberedB x log
    · go_enter Try.func49, Try.ntmps49
      go_wp2_with fail
      refine (named_any x _).mono ?_
      rintro e w1 ⟨rfl, hb⟩
      obtain ⟨hc, hf⟩ := bcell hb
      go_wp2_with fail
      refine (numbered_any x _ _).mono ?_
      rintro e w2 ⟨rfl, hb2⟩
      have HB : Hid (Below w.heap.size w w2) := below_after (below_after ((Below.refl _ _).alloc (Nat.le_refl _) _) hb) hb2
      clear hb hb2 hc hf
      go_wp2
      go_ret
      exact ⟨ret_int (by simp [oneFault, h1, h2]), HB.out⟩
    · cases h3 : (x.out != 0)
      · go_enter Try.func49, Try.ntmps49
        go_wp2_with fail
        refine (named_any x _).mono ?_
        rintro e w1 ⟨rfl, hb⟩
        obtain ⟨hc, hf⟩ := bcell hb
        go_wp2_with fail
        refine (numbered_any x _ _).mono ?_
        rintro e w2 ⟨rfl, hb2⟩
        have hz : w.heap.size < w1.heap.size := by have := hb.size; simp at this; omega
        obtain ⟨hc2, hf2⟩ := bcell hb2
        have HB : Hid (Below w.heap.size w w2) := below_after (below_after ((Below.refl _ _).alloc (Nat.le_refl _) _) hb) hb2
        clear hb hb2 hf hf2
        go_wp2
        go_ret
        exact ⟨ret_int (by simp [oneFault, h1, h2, formB, h3]), HB.out⟩
      · by_cases h4 : x.out ≤ x.inn
        · go_enter Try.func49, Try.ntmps49
          go_wp2_with fail
          refine (named_any x _).mono ?_
          rintro e w1 ⟨rfl, hb⟩
          obtain ⟨hc, hf⟩ := bcell hb
          go_wp2_with fail
          refine (numbered_any x _ _).mono ?_
          rintro e w2 ⟨rfl, hb2⟩
          have hz : w.heap.size < w1.heap.size := by have := hb.size; simp at this; omega
          obtain ⟨hc2, hf2⟩ := bcell hb2
          have HB : Hid (Below w.heap.size w w2) := below_after (below_after ((Below.refl _ _).alloc (Nat.le_refl _) _) hb) hb2
          clear hb hb2 hf hf2
          go_wp2
          go_ret
          exact ⟨ret_int (by simp [oneFault, h1, h2, formB, h3, h4]), HB.out⟩
        · cases h5 : (x.gone == 0)
          all_goals
            go_enter Try.func49, Try.ntmps49
            go_wp2_with fail
            refine (named_any x _).mono ?_
            rintro e w1 ⟨rfl, hb⟩
            obtain ⟨hc, hf⟩ := bcell hb
            go_wp2_with fail
            refine (numbered_any x _ _).mono ?_
            rintro e w2 ⟨rfl, hb2⟩
            have hz : w.heap.size < w1.heap.size := by have := hb.size; simp at this; omega
            obtain ⟨hc2, hf2⟩ := bcell hb2
            have HB : Hid (Below w.heap.size w w2) := below_after (below_after ((Below.refl _ _).alloc (Nat.le_refl _) _) hb) hb2
            clear hb hb2 hf hf2
            go_wp2
            go_ret
            have h4' : ¬ x.out ≤ x.inn := by omega
            exact ⟨ret_int (by simp [oneFault, h1, h2, formB, h3, h4', h5]), HB.out⟩

def seenBefore (l : List Ch) (k : Nat) : Bool :=
  match l[k]? with
  | some x => (l.take k).any (fun y => sameB y x)
  | none => false
def faultAt (l : List Ch) (log : Int) (k : Nat) : Int :=
  match l[k]? with
  | some x => if oneFault x log ≠ 0 then oneFault x log else if seenBefore l k = true then 6 else 0
  | none => 0

/-- What chars.Check answers. -/
def CheckIs (l : List Ch) (log r : Int) : Prop :=
  (200 < l.length ∧ r = 10) ∨ (l.length ≤ 200 ∧ ((∃ k : Nat, k < l.length ∧ (∀ j, j < k → faultAt l log j = 0) ∧ faultAt l log k = r ∧ r ≠ 0) ∨ ((∀ j, j < l.length → faultAt l log j = 0) ∧ r = 0)))

theorem find_before {l : List Ch} {k : Nat} (hk : k < l.length) {r : Int} (h : FindIs (l.take k) l[k] r) : (0 ≤ r ↔ seenBefore l k = true) ∧ (r < 0 ↔ seenBefore l k = false) ∧ -1 ≤ r ∧ r ≤ k := by
  have hlen : (l.take k).length = k := by simp; omega
  unfold seenBefore
  rw [List.getElem?_eq_getElem hk]
  rcases h with ⟨j, hj, _, hs, rfl⟩ | ⟨hno, rfl⟩
  · have ha : (l.take k).any (fun y => sameB y l[k]) = true := by
      rw [List.any_eq_true]
      unfold sameAt at hs
      rw [List.getElem?_eq_getElem hj] at hs
      exact ⟨(l.take k)[j], List.getElem_mem hj, hs⟩
    rw [hlen] at hj
    exact ⟨⟨fun _ => ha, fun _ => by omega⟩, ⟨fun h => by omega, fun h => (Bool.noConfusion (ha.symm.trans h))⟩, by omega, by omega⟩
  · have ha : (l.take k).any (fun y => sameB y l[k]) = false := by
      rw [List.any_eq_false]
      intro y hy
      obtain ⟨j, hj, rfl⟩ := List.mem_iff_getElem.1 hy
      have := hno j hj
      unfold sameAt at this
      rw [List.getElem?_eq_getElem hj] at this
      exact fun h => Bool.noConfusion (this.symm.trans h)
    exact ⟨⟨fun h => by omega, fun h => (Bool.noConfusion (ha.symm.trans h))⟩, ⟨fun _ => ha, fun _ => by omega⟩, by omega, by omega⟩

theorem Row.take {w : World} {b off : Nat} {l : List Ch} (h : Row w b off l) (k : Nat) : Row w b off (l.take k) := by
  refine ⟨h.lt, fun i hi => ?_⟩
  have hi' : i < l.length := by simp at hi; omega
  rw [List.getElem_take]
  exact h.at_ i hi'

theorem fault_step (l : List Ch) (log : Int) (k : Nat) (h : ∀ j, j < k → faultAt l log j = 0) (hk : faultAt l log k = 0) : ∀ j, j < k + 1 → faultAt l log j = 0 := by
  intro j hj
  by_cases e : j = k
  · rw [e]; exact hk
  · exact h j (by omega)

set_option maxRecDepth 20000 in
set_option maxHeartbeats 1000000 in
theorem check_some (b off len cap : Nat) (l : List Ch) (log : Int) (w : World) (hl : l.length = len) (hc : len ≤ cap) (hm : len ≤ 281474976710656) (hr : Row w b off l) :
    Calls Try.prog 17 #[.slice (some ⟨b, off, none⟩) len cap, .int .i64 log] w fun e w' => ∃ r, e = .returned (.int .i64 r) ∧ CheckIs l log r ∧ Below w.heap.size w w' := by
  have HR : Hid (Row w b off l) := hr
  have HL : Hid (l.length = len) := hl
  have hb := hr.lt
  clear hr hl
  by_cases h200 : 200 < len
  · go_enter Try.func17, Try.ntmps17
    go_wp2
    go_ret
    exact ⟨10, rfl, .inl ⟨by rw [HL.out]; exact h200, rfl⟩, Below.refl _ _⟩
  · have h200' : decide (200 < (len : Int)) = false := by simp; omega
    go_enter Try.func17, Try.ntmps17
    go_wp2
    go_loopw [13] (fun i wr => ∃ k : Nat, k ≤ len ∧ i = .int .i64 k ∧ Hid (∀ j, j < k → faultAt l log j = 0) ∧ Below w.heap.size w wr) (fun i _ => len - (intOf i).toNat)
    case atStart => exact ⟨0, Nat.zero_le _, rfl, fun j hj => absurd hj (Nat.not_lt_zero _), Below.refl _ _⟩
    case round =>
      obtain ⟨k, hk, rfl, hno, hbel⟩ := hrel
      by_cases hlt : k < len
      · have hkl : k < l.length := by rw [HL.out]; exact hlt
        have HF : Hid _ := fun r => @find_before l k hkl r
        have HX : Hid (faultAt l log k = if oneFault l[k] log ≠ 0 then oneFault l[k] log else if seenBefore l k = true then 6 else 0) := by
          unfold Hid faultAt
          rw [List.getElem?_eq_getElem hkl]
        have HRr : Hid (Row wr b off l) := HR.out.below hbel
        obtain ⟨h0, h1, h2, h3, h4, h5, h6⟩ := HRr.out.at_ k hkl
        generalize l[k] = x at h0 h1 h2 h3 h4 h5 h6 HX HF
        go_wp2_with fail
        refine (checkOne_any x _ _).mono ?_
        rintro e w1 ⟨rfl, hb1⟩
        by_cases hz : oneFault x log = 0
        · have hz' : (oneFault x log != 0) = false := by simp [hz]
          have HZ : Hid (oneFault x log = 0) := hz
          obtain ⟨hc1, hf1⟩ := bcell hb1
          have hk0 : (0 : Int) ≤ (k : Int) := by omega
          have hkc : (k : Int) ≤ (cap : Int) := by omega
          have hb2 : Below w.heap.size w w1 := below_after (hbel.alloc (by have := hbel.size; omega) _) hb1
          have HC : Hid (Calls Try.prog 50 #[.slice (some ⟨b, off, none⟩) k cap, chV x] w1.drew fun e w' => ∃ r, e = .returned (.int .i64 r) ∧ FindIs (l.take k) x r ∧ Below w1.drew.heap.size w1.drew w') :=
            find_some b off k cap (l.take k) x w1.drew (by simp; omega) (by omega) ((HR.out.below hb2.drew).take k)
          clear h0 h1 h2 h3 h4 h5 h6 hz
          go_wp2_with fail
          go_region_with (go_at_call 50; refine HC.out.mono ?_; rintro e w2 ⟨r, rfl, hfi, hb3⟩)
          have HFI := HF.out r hfi
          have HB4 : Hid (Below w.heap.size w w2) := below_after hb2.drew hb3
          clear hfi hb3 hb2 hb1 hc1 hf1 HC HF hbel hk0 hkc
          by_cases hr : 0 ≤ r
          · have hs := HFI.1.1 hr
            have HV : Hid (faultAt l log k = 6) := by unfold Hid; rw [HX.out, if_neg (by rw [HZ.out]; simp), if_pos hs]
            clear HFI hs
            go_wp2
            go_ret
            exact ⟨6, rfl, .inr ⟨by rw [HL.out]; omega, .inl ⟨k, by rw [HL.out]; exact hlt, hno.out, HV.out, by decide⟩⟩, HB4.out⟩
          · have hs := HFI.2.1.1 (by omega)
            have HV : Hid (faultAt l log k = 0) := by unfold Hid; rw [HX.out, if_neg (by rw [HZ.out]; simp), if_neg (by rw [hs]; simp)]
            clear HFI hs
            go_wp2
            go_roundw
            case rel => exact ⟨k + 1, by omega, by go_num, fault_step l log k hno.out HV.out, HB4.out⟩
            case measure => simp [intOf]; omega
        · have hz' : (oneFault x log != 0) = true := by simp [hz]
          have HZ : Hid (oneFault x log ≠ 0) := hz
          have hb2 : Below w.heap.size w w1 := below_after (hbel.alloc (by have := hbel.size; omega) _) hb1
          clear h0 h1 h2 h3 h4 h5 h6 hb1 hz HF
          go_wp2
          go_ret
          refine ⟨oneFault x log, rfl, .inr ⟨by rw [HL.out]; omega, .inl ⟨k, by rw [HL.out]; exact hlt, hno.out, ?_, HZ.out⟩⟩, hb2⟩
          rw [HX.out, if_pos HZ.out]
      · obtain rfl : k = len := by omega
        go_wp2
        go_ret
        exact ⟨0, rfl, .inr ⟨by rw [HL.out]; omega, .inr ⟨by rw [HL.out]; exact hno.out, rfl⟩⟩, hbel⟩

end Go.Proofs.Ytebhbhcjfnohmab
