/-
  The contract of chars.Check: may there be such a list.
-/
import Derived.Test.YtnabhdfodckpdacFind
import Derived.Deep.RegionWith
import Derived.Laws.BytesArg
import Derived.Test.YtnabhdfodckpdacLeaf
namespace Go.Proofs.Ytnabhdfodckpdac
open Go.RowKit

def namedB (x : Ch) : Bool := wrB x.by_ && decide (1 ≤ x.no) && withinB x.k 0 19 && withinB x.gone 0 15
def numberedB (x : Ch) (log : Int) : Bool := ((x.inn == 1073741824) || withinB x.inn 1 log) && withinB x.out 0 log
def formB (x : Ch) : Bool := (x.out != 0) && (decide (x.out ≤ x.inn) || (x.gone == 0))
def oneFault (x : Ch) (log : Int) : Int := if (namedB x && numberedB x log) = true then (if formB x = true then 3 else 0) else 1

set_option maxRecDepth 20000 in
set_option maxHeartbeats 400000 in
theorem named_any (x : Ch) (w : World) :
    Calls Try.prog 112 #[chV x] w fun e w' => e = .returned (.bool (namedB x)) ∧ Below w.heap.size w w' := by
  obtain ⟨c, b, no, k, i, o, g⟩ := x
  cases h1 : wrB b
  · go_enter Try.func112, Try.ntmps112
    go_wp2_with (first | (go_at_call 60; refine (writer_any _ _).mono ?_; rintro e w' ⟨rfl, rfl⟩) | (go_at_call 84; refine (within_any _ _ _ _).mono ?_; rintro e w' ⟨rfl, rfl⟩))
    go_ret
    exact ⟨ret_b (by simp [namedB, h1]), (Below.refl _ _).alloc (Nat.le_refl _) _⟩
  · by_cases h2 : 1 ≤ no
    · cases h3 : withinB k 0 19
      all_goals
        go_enter Try.func112, Try.ntmps112
        go_wp2_with (first | (go_at_call 60; refine (writer_any _ _).mono ?_; rintro e w' ⟨rfl, rfl⟩) | (go_at_call 84; refine (within_any _ _ _ _).mono ?_; rintro e w' ⟨rfl, rfl⟩))
        go_ret
        exact ⟨ret_b (by simp [namedB, h1, h2, h3]), (Below.refl _ _).alloc (Nat.le_refl _) _⟩
    · go_enter Try.func112, Try.ntmps112
      go_wp2_with (first | (go_at_call 60; refine (writer_any _ _).mono ?_; rintro e w' ⟨rfl, rfl⟩) | (go_at_call 84; refine (within_any _ _ _ _).mono ?_; rintro e w' ⟨rfl, rfl⟩))
      go_ret
      exact ⟨ret_b (by simp [namedB]; intro _ h; omega), (Below.refl _ _).alloc (Nat.le_refl _) _⟩

set_option maxRecDepth 20000 in
set_option maxHeartbeats 400000 in
theorem numbered_any (x : Ch) (log : Int) (w : World) :
    Calls Try.prog 113 #[chV x, .int .i64 log] w fun e w' => e = .returned (.bool (numberedB x log)) ∧ Below w.heap.size w w' := by
  obtain ⟨c, b, no, k, i, o, g⟩ := x
  cases h1 : (i == 1073741824)
  · cases h2 : withinB i 1 log
    all_goals
      go_enter Try.func113, Try.ntmps113
      go_wp2_with (go_at_call 84; refine (within_any _ _ _ _).mono ?_; rintro e w' ⟨rfl, rfl⟩)
      go_ret
      exact ⟨ret_b (by simp [numberedB, h1, h2]), (Below.refl _ _).alloc (Nat.le_refl _) _⟩
  · go_enter Try.func113, Try.ntmps113
    go_wp2_with (go_at_call 84; refine (within_any _ _ _ _).mono ?_; rintro e w' ⟨rfl, rfl⟩)
    go_ret
    exact ⟨ret_b (by simp [numberedB, h1]), (Below.refl _ _).alloc (Nat.le_refl _) _⟩

set_option maxRecDepth 20000 in
set_option maxHeartbeats 400000 in
theorem checkOne_any (x : Ch) (log : Int) (w : World) :
    Calls Try.prog 89 #[chV x, .int .i64 log] w fun e w' => e = .returned (.int .i64 (oneFault x log)) ∧ Below w.heap.size w w' := by
  cases h1 : namedB x
  · go_enter Try.func89, Try.ntmps89
    go_wp2_with fail
    refine (named_any x _).mono ?_
    rintro e w1 ⟨rfl, hb⟩
    have HB : Hid (Below w.heap.size w w1) := below_after ((Below.refl _ _).alloc (Nat.le_refl _) _) hb
    clear hb
    go_wp2
    go_ret
    exact ⟨ret_int (by simp [oneFault, h1]), HB.out⟩
  · cases h2 : numberedB x log
    · go_enter Try.func89, Try.ntmps89
      go_wp2_with fail
      refine (named_any x _).mono ?_
      rintro e w1 ⟨rfl, hb⟩
      obtain ⟨hc, hf⟩ := bcell hb
      go_wp2_with fail
      refine (numbered_any x _ _).mono ?_
      rintro e w2 ⟨rfl, hb2⟩
      have HB : Hid (Below w.heap.size w w2) := below_after (below_after ((Below.refl _ _).alloc (Nat.le_refl _) _) hb) hb2
      clear hb hb2 hc hf
      go_wp2
      go_ret
      exact ⟨ret_int (by simp [oneFault, h1, h2]), HB.out⟩
    · cases h3 : (x.out != 0)
      · go_enter Try.func89, Try.ntmps89
        go_wp2_with fail
        refine (named_any x _).mono ?_
        rintro e w1 ⟨rfl, hb⟩
        obtain ⟨hc, hf⟩ := bcell hb
        go_wp2_with fail
        refine (numbered_any x _ _).mono ?_
        rintro e w2 ⟨rfl, hb2⟩
        have hz : w.heap.size < w1.heap.size := by have := hb.size; simp at this; omega
        obtain ⟨hc2, hf2⟩ := bcell hb2
        have HB : Hid (Below w.heap.size w w2) := below_after (below_after ((Below.refl _ _).alloc (Nat.le_refl _) _) hb) hb2
        clear hb hb2 hf hf2
        go_wp2
        go_ret
        exact ⟨ret_int (by simp [oneFault, h1, h2, formB, h3]), HB.out⟩
      · by_cases h4 : x.out ≤ x.inn
        · go_enter Try.func89, Try.ntmps89
          go_wp2_with fail
          refine (named_any x _).mono ?_
          rintro e w1 ⟨rfl, hb⟩
          obtain ⟨hc, hf⟩ := bcell hb
          go_wp2_with fail
          refine (numbered_any x _ _).mono ?_
          rintro e w2 ⟨rfl, hb2⟩
          have hz : w.heap.size < w1.heap.size := by have := hb.size; simp at this; omega
          obtain ⟨hc2, hf2⟩ := bcell hb2
          have HB : Hid (Below w.heap.size w w2) := below_after (below_after ((Below.refl _ _).alloc (Nat.le_refl _) _) hb) hb2
          clear hb hb2 hf hf2
          go_wp2
          go_ret
          exact ⟨ret_int (by simp [oneFault, h1, h2, formB, h3, h4]), HB.out⟩
        · cases h5 : (x.gone == 0)
          all_goals
            go_enter Try.func89, Try.ntmps89
            go_wp2_with fail
            refine (named_any x _).mono ?_
            rintro e w1 ⟨rfl, hb⟩
            obtain ⟨hc, hf⟩ := bcell hb
            go_wp2_with fail
            refine (numbered_any x _ _).mono ?_
            rintro e w2 ⟨rfl, hb2⟩
            have hz : w.heap.size < w1.heap.size := by have := hb.size; simp at this; omega
            obtain ⟨hc2, hf2⟩ := bcell hb2
            have HB : Hid (Below w.heap.size w w2) := below_after (below_after ((Below.refl _ _).alloc (Nat.le_refl _) _) hb) hb2
            clear hb hb2 hf hf2
            go_wp2
            go_ret
            have h4' : ¬ x.out ≤ x.inn := by omega
            exact ⟨ret_int (by simp [oneFault, h1, h2, formB, h3, h4', h5]), HB.out⟩

def seenBefore (l : List Ch) (k : Nat) : Bool :=
  match l[k]? with
  | some x => (l.take k).any (fun y => sameB y x)
  | none => false
def faultAt (l : List Ch) (log : Int) (k : Nat) : Int :=
  match l[k]? with
  | some x => if oneFault x log ≠ 0 then oneFault x log else if seenBefore l k = true then 6 else 0
  | none => 0

/-- What chars.Check answers. -/
def CheckIs (l : List Ch) (log r : Int) : Prop :=
  (200 < l.length ∧ r = 10) ∨ (l.length ≤ 200 ∧ ((∃ k : Nat, k < l.length ∧ (∀ j, j < k → faultAt l log j = 0) ∧ faultAt l log k = r ∧ r ≠ 0) ∨ ((∀ j, j < l.length → faultAt l log j = 0) ∧ r = 0)))

theorem find_before {l : List Ch} {k : Nat} (hk : k < l.length) {r : Int} (h : FindIs (l.take k) l[k] r) : (0 ≤ r ↔ seenBefore l k = true) ∧ (r < 0 ↔ seenBefore l k = false) ∧ -1 ≤ r ∧ r ≤ k := by
  have hlen : (l.take k).length = k := by simp; omega
  unfold seenBefore
  rw [List.getElem?_eq_getElem hk]
  rcases h with ⟨j, hj, _, hs, rfl⟩ | ⟨hno, rfl⟩
  · have ha : (l.take k).any (fun y => sameB y l[k]) = true := by
      rw [List.any_eq_true]
      unfold sameAt at hs
      rw [List.getElem?_eq_getElem hj] at hs
      exact ⟨(l.take k)[j], List.getElem_mem hj, hs⟩
    rw [hlen] at hj
    exact ⟨⟨fun _ => ha, fun _ => by omega⟩, ⟨fun h => by omega, fun h => (Bool.noConfusion (ha.symm.trans h))⟩, by omega, by omega⟩
  · have ha : (l.take k).any (fun y => sameB y l[k]) = false := by
      rw [List.any_eq_false]
      intro y hy
      obtain ⟨j, hj, rfl⟩ := List.mem_iff_getElem.1 hy
      have := hno j hj
      unfold sameAt at this
      rw [List.getElem?_eq_getElem hj] at this
      exact fun h => Bool.noConfusion (this.symm.trans h)
    exact ⟨⟨fun h => by omega, fun h => (Bool.noConfusion (ha.symm.trans h))⟩, ⟨fun _ => ha, fun _ => by omega⟩, by omega, by omega⟩

theorem Row.take {w : World} {b off : Nat} {l : List Ch} (h : Row w b off l) (k : Nat) : Row w b off (l.take k) := by
  refine ⟨h.lt, fun i hi => ?_⟩
  have hi' : i < l.length := by simp at hi; omega
  rw [List.getElem_take]
  exact h.at_ i hi'

theorem fault_step (l : List Ch) (log : Int) (k : Nat) (h : ∀ j, j < k → faultAt l log j = 0) (hk : faultAt l log k = 0) : ∀ j, j < k + 1 → faultAt l log j = 0 := by
  intro j hj
  by_cases e : j = k
  · rw [e]; exact hk
  · exact h j (by omega)

set_option maxRecDepth 20000 in
set_option maxHeartbeats 1000000 in
theorem check_some (b off len cap : Nat) (l : List Ch) (log : Int) (w : World) (hl : l.length = len) (hc : len ≤ cap) (hm : len ≤ 281474976710656) (hr : Row w b off l) :
    Calls Try.prog 63 #[.slice (some ⟨b, off, none⟩) len cap, .int .i64 log] w fun e w' => ∃ r, e = .returned (.int .i64 r) ∧ CheckIs l log r ∧ Below w.heap.size w w' := by
  have HR : Hid (Row w b off l) := hr
  have HL : Hid (l.length = len) := hl
  have hb := hr.lt
  clear hr hl
  by_cases h200 : 200 < len
  · go_enter Try.func63, Try.ntmps63
    go_wp2
    go_ret
    exact ⟨10, rfl, .inl ⟨by rw [HL.out]; exact h200, rfl⟩, Below.refl _ _⟩
  · have h200' : decide (200 < (len : Int)) = false := by simp; omega
    go_enter Try.func63, Try.ntmps63
    go_wp2
    go_loopw [13] (fun i wr => ∃ k : Nat, k ≤ len ∧ i = .int .i64 k ∧ Hid (∀ j, j < k → faultAt l log j = 0) ∧ Below w.heap.size w wr) (fun i _ => len - (intOf i).toNat)
    case atStart => exact ⟨0, Nat.zero_le _, rfl, fun j hj => absurd hj (Nat.not_lt_zero _), Below.refl _ _⟩
    case round =>
      obtain ⟨k, hk, rfl, hno, hbel⟩ := hrel
      by_cases hlt : k < len
      · have hkl : k < l.length := by rw [HL.out]; exact hlt
        have HF : Hid _ := fun r => @find_before l k hkl r
        have HX : Hid (faultAt l log k = if oneFault l[k] log ≠ 0 then oneFault l[k] log else if seenBefore l k = true then 6 else 0) := by
          unfold Hid faultAt
          rw [List.getElem?_eq_getElem hkl]
        have HRr : Hid (Row wr b off l) := HR.out.below hbel
        obtain ⟨h0, h1, h2, h3, h4, h5, h6⟩ := HRr.out.at_ k hkl
        generalize l[k] = x at h0 h1 h2 h3 h4 h5 h6 HX HF
        go_wp2_with fail
        refine (checkOne_any x _ _).mono ?_
        rintro e w1 ⟨rfl, hb1⟩
        by_cases hz : oneFault x log = 0
        · have hz' : (oneFault x log != 0) = false := by simp [hz]
          have HZ : Hid (oneFault x log = 0) := hz
          obtain ⟨hc1, hf1⟩ := bcell hb1
          have hk0 : (0 : Int) ≤ (k : Int) := by omega
          have hkc : (k : Int) ≤ (cap : Int) := by omega
          have hb2 : Below w.heap.size w w1 := below_after (hbel.alloc (by have := hbel.size; omega) _) hb1
          have HC : Hid (Calls Try.prog 90 #[.slice (some ⟨b, off, none⟩) k cap, chV x] w1.drew fun e w' => ∃ r, e = .returned (.int .i64 r) ∧ FindIs (l.take k) x r ∧ Below w1.drew.heap.size w1.drew w') :=
            find_some b off k cap (l.take k) x w1.drew (by simp; omega) (by omega) ((HR.out.below hb2.drew).take k)
          clear h0 h1 h2 h3 h4 h5 h6 hz
          go_wp2_with fail
          go_region_with (go_at_call 90; refine HC.out.mono ?_; rintro e w2 ⟨r, rfl, hfi, hb3⟩)
          have HFI := HF.out r hfi
          have HB4 : Hid (Below w.heap.size w w2) := below_after hb2.drew hb3
          clear hfi hb3 hb2 hb1 hc1 hf1 HC HF hbel hk0 hkc
          by_cases hr : 0 ≤ r
          · have hs := HFI.1.1 hr
            have HV : Hid (faultAt l log k = 6) := by unfold Hid; rw [HX.out, if_neg (by rw [HZ.out]; simp), if_pos hs]
            clear HFI hs
            go_wp2
            go_ret
            exact ⟨6, rfl, .inr ⟨by rw [HL.out]; omega, .inl ⟨k, by rw [HL.out]; exact hlt, hno.out, HV.out, by decide⟩⟩, HB4.out⟩
          · have hs := HFI.2.1.1 (by omega)
            have HV : Hid (faultAt l log k = 0) := by unfold Hid; rw [HX.out, if_neg (by rw [HZ.out]; simp), if_neg (by rw [hs]; simp)]
            clear HFI hs
            go_wp2
            go_roundw
            case rel => exact ⟨k + 1, by omega, by go_num, fault_step l log k hno.out HV.out, HB4.out⟩
            case measure => simp [intOf]; omega
        · have hz' : (oneFault x log != 0) = true := by simp [hz]
          have HZ : Hid (oneFault x log ≠ 0) := hz
          have hb2 : Below w.heap.size w w1 := below_after (hbel.alloc (by have := hbel.size; omega) _) hb1
          clear h0 h1 h2 h3 h4 h5 h6 hb1 hz HF
          go_wp2
          go_ret
          refine ⟨oneFault x log, rfl, .inr ⟨by rw [HL.out]; omega, .inl ⟨k, by rw [HL.out]; exact hlt, hno.out, ?_, HZ.out⟩⟩, hb2⟩
          rw [HX.out, if_pos HZ.out]
      · obtain rfl : k = len := by omega
        go_wp2
        go_ret
        exact ⟨0, rfl, .inr ⟨by rw [HL.out]; omega, .inr ⟨by rw [HL.out]; exact hno.out, rfl⟩⟩, hbel⟩

end Go.Proofs.Ytnabhdfodckpdac

/-
  The law's own example (charsBegun) is met, in every world.
-/
namespace Go.Proofs.Ytnabhdfodckpdac
open Go.RowKit

theorem own_string {w : World} {base : Nat} {v : Value} {zs : List Int} (h : w.ownsRow base 5 1 v zs.length (cells8 zs)) :
    (convert 84 9 v).run Try.prog w = .ok (.string (strOfNums zs)) w := by
  obtain ⟨h1, h2⟩ := h
  rcases h2 with ⟨rfl, hn⟩ | ⟨g, cap, cur, rfl, hg, hh, hle, hm, hsz, hx⟩
  · obtain rfl : zs = [] := List.length_eq_zero_iff.1 hn
    rw [run_convert_bytes_nil w 84 5 Try.underlying84 Try.underlying5 0 0 9 Try.underlying9]
    rfl
  · refine run_convert_bytes_arg w 84 5 Try.underlying84 Try.underlying5 g 0 zs.length cap zs rfl ?_ 9 Try.underlying9
    intro i hi
    have hown : w.ownsRow base 5 1 (.slice (some ⟨g, 0, none⟩) zs.length cap) zs.length (cells8 zs) := ⟨h1, .inr ⟨g, cap, cur, rfl, hg, hh, hle, hm, hsz, hx⟩⟩
    have := hown.cellAt i (by omega)
    rw [Nat.zero_add, this]
    simp [cells8, List.getElem?_eq_getElem hi, List.getD]

def beg : List Ch := [⟨97, 0, 1, 0, 1, 0, 0⟩, ⟨98, 1, 1, 0, 1073741824, 0, 0⟩, ⟨99, 2, 1, 0, 2, 3, 1⟩]

theorem beg_v1 : vw beg 2 0 = [97] := by decide +kernel
theorem beg_v2 : vw beg 2 1 = [97, 98, 99] := by decide +kernel
theorem beg_v3 : vw beg 3 2 = [97] := by decide +kernel

theorem beg_h0 : hitAt beg 2 1 3 0 = false := by decide +kernel
theorem beg_h1 : hitAt beg 2 1 3 1 = false := by decide +kernel
theorem beg_h2 : hitAt beg 2 1 3 2 = true := by decide +kernel
theorem beg_behind {r : Int} (h : BehindIs beg 2 1 3 r) : r = 3 := by
  rcases h with ⟨h, _⟩ | ⟨_, ⟨k, hk, hno, hyes, rfl⟩ | ⟨hno, _⟩⟩
  · cases h
  · have h3 : k < 3 := hk
    rcases (show k = 0 ∨ k = 1 ∨ k = 2 by omega) with rfl | rfl | rfl
    · rw [beg_h0] at hyes; cases hyes
    · rw [beg_h1] at hyes; cases hyes
    · rfl
  · have := hno 2 (by decide)
    rw [beg_h2] at this; cases this
theorem beg_f0 : faultAt beg 3 0 = 0 := by decide +kernel
theorem beg_f1 : faultAt beg 3 1 = 0 := by decide +kernel
theorem beg_f2 : faultAt beg 3 2 = 0 := by decide +kernel
theorem beg_check {r : Int} (h : CheckIs beg 3 r) : r = 0 := by
  rcases h with ⟨h, _⟩ | ⟨_, ⟨k, hk, _, hyes, hr⟩ | ⟨_, rfl⟩⟩
  · exact absurd h (by decide)
  · have h3 : k < 3 := hk
    rcases (show k = 0 ∨ k = 1 ∨ k = 2 by omega) with rfl | rfl | rfl
    · rw [beg_f0] at hyes; exact absurd hyes.symm hr
    · rw [beg_f1] at hyes; exact absurd hyes.symm hr
    · rw [beg_f2] at hyes; exact absurd hyes.symm hr
  · rfl
theorem beg_s0 : sameAt beg ⟨99, 2, 1, 0, 2, 3, 1⟩ 0 = false := by decide +kernel
theorem beg_s1 : sameAt beg ⟨99, 2, 1, 0, 2, 3, 1⟩ 1 = false := by decide +kernel
theorem beg_s2 : sameAt beg ⟨99, 2, 1, 0, 2, 3, 1⟩ 2 = true := by decide +kernel
theorem beg_find {r : Int} (h : FindIs beg ⟨99, 2, 1, 0, 2, 3, 1⟩ r) : r = 2 := by
  rcases h with ⟨k, hk, _, hyes, rfl⟩ | ⟨hno, _⟩
  · have h3 : k < 3 := hk
    rcases (show k = 0 ∨ k = 1 ∨ k = 2 by omega) with rfl | rfl | rfl
    · rw [beg_s0] at hyes; cases hyes
    · rw [beg_s1] at hyes; cases hyes
    · rfl
  · have := hno 2 (by decide)
    rw [beg_s2] at this; cases this

def begCells : Array Value := #[.int .u8 97, .int .i64 0, .int .i64 1, .int .i64 0, .int .i64 1, .int .i64 0, .int .i64 0, .int .u8 98, .int .i64 1, .int .i64 1, .int .i64 0, .int .i64 1073741824, .int .i64 0, .int .i64 0,
  .int .u8 99, .int .i64 2, .int .i64 1, .int .i64 0, .int .i64 2, .int .i64 3, .int .i64 1]

theorem beg_row (w : World) : Row (w.alloc (.cells begCells 98)) w.heap.size 0 beg := by
  refine ⟨by simp, fun i hi => ?_⟩
  have h3 : i < 3 := hi
  rcases (show i = 0 ∨ i = 1 ∨ i = 2 by omega) with rfl | rfl | rfl <;> unfold At <;> simp [go_sem, begCells, beg]

theorem str_97 : strOfNums [97] = ⟨#[97]⟩ := by rfl
theorem str_abc : strOfNums [97, 98, 99] = ⟨#[97, 98, 99]⟩ := by rfl

end Go.Proofs.Ytnabhdfodckpdac

/-
  The walk of the law CharsBehind, for lists that lie in memory and for those without elements.
-/
namespace Go.Proofs.Ytnabhdfodckpdac
open Go.RowKit

set_option maxRecDepth 20000 in
set_option maxHeartbeats 400000 in
theorem count_empty (a : Option Addr) (cap : Nat) (seen by_ : Int) (w : World) :
    Calls Try.prog 106 #[.slice a 0 cap, .int .i64 seen, .int .i64 by_] w fun e w' => e = .returned (.int .i64 0) ∧ Below w.heap.size w w' := by
  go_enter Try.func106, Try.ntmps106
  go_wp2
  refine wp_loop_rounds 1 ?_
  rw [rounds_succ]
  go_wp2
  go_ret
  exact ⟨rfl, Below.refl _ _⟩

set_option maxRecDepth 20000 in
set_option maxHeartbeats 400000 in
theorem indexFunc_empty (a : Option Addr) (cap : Nat) (f : Value) (w : World) :
    Calls Try.prog 91 #[.slice a 0 cap, f] w fun e w' => e = .returned (.int .i64 (-1)) ∧ Below w.heap.size w w' := by
  go_enter Try.func91, Try.ntmps91
  go_wp2
  refine wp_loop_rounds 1 ?_
  rw [rounds_succ]
  go_wp2
  go_ret
  exact ⟨rfl, Below.refl _ _⟩

def emptyBehind (n : Int) : Int := if n = 0 then 0 else -1

theorem below4 (w : World) (o1 o2 o3 o4 : Obj) : Below w.heap.size w ((((w.alloc o1).alloc o2).alloc o3).alloc o4) :=
  ((((Below.refl _ _).alloc (Nat.le_refl _) _).alloc (by simp) _).alloc (by simp; omega) _).alloc (by simp; omega) _

set_option maxRecDepth 20000 in
set_option maxHeartbeats 400000 in
theorem behind_empty (a : Option Addr) (cap : Nat) (seen by_ n : Int) (w : World) :
    Calls Try.prog 107 #[.slice a 0 cap, .int .i64 seen, .int .i64 by_, .int .i64 n] w fun e w' => e = .returned (.int .i64 (emptyBehind n)) ∧ Below w.heap.size w w' := by
  by_cases h0 : n = 0
  · have h0' : (n == 0) = true := by simp [h0]
    have H0 : Hid (n = 0) := h0
    clear h0
    go_enter Try.func107, Try.ntmps107
    go_wp2
    go_ret
    exact ⟨ret_int (by simp [emptyBehind, H0.out]), (((Below.refl _ _).alloc (Nat.le_refl _) _).alloc (by simp) _).alloc (by simp; omega) _⟩
  · have h0' : (n == 0) = false := by simp [h0]
    have H0 : Hid (n ≠ 0) := h0
    clear h0
    have hmf : ∀ (fn : Fn) (first cap : Array Value) (w : World), (Instr.makeFunc fn first cap).run Try.prog w = .ok (.func fn first cap) w := fun _ _ _ _ => rfl
    go_enter Try.func107, Try.ntmps107
    go_wp2_with fail
    refine (indexFunc_empty _ _ _ _).mono ?_
    rintro e w1 ⟨rfl, hb⟩
    have HB : Hid (Below w.heap.size w w1) := below_after (below4 w _ _ _ _) hb
    clear hb
    go_wp2
    go_ret
    exact ⟨ret_int (by simp [emptyBehind, H0.out]), HB.out⟩

theorem cnt_take_le (l : List Ch) (seen by_ : Int) (k : Nat) : cnt (l.take k) seen by_ ≤ cnt l seen by_ := by
  have h : cnt (l.take k ++ l.drop k) seen by_ = cnt (l.take k) seen by_ + cnt (l.drop k) seen by_ := by
    unfold cnt
    rw [List.filter_append, List.length_append]
    omega
  rw [List.take_append_drop] at h
  have := (cnt_bd (l.drop k) seen by_).1
  omega

theorem hit_iff (l : List Ch) (seen by_ nn : Int) (k : Nat) (hk : k < l.length) : hitAt l seen by_ nn k = true ↔ seesC seen by_ l[k] = true ∧ cnt (l.take (k + 1)) seen by_ = nn := by
  unfold hitAt
  rw [List.getElem?_eq_getElem hk, take_snoc l k hk, cnt_snoc]
  simp only [stepH]
  by_cases h : seesC seen by_ l[k] = true
  · simp [h]
  · simp [h]

theorem hit_ex (l : List Ch) (seen by_ nn : Int) (h1 : 0 < nn) : ∀ m, m ≤ l.length → nn ≤ cnt (l.take m) seen by_ → ∃ k, k < m ∧ hitAt l seen by_ nn k = true := by
  intro m
  induction m with
  | zero => intro _ h; simp [cnt] at h; omega
  | succ m ih =>
    intro hm h
    by_cases hle : nn ≤ cnt (l.take m) seen by_
    · obtain ⟨k, hk, hh⟩ := ih (by omega) hle
      exact ⟨k, by omega, hh⟩
    · refine ⟨m, by omega, (hit_iff l seen by_ nn m (by omega)).2 ?_⟩
      have hs := cnt_snoc (l.take m) l[m] seen by_
      rw [← take_snoc l m (by omega)] at hs
      by_cases hx : seesC seen by_ l[m] = true
      · rw [if_pos hx] at hs
        exact ⟨hx, by omega⟩
      · rw [if_neg hx] at hs
        omega

theorem behind_none {l : List Ch} {seen by_ n r : Int} (h : BehindIs l seen by_ n r) (hn : n < 0 ∨ cnt l seen by_ < n) : r = -1 := by
  rcases h with ⟨rfl, _⟩ | ⟨_, ⟨k, hk, _, hyes, _⟩ | ⟨_, hr⟩⟩
  · have := (cnt_bd l seen by_).1
    omega
  · have h1 := ((hit_iff l seen by_ n k hk).1 hyes).2
    have h2 := cnt_take_le l seen by_ (k + 1)
    have h3 := (cnt_bd (l.take (k + 1)) seen by_).1
    omega
  · exact hr

theorem behind_zero {l : List Ch} {seen by_ r : Int} (h : BehindIs l seen by_ 0 r) : r = 0 := by
  rcases h with ⟨_, hr⟩ | ⟨h, _⟩
  · exact hr
  · exact absurd rfl h

theorem behind_pos {l : List Ch} {seen by_ n r : Int} (h : BehindIs l seen by_ n r) (h0 : 0 < n) (hn : n ≤ cnt l seen by_) :
    ∃ m : Nat, ∃ hm : m < l.length, r = m + 1 ∧ cnt (l.take (m + 1)) seen by_ = n ∧ seesC seen by_ l[m] = true := by
  rcases h with ⟨rfl, _⟩ | ⟨_, ⟨k, hk, _, hyes, hr⟩ | ⟨hno, _⟩⟩
  · omega
  · have h1 := (hit_iff l seen by_ n k hk).1 hyes
    exact ⟨k, hk, hr, h1.2, h1.1⟩
  · obtain ⟨k, hk, hh⟩ := hit_ex l seen by_ n h0 l.length (Nat.le_refl _) (by rw [List.take_length]; exact hn)
    rw [hno k hk] at hh
    cases hh

end Go.Proofs.Ytnabhdfodckpdac

/-
  A list of bytes as a value, empty or not: the contracts of Count, View, Behind and Check over it; the text of what one sees.
-/
namespace Go.Proofs.Ytnabhdfodckpdac
open Go.RowKit

/-- The value is a slice that holds just that list; of one without elements nothing is asked of its memory. -/
def Lst (w : World) (v : Value) (l : List Ch) : Prop :=
  ∃ (a : Option Addr) (len cap : Nat), v = .slice a len cap ∧ l.length = len ∧ len ≤ cap ∧ (len = 0 ∨ ∃ b off, a = some ⟨b, off, none⟩ ∧ Row w b off l)

theorem Lst.below {w w' : World} {v : Value} {l : List Ch} (h : Lst w v l) (hb : Below w.heap.size w w') : Lst w' v l := by
  obtain ⟨a, len, cap, rfl, h1, h2, h3⟩ := h
  refine ⟨a, len, cap, rfl, h1, h2, ?_⟩
  rcases h3 with h3 | ⟨b, off, rfl, hr⟩
  · exact .inl h3
  · exact .inr ⟨b, off, rfl, hr.below hb⟩

theorem lst_nil (w : World) : Lst w (.slice none 0 0) [] := ⟨none, 0, 0, rfl, rfl, Nat.le_refl _, .inl rfl⟩

set_option maxRecDepth 20000 in
set_option maxHeartbeats 400000 in
theorem view_empty (a : Option Addr) (cap : Nat) (seen by_ : Int) (w : World) :
    Calls Try.prog 42 #[.slice a 0 cap, .int .i64 seen, .int .i64 by_] w fun e w' => e = .returned (.slice none 0 0) ∧ Below w.heap.size w w' := by
  go_enter Try.func42, Try.ntmps42
  go_wp2
  refine wp_loop_rounds 1 ?_
  rw [rounds_succ]
  go_wp2
  go_ret
  exact ⟨rfl, Below.refl _ _⟩

set_option maxRecDepth 20000 in
set_option maxHeartbeats 400000 in
theorem check_empty (a : Option Addr) (cap : Nat) (log : Int) (w : World) :
    Calls Try.prog 63 #[.slice a 0 cap, .int .i64 log] w fun e w' => e = .returned (.int .i64 0) ∧ Below w.heap.size w w' := by
  go_enter Try.func63, Try.ntmps63
  go_wp2
  refine wp_loop_rounds 1 ?_
  rw [rounds_succ]
  go_wp2
  go_ret
  exact ⟨rfl, Below.refl _ _⟩

theorem count_lst {w : World} {v : Value} {l : List Ch} (h : Lst w v l) (hl : l.length ≤ 1000) (seen by_ : Int) :
    Calls Try.prog 106 #[v, .int .i64 seen, .int .i64 by_] w fun e w' => e = .returned (.int .i64 (cnt l seen by_)) ∧ Below w.heap.size w w' := by
  obtain ⟨a, len, cap, rfl, h1, h2, h3⟩ := h
  rcases h3 with rfl | ⟨b, off, rfl, hr⟩
  · obtain rfl : l = [] := List.length_eq_zero_iff.1 h1
    exact count_empty a cap seen by_ w
  · exact count_some b off len cap l seen by_ w h1 (by omega) hr

theorem check_lst {w : World} {v : Value} {l : List Ch} (h : Lst w v l) (hl : l.length ≤ 1000) (log : Int) :
    Calls Try.prog 63 #[v, .int .i64 log] w fun e w' => ∃ r, e = .returned (.int .i64 r) ∧ CheckIs l log r ∧ Below w.heap.size w w' := by
  obtain ⟨a, len, cap, rfl, h1, h2, h3⟩ := h
  rcases h3 with rfl | ⟨b, off, rfl, hr⟩
  · obtain rfl : l = [] := List.length_eq_zero_iff.1 h1
    refine (check_empty a cap log w).mono ?_
    rintro e w' ⟨rfl, hb⟩
    exact ⟨0, rfl, .inr ⟨by decide, .inr ⟨fun j hj => absurd hj (Nat.not_lt_zero _), rfl⟩⟩, hb⟩
  · exact check_some b off len cap l log w h1 h2 (by omega) hr

/-- What View answers, and that its text is what one sees. -/
theorem view_lst {w : World} {v : Value} {l : List Ch} (h : Lst w v l) (hl : l.length ≤ 1000) (seen by_ : Int) :
    Calls Try.prog 42 #[v, .int .i64 seen, .int .i64 by_] w fun e w' =>
      ∃ u, e = .returned u ∧ (convert 84 9 u).run Try.prog w' = .ok (.string (strOfNums (vw l seen by_))) w' ∧ Below w.heap.size w w' := by
  obtain ⟨a, len, cap, rfl, h1, h2, h3⟩ := h
  rcases h3 with rfl | ⟨b, off, rfl, hr⟩
  · obtain rfl : l = [] := List.length_eq_zero_iff.1 h1
    refine (view_empty a cap seen by_ w).mono ?_
    rintro e w' ⟨rfl, hb⟩
    exact ⟨_, rfl, own_string (base := w'.heap.size) (zs := []) (World.ownsRow_nil _ _ _ _), hb⟩
  · refine (view_some b off len cap l seen by_ w h1 (by omega) hr).mono ?_
    rintro e w' ⟨u, rfl, ho, hb⟩
    exact ⟨u, rfl, own_string ho, hb⟩

/-- Two texts of bytes are the same just where the numbers are. -/
theorem strOfNums_app (a b : List Int) : strOfNums (a ++ b) = strOfNums a ++ strOfNums b := by
  cases hs : strOfNums a ++ strOfNums b with
  | mk d =>
    have h1 : d.toList = (strOfNums a).data.toList ++ (strOfNums b).data.toList := by
      have := congrArg (fun s : ByteArray => s.data.toList) hs
      simpa using this.symm
    have h2 : (strOfNums (a ++ b)).data.toList = d.toList := by rw [h1, strOfNums_data, strOfNums_data, strOfNums_data, List.map_append]
    cases hd : strOfNums (a ++ b) with
    | mk d' =>
      rw [hd] at h2
      have : d' = d := Array.toList_inj.1 h2
      rw [this]

theorem strOfNums_size (a : List Int) : (strOfNums a).size = a.length := by
  show (strOfNums a).data.size = a.length
  rw [← Array.length_toList, strOfNums_data, List.length_map]

end Go.Proofs.Ytnabhdfodckpdac

/-
  Plain mathematics of a deed: what may be done, and its line. No walk.
-/
namespace Go.Proofs.Ytnabhdfodckpdac
open Go.RowKit

/-- A deed, as numbers and bytes. -/
structure Dd where
  kind : Int
  by_ : Int
  no : Int
  seen : Int
  at_ : Int
  many : Int
  text : ByteArray

abbrev ddV (d : Dd) : Value := .agg #[.int .i64 d.kind, .int .i64 d.by_, .int .i64 d.no, .int .i64 d.seen, .int .i64 d.at_, .int .i64 d.many, .string d.text]

def okChar (b : UInt8) : Bool := decide (32 ≤ b.toNat ∧ b.toNat ≤ 126)
def printedB (s : ByteArray) : Bool := decide (1 ≤ s.size ∧ s.size ≤ 20) && s.data.toList.all okChar
def placedB (d : Dd) : Bool := wrB d.by_ && (withinB d.no 1 120 && (withinB d.seen 0 120 && withinB d.at_ 0 200))
def putC (d : Dd) : Int := if d.many ≠ 0 then 3 else if printedB d.text = true then 0 else 4
def takeC (d : Dd) : Int := if d.text.size ≠ 0 then 3 else if withinB d.many 1 200 = true then 0 else 1
def checkC (d : Dd) : Int := if d.kind ≠ 1 ∧ d.kind ≠ 2 then 2 else if placedB d = false then 1 else if d.kind = 1 then putC d else takeC d

theorem size_list (s : ByteArray) : s.data.toList.length = s.size := rfl

theorem getB (s : ByteArray) (k : Nat) (h : k < s.size) : s.data.toList[k]'h = s[k] := rfl

theorem all_take_succ (s : ByteArray) (k : Nat) (h : k < s.size) : (s.data.toList.take (k + 1)).all okChar = ((s.data.toList.take k).all okChar && okChar s[k]) := by
  rw [List.take_add_one, List.getElem?_eq_getElem h, Option.toList_some, List.all_append, getB s k h, List.all_cons, List.all_nil, Bool.and_true]

theorem all_no (s : ByteArray) (k : Nat) (h : k < s.size) (hk : okChar s[k] = false) : s.data.toList.all okChar = false := by
  rw [List.all_eq_false]
  exact ⟨s[k], by rw [← getB s k h]; exact List.getElem_mem _, by simp [hk]⟩

theorem ba_empty {s : ByteArray} (h : s.size = 0) : s = ⟨#[]⟩ := by
  cases s with
  | mk d => have : d.size = 0 := h
            have : d = #[] := Array.eq_empty_of_size_eq_zero this
            rw [this]

theorem ba_ext {a b : ByteArray} (h : a.data.toList = b.data.toList) : a = b := by
  cases a; cases b; simp at h; rw [h]

theorem ba_beq_list (a : ByteArray) (l : List UInt8) : (a.toList == l) = decide (a = ⟨l.toArray⟩) := by
  rw [ByteArray.toList_eq]
  by_cases h : a = ⟨l.toArray⟩
  · simp [h]
  · have : a.data.toList ≠ l := fun e => h (ba_ext (by simpa using e))
    simp only [h, decide_false]
    exact beq_eq_false_iff_ne.2 this

theorem ba_beq (a b : ByteArray) : (a.toList == b.toList) = decide (a = b) := by
  rw [ByteArray.toList_eq, ByteArray.toList_eq]
  by_cases h : a = b
  · simp [h]
  · have : a.data.toList ≠ b.data.toList := fun e => h (ba_ext e)
    simp only [h, decide_false]
    exact beq_eq_false_iff_ne.2 this

end Go.Proofs.Ytnabhdfodckpdac
