/-
  The law's own example (charsBegun) is met, in every world.
-/
import Derived.Test.YtgcklgiapjbkhaaBehind
import Derived.Test.YtgcklgiapjbkhaaCheck
import Derived.Laws.BytesArg
namespace Go.Proofs.Ytgcklgiapjbkhaa
open Go.RowKit

theorem own_string {w : World} {base : Nat} {v : Value} {zs : List Int} (h : w.ownsRow base 5 1 v zs.length (cells8 zs)) :
    (convert 33 9 v).run Try.prog w = .ok (.string (strOfNums zs)) w := by
  obtain ⟨h1, h2⟩ := h
  rcases h2 with ⟨rfl, hn⟩ | ⟨g, cap, cur, rfl, hg, hh, hle, hm, hsz, hx⟩
  · obtain rfl : zs = [] := List.length_eq_zero_iff.1 hn
    rw [run_convert_bytes_nil w 33 5 Try.underlying33 Try.underlying5 0 0 9 Try.underlying9]
    rfl
  · refine run_convert_bytes_arg w 33 5 Try.underlying33 Try.underlying5 g 0 zs.length cap zs rfl ?_ 9 Try.underlying9
    intro i hi
    have hown : w.ownsRow base 5 1 (.slice (some ⟨g, 0, none⟩) zs.length cap) zs.length (cells8 zs) := ⟨h1, .inr ⟨g, cap, cur, rfl, hg, hh, hle, hm, hsz, hx⟩⟩
    have := hown.cellAt i (by omega)
    rw [Nat.zero_add, this]
    simp [cells8, List.getElem?_eq_getElem hi, List.getD]

def beg : List Ch := [⟨97, 0, 1, 0, 1, 0, 0⟩, ⟨98, 1, 1, 0, 1073741824, 0, 0⟩, ⟨99, 2, 1, 0, 2, 3, 1⟩]

theorem beg_v1 : vw beg 2 0 = [97] := by decide +kernel
theorem beg_v2 : vw beg 2 1 = [97, 98, 99] := by decide +kernel
theorem beg_v3 : vw beg 3 2 = [97] := by decide +kernel

theorem beg_h0 : hitAt beg 2 1 3 0 = false := by decide +kernel
theorem beg_h1 : hitAt beg 2 1 3 1 = false := by decide +kernel
theorem beg_h2 : hitAt beg 2 1 3 2 = true := by decide +kernel
theorem beg_behind {r : Int} (h : BehindIs beg 2 1 3 r) : r = 3 := by
  rcases h with ⟨h, _⟩ | ⟨_, ⟨k, hk, hno, hyes, rfl⟩ | ⟨hno, _⟩⟩
  · cases h
  · have h3 : k < 3 := hk
    rcases (show k = 0 ∨ k = 1 ∨ k = 2 by omega) with rfl | rfl | rfl
    · rw [beg_h0] at hyes; cases hyes
    · rw [beg_h1] at hyes; cases hyes
    · rfl
  · have := hno 2 (by decide)
    rw [beg_h2] at this; cases this
theorem beg_f0 : faultAt beg 3 0 = 0 := by decide +kernel
theorem beg_f1 : faultAt beg 3 1 = 0 := by decide +kernel
theorem beg_f2 : faultAt beg 3 2 = 0 := by decide +kernel
theorem beg_check {r : Int} (h : CheckIs beg 3 r) : r = 0 := by
  rcases h with ⟨h, _⟩ | ⟨_, ⟨k, hk, _, hyes, hr⟩ | ⟨_, rfl⟩⟩
  · exact absurd h (by decide)
  · have h3 : k < 3 := hk
    rcases (show k = 0 ∨ k = 1 ∨ k = 2 by omega) with rfl | rfl | rfl
    · rw [beg_f0] at hyes; exact absurd hyes.symm hr
    · rw [beg_f1] at hyes; exact absurd hyes.symm hr
    · rw [beg_f2] at hyes; exact absurd hyes.symm hr
  · rfl
theorem beg_s0 : sameAt beg ⟨99, 2, 1, 0, 2, 3, 1⟩ 0 = false := by decide +kernel
theorem beg_s1 : sameAt beg ⟨99, 2, 1, 0, 2, 3, 1⟩ 1 = false := by decide +kernel
theorem beg_s2 : sameAt beg ⟨99, 2, 1, 0, 2, 3, 1⟩ 2 = true := by decide +kernel
theorem beg_find {r : Int} (h : FindIs beg ⟨99, 2, 1, 0, 2, 3, 1⟩ r) : r = 2 := by
  rcases h with ⟨k, hk, _, hyes, rfl⟩ | ⟨hno, _⟩
  · have h3 : k < 3 := hk
    rcases (show k = 0 ∨ k = 1 ∨ k = 2 by omega) with rfl | rfl | rfl
    · rw [beg_s0] at hyes; cases hyes
    · rw [beg_s1] at hyes; cases hyes
    · rfl
  · have := hno 2 (by decide)
    rw [beg_s2] at this; cases this

def begCells : Array Value := #[.int .u8 97, .int .i64 0, .int .i64 1, .int .i64 0, .int .i64 1, .int .i64 0, .int .i64 0, .int .u8 98, .int .i64 1, .int .i64 1, .int .i64 0, .int .i64 1073741824, .int .i64 0, .int .i64 0,
  .int .u8 99, .int .i64 2, .int .i64 1, .int .i64 0, .int .i64 2, .int .i64 3, .int .i64 1]

theorem beg_row (w : World) : Row (w.alloc (.cells begCells 28)) w.heap.size 0 beg := by
  refine ⟨by simp, fun i hi => ?_⟩
  have h3 : i < 3 := hi
  rcases (show i = 0 ∨ i = 1 ∨ i = 2 by omega) with rfl | rfl | rfl <;> unfold At <;> simp [go_sem, begCells, beg]

theorem str_97 : strOfNums [97] = ⟨#[97]⟩ := by rfl
theorem str_abc : strOfNums [97, 98, 99] = ⟨#[97, 98, 99]⟩ := by rfl

set_option maxHeartbeats 400000 in
theorem begun_any (w : World) :
    Calls Try.prog 10 #[] w fun e w' => e = .returned (.bool true) ∧ Below w.heap.size w w' := by
  have HB0 : Hid _ := (Below.refl w.heap.size w).alloc (Nat.le_refl _) (.cells begCells 28)
  have HR0 : Hid _ := beg_row w
  unfold begCells at HB0 HR0
  go_enter Try.func10, Try.ntmps10
  go_wp2_with fail
  refine (view_some w.heap.size 0 3 3 beg 2 0 _ rfl (by decide) HR0.out).mono ?_
  rintro e w1 ⟨v1, rfl, ho1, hb1⟩
  have HB1 : Hid (Below w.heap.size w w1) := below_after HB0.out hb1
  have HR1 : Hid (Row w1 w.heap.size 0 beg) := HR0.out.below hb1
  rw [beg_v1] at ho1
  have hs1 := own_string ho1
  rw [str_97] at hs1
  clear HB0 HR0 hb1 ho1
  go_wp2_with fail
  clear hs1
  refine (view_some w.heap.size 0 3 3 beg 2 1 _ rfl (by decide) HR1.out).mono ?_
  rintro e w2 ⟨v2, rfl, ho2, hb2⟩
  have HB2 : Hid (Below w.heap.size w w2) := below_after HB1.out hb2
  have HR2 : Hid (Row w2 w.heap.size 0 beg) := HR1.out.below hb2
  rw [beg_v2] at ho2
  have hs2 := own_string ho2
  rw [str_abc] at hs2
  clear HB1 HR1 hb2 ho2
  go_wp2_with fail
  clear hs2
  refine (view_some w.heap.size 0 3 3 beg 3 2 _ rfl (by decide) HR2.out).mono ?_
  rintro e w3 ⟨v3, rfl, ho3, hb3⟩
  have HB3 : Hid (Below w.heap.size w w3) := below_after HB2.out hb3
  have HR3 : Hid (Row w3 w.heap.size 0 beg) := HR2.out.below hb3
  rw [beg_v3] at ho3
  have hs3 := own_string ho3
  rw [str_97] at hs3
  clear HB2 HR2 hb3 ho3
  go_wp2_with fail
  clear hs3
  refine (behind_some w.heap.size 0 3 3 beg 2 1 3 _ rfl (by decide) HR3.out).mono ?_
  rintro e w4 ⟨r4, rfl, hr4, hb4⟩
  have HB4 : Hid (Below w.heap.size w w4) := below_after HB3.out hb4
  have HR4 : Hid (Row w4 w.heap.size 0 beg) := HR3.out.below hb4
  rw [beg_behind hr4]
  clear HB3 HR3 hb4 hr4
  go_wp2_with fail
  refine (check_some w.heap.size 0 3 3 beg 3 _ rfl (by decide) (by decide) HR4.out).mono ?_
  rintro e w5 ⟨r5, rfl, hr5, hb5⟩
  have HB5 : Hid (Below w.heap.size w w5) := below_after HB4.out hb5
  have HR5 : Hid (Row w5 w.heap.size 0 beg) := HR4.out.below hb5
  rw [beg_check hr5]
  clear HB4 HR4 hb5 hr5
  have hat : At w5 w.heap.size 14 ⟨99, 2, 1, 0, 2, 3, 1⟩ := HR5.out.at_ 2 (by decide)
  obtain ⟨a0, a1, a2, a3, a4, a5, a6⟩ := hat
  simp only [Nat.reduceAdd] at a1 a2 a3 a4 a5 a6
  go_wp2_with fail
  refine (find_some w.heap.size 0 3 3 beg ⟨99, 2, 1, 0, 2, 3, 1⟩ _ rfl (by decide) HR5.out).mono ?_
  rintro e w6 ⟨r6, rfl, hr6, hb6⟩
  have HB6 : Hid (Below w.heap.size w w6) := below_after HB5.out hb6
  rw [beg_find hr6]
  clear HB5 HR5 hb6 hr6 a0 a1 a2 a3 a4 a5 a6
  go_wp2_with fail
  refine (writer_any 3 _).mono ?_
  rintro e w7 ⟨rfl, rfl⟩
  rw [show wrB 3 = true from rfl]
  go_wp2
  go_ret
  exact ⟨rfl, HB6.out⟩

end Go.Proofs.Ytgcklgiapjbkhaa
