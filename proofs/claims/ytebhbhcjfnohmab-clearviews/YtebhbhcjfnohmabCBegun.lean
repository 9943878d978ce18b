/-
  The law's own example (clearBegun) is met, in every world; the reference's FindIn; the law's own apart.
-/
import Derived.Test.YtebhbhcjfnohmabCDel
import Derived.Test.YtebhbhcjfnohmabCSlide
namespace Go.Proofs.Ytebhbhcjfnohmab
open Go.RowKit

def begC : List Ch := [⟨97, 0, 1, 0, 1, 2, 1⟩, ⟨98, 0, 1, 1, 1, 0, 0⟩]
def begCells2 : Array Value := #[.int .u8 97, .int .i64 0, .int .i64 1, .int .i64 0, .int .i64 1, .int .i64 2, .int .i64 1, .int .u8 98, .int .i64 0, .int .i64 1, .int .i64 1, .int .i64 1, .int .i64 0, .int .i64 0]

theorem begC_lst (w : World) : Lst (w.alloc (.cells begCells2 65)) (.slice (some ⟨w.heap.size, 0, none⟩) 2 2) begC := by
  refine ⟨_, _, _, rfl, rfl, Nat.le_refl _, .inr ⟨_, _, rfl, by simp, fun i hi => ?_⟩⟩
  have h3 : i < 2 := hi
  rcases (show i = 0 ∨ i = 1 by omega) with rfl | rfl <;> unfold At <;> simp [go_sem, begCells2, begC]

theorem begC_at : atZ begC 1 = ⟨false, 0, 1, 0⟩ ∧ hasB begC 1 = true := by decide +kernel
theorem begC_slide : slideM begC ⟨false, 0, 1, 0⟩ 2 = ⟨true, 0, 0, 0⟩ ∧ decide (0 ≤ placeM begC ⟨false, 0, 1, 0⟩) = true := by decide +kernel
theorem begC_place : placeM begC ⟨false, 0, 1, 0⟩ = 1 := by decide +kernel
theorem begC_of2 : (ofL 2 begC).length = 1 := by decide +kernel
theorem begC_of1 : (ofL 1 begC).length = 2 := by decide +kernel
theorem begC_done : doneB 2 ⟨97, 0, 1, 0, 1, 2, 1⟩ = true := by decide +kernel

theorem own_len {w : World} {base : Nat} {v : Value} {l : List Ch} {n : Nat} (h : Own w base v l) (hn : l.length = n) : ∃ a cap, v = .slice a n cap ∧ n ≤ cap := by
  subst hn; exact h.lst.len

set_option maxRecDepth 20000 in
set_option maxHeartbeats 800000 in
theorem clearBegun_any (w : World) :
    Calls Try.prog 38 #[] w fun e w' => e = .returned (.bool true) ∧ Below w.heap.size w w' := by
  have HL0 : Hid (Lst _ _ begC) := begC_lst w
  have HB0 : Hid (Below w.heap.size w (w.alloc (.cells begCells2 65))) := below1 _ _
  unfold begCells2 at HL0 HB0
  go_enter Try.func38, Try.ntmps38
  go_wp2_with fail
  refine (at_lst 1 HL0.out (by decide)).mono ?_
  rintro e w1 ⟨rfl, hb⟩
  have HL1 : Hid (Lst _ _ begC) := (HL0.out.below hb).below (below1 w1 (mObj ⟨false, 0, 1, 0⟩))
  have HB1 : Hid _ := below_after (below_after HB0.out hb) (below1 w1 (mObj ⟨false, 0, 1, 0⟩))
  have HM1 : Hid _ := mbox_start w1 ⟨false, 0, 1, 0⟩
  rw [begC_at.1, begC_at.2]
  unfold mObj at HL1 HB1
  clear hb HL0 HB0
  go_wp2_with fail
  refine (slide_lst ⟨false, 0, 1, 0⟩ 2 HL1.out (by decide)).mono ?_
  rintro e w2 ⟨rfl, hb⟩
  have HL2 : Hid (Lst _ _ begC) := (HL1.out.below hb).below (below1 w2 (mObj ⟨true, 0, 0, 0⟩))
  have HB2 : Hid _ := below_after (below_after HB1.out hb) (below1 w2 (mObj ⟨true, 0, 0, 0⟩))
  have HM2 : Hid _ := (HM1.out.after hb).after (below1 w2 (mObj ⟨true, 0, 0, 0⟩))
  rw [begC_slide.1, begC_slide.2]
  unfold mObj at HL2 HB2 HM2
  clear hb HL1 HB1 HM1
  obtain ⟨_, c0, c1, c2, c3⟩ := HM2.out
  simp only at c0 c1 c2 c3
  go_wp2_with fail
  refine (place_lst ⟨false, 0, 1, 0⟩ HL2.out (by decide)).mono ?_
  rintro e w3 ⟨rfl, hb⟩
  have HL3 : Hid (Lst _ _ begC) := HL2.out.below hb
  have HB3 : Hid _ := below_after HB2.out hb
  rw [begC_place]
  clear hb HL2 HB2 HM2 c0 c1 c2 c3
  go_wp2_with fail
  refine (of_lst 2 HL3.out (by decide)).mono ?_
  rintro e w4 ⟨v4, rfl, ho, hb⟩
  have HL4 : Hid (Lst _ _ begC) := HL3.out.below hb
  have HB4 : Hid _ := below_after HB3.out hb
  obtain ⟨a4, p4, rfl, _⟩ := own_len ho begC_of2
  clear hb ho HL3 HB3
  go_wp2_with fail
  refine (of_lst 1 HL4.out (by decide)).mono ?_
  rintro e w5 ⟨v5, rfl, ho, hb⟩
  have HL5 : Hid (Lst _ _ begC) := HL4.out.below hb
  have HB5 : Hid _ := below_after HB4.out hb
  obtain ⟨a5, p5, rfl, _⟩ := own_len ho begC_of1
  clear hb ho HL4 HB4
  obtain ⟨b', o', e', _, r'⟩ := HL5.out.row (by omega)
  cases e'
  have hat : At w5 w.heap.size 0 ⟨97, 0, 1, 0, 1, 2, 1⟩ := r'.at_ 0 (by decide)
  obtain ⟨g0, g1, g2, g3, g4, g5, g6⟩ := hat
  simp only [Nat.zero_add] at g0 g1 g2 g3 g4 g5 g6
  clear r' HL5
  go_wp2_with fail
  refine (done_any ⟨97, 0, 1, 0, 1, 2, 1⟩ 2 _).mono ?_
  rintro e w6 ⟨rfl, hb⟩
  have HB6 : Hid _ := below_after HB5.out hb
  rw [begC_done]
  clear hb HB5 g0 g1 g2 g3 g4 g5 g6
  go_wp2
  go_ret
  exact ⟨rfl, HB6.out⟩

end Go.Proofs.Ytebhbhcjfnohmab
