/-
  The law's own example (deedBegun) is met, in every world that holds what the library's functions need.
-/
import Derived.Test.YtnnfddemhhpfoaaDoorDBack
namespace Go.Proofs.YtnnfddemhhpfoaaDoor
open Go.RowKit

def begD : Dd := ⟨1, 1, 2, 3, 4, 0, ⟨#[97, 32, 98]⟩⟩

theorem begD_check : checkC begD = 0 := by decide +kernel

theorem strI_one (n : Nat) (h : n < 10) : strI n = ⟨#[UInt8.ofNat (48 + n)]⟩ := by
  rw [strI, Lib.itoa, if_neg (by omega), Int.toNat_natCast, Lib.decDigits_one h]

theorem begD_line : lineS begD = ⟨#[112, 117, 116, 32, 49, 32, 50, 32, 51, 32, 52, 32, 97, 32, 98]⟩ := by
  rw [lineS, if_pos begD_check, lineB, if_pos (show begD.kind = 1 from rfl)]
  have e1 := strI_one 1 (by decide)
  have e2 := strI_one 2 (by decide)
  have e3 := strI_one 3 (by decide)
  have e4 := strI_one 4 (by decide)
  refine ba_ext ?_
  simp only [data_app, toldB, List.foldl_cons, List.foldl_nil, begD]
  rw [show strI (1 : Int) = _ from e1, show strI (2 : Int) = _ from e2, show strI (3 : Int) = _ from e3, show strI (4 : Int) = _ from e4]
  decide

theorem begD_parse : parseD (lineS begD) = some begD := line_back begD_check

set_option maxHeartbeats 400000 in
theorem begun_any (w : World) (hw : Ready w) :
    Calls Tryd.prog 6 #[] w fun e w' => e = .returned (.bool true) ∧ Below w.heap.size w w' := by
  have HW : Hid _ := hw
  clear hw
  go_enter Tryd.func6, Tryd.ntmps6
  go_wp2_with fail
  refine (line_any begD _ HW.out).mono ?_
  rintro e w1 ⟨rfl, hb1⟩
  rw [begD_check]
  go_wp2_with fail
  refine (parse_any (lineS begD) _ (HW.out.below hb1) (by have := lineS_size begD; omega)).mono ?_
  rintro e w2 ⟨rfl, hb2⟩
  rw [begD_parse, show valD (some begD) = begD by rw [valD, if_pos begD_check], show codeD (some begD) = 0 from begD_check, begD_line]
  have HB2 : Hid (Below w.heap.size w w2) := below_after hb1 hb2
  clear hb1 hb2
  unfold begD
  go_wp2_with fail
  refine (check_any zeroD _).mono ?_
  rintro e w3 ⟨rfl, hb3⟩
  rw [show checkC zeroD = 2 from by decide +kernel]
  go_wp2
  go_ret
  exact ⟨rfl, below_after (HB2.out.alloc HB2.out.size _) hb3⟩

end Go.Proofs.YtnnfddemhhpfoaaDoor
