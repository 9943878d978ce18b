/-
  Plain mathematics of texts that are put together; what a deed makes of what its writer sees. No walk.
-/
import Derived.Test.YtgcklgiapjbkhaaFBegun
namespace Go.Proofs.Ytgcklgiapjbkhaa
open Go.RowKit

theorem strOfNums_nums (s : ByteArray) : strOfNums (nums s) = s := by
  apply ba_ext
  rw [strOfNums_data]
  unfold nums
  rw [List.map_map]
  conv => rhs; rw [← List.map_id s.data.toList]
  apply List.map_congr_left
  intro b _
  simp

theorem str_take (zs : List Int) (k : Nat) : (strOfNums zs).extract 0 k = strOfNums (zs.take k) := by
  apply ba_ext
  rw [ByteArray.data_extract, Array.toList_extract, strOfNums_data, strOfNums_data, List.extract_eq_take_drop, List.map_take]
  simp

theorem str_drop (zs : List Int) (k : Nat) : (strOfNums zs).extract k (strOfNums zs).size = strOfNums (zs.drop k) := by
  apply ba_ext
  rw [ByteArray.data_extract, Array.toList_extract, strOfNums_data, strOfNums_data, List.extract_eq_take_drop, strOfNums_size, List.map_drop, List.take_of_length_le]
  simp

/-- What a deed that puts in makes of the text that its writer sees. -/
theorem splice_put {l : List Ch} {d : Dd} {number : Int} (hc : doC l d number = 0) (hk : d.kind = 1) :
    strOfNums (vw (doL l d number) d.seen d.by_) = (strOfNums (vw l d.seen d.by_)).extract 0 d.at_.toNat ++ d.text ++ (strOfNums (vw l d.seen d.by_)).extract d.at_.toNat (strOfNums (vw l d.seen d.by_)).size := by
  obtain ⟨h1, h2, _, _⟩ := doC_zero hc
  obtain ⟨_, _, _, _, _, p1, _, _, p3, _⟩ := check_parts h1
  rw [put_splices hk (by omega) (by unfold openN; omega), str_take, str_drop, strOfNums_app, strOfNums_app, strOfNums_nums, ByteArray.append_assoc]

theorem splice_take {l : List Ch} {d : Dd} {number : Int} (hc : doC l d number = 0) (hk : d.kind ≠ 1) :
    strOfNums (vw (doL l d number) d.seen d.by_) = (strOfNums (vw l d.seen d.by_)).extract 0 d.at_.toNat ++ (strOfNums (vw l d.seen d.by_)).extract (d.at_ + d.many).toNat (strOfNums (vw l d.seen d.by_)).size := by
  obtain ⟨h1, h2, _, _⟩ := doC_zero hc
  obtain ⟨_, hw, _, _, _, p1, _, _, p3, _⟩ := check_parts h1
  rw [take_splices hk hw p3, str_take, str_drop, strOfNums_app]

end Go.Proofs.Ytgcklgiapjbkhaa
