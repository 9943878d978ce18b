/-
  The contract of fold.New.
-/
import Derived.Test.YtebhbhcjfnohmabFClone
import Derived.Test.YtebhbhcjfnohmabFStage
import Derived.BigRegion
namespace Go.Proofs.Ytebhbhcjfnohmab
open Go.RowKit

theorem run_makeChars (n : Nat) (hn : n ≤ 100000) (w : World) : (Instr.makeSlice 29 (.int .i64 n) (.int .i64 n)).run Try.prog w = .ok (.slice (some ⟨w.heap.size, 0, none⟩) n n) (w.alloc (.cells (madeCells zeroCh.cells (n * 7)) 65)) := by
  obtain ⟨i0, hi, hz0, hz1, hz2⟩ := info_parts Try.infoChar
  have := run_make (P := Try.prog) w 29 65 i0 zeroCh Try.underlying29 hi hz0 .i64 .i64 n n (by omega) (Int.le_refl _) (by rw [hz2]; omega) (by omega)
  simp only [Int.toNat_natCast, hz1] at this
  exact this

/-- Seven cells set one behind the other. -/
theorem set_seven (p r : List Value) (x : Ch) (m : Nat) (hm : p.length = m) (hr : 7 ≤ r.length) :
    (((((((p ++ r).set m (.int .u8 x.c)).set (m + 1) (.int .i64 x.by_)).set (m + 2) (.int .i64 x.no)).set (m + 3) (.int .i64 x.k)).set (m + 4) (.int .i64 x.inn)).set (m + 5) (.int .i64 x.out)).set (m + 6) (.int .i64 x.gone) = p ++ chCells x ++ r.drop 7 := by
  subst hm
  match r, hr with
  | r0 :: r1 :: r2 :: r3 :: r4 :: r5 :: r6 :: r, _ =>
    simp [chCells]

theorem newFrom_take (d : Dd) (n : Int) (k : Nat) (h : k < d.text.size) : newFrom d n 0 (d.text.data.toList.take (k + 1)) = newFrom d n 0 (d.text.data.toList.take k) ++ [newCh d n k d.text[k]] := by
  have hk : k < d.text.data.toList.length := h
  rw [List.take_add_one, List.getElem?_eq_getElem hk, Option.toList_some, getB d.text k h, newFrom_snoc, Nat.zero_add, List.length_take]
  congr 3
  omega

/-- In the middle of New: the deed lies in a block of its own, the list in the next one; k bytes are there. -/
structure NInv (w : World) (d : Dd) (n : Int) (k : Nat) (wr : World) : Prop where
  below : Below (w.heap.size + 1) (w.alloc (dObj d)) wr
  own : ∃ r, wr.ownsRow w.heap.size 65 7 (.slice (some ⟨w.heap.size + 1, 0, none⟩) d.text.size d.text.size) d.text.size (cells7 (newFrom d n 0 (d.text.data.toList.take k)) ++ r)

theorem ninv_start (w : World) (d : Dd) (n : Int) (hs : d.text.size ≤ 100000) : NInv w d n 0 ((w.alloc (dObj d)).alloc (.cells (madeCells zeroCh.cells (d.text.size * 7)) 65)) := by
  refine ⟨(Below.refl _ _).alloc (by simp) _, (madeCells zeroCh.cells (d.text.size * 7)).toList, ?_⟩
  rw [List.take_zero]
  have := World.ownsRow_lit (base := w.heap.size) (e := 65) (size := 7) (w.alloc (dObj d)) (madeCells zeroCh.cells (d.text.size * 7)) d.text.size (by simp) (by unfold maxLen; omega) (size_madeCells _ _)
  simpa [newFrom, cells7] using this

theorem NInv.at_ {w wr : World} {d : Dd} {n : Int} {k : Nat} (h : NInv w d n k wr) : DdAt wr w.heap.size 0 d := (ddat_start w d).below (by simpa using h.below)

theorem NInv.step {w wr : World} {d : Dd} {n : Int} {k : Nat} (h : NInv w d n k wr) (hk : k < d.text.size) (x : Ch) (hx : x = newCh d n k d.text[k]) :
    NInv w d n (k + 1) (((((((wr.setCell ⟨w.heap.size + 1, k * 7, none⟩ (.int .u8 x.c)).setCell ⟨w.heap.size + 1, k * 7 + 1, none⟩ (.int .i64 x.by_)).setCell ⟨w.heap.size + 1, k * 7 + 2, none⟩ (.int .i64 x.no)).setCell ⟨w.heap.size + 1, k * 7 + 3, none⟩ (.int .i64 x.k)).setCell ⟨w.heap.size + 1, k * 7 + 4, none⟩ (.int .i64 x.inn)).setCell ⟨w.heap.size + 1, k * 7 + 5, none⟩ (.int .i64 x.out)).setCell ⟨w.heap.size + 1, k * 7 + 6, none⟩ (.int .i64 x.gone)) := by
  obtain ⟨hb, r, ho⟩ := h
  refine ⟨?_, r.drop 7, ?_⟩
  · exact ((((((hb.setCell (by simp) _).setCell (by simp) _).setCell (by simp) _).setCell (by simp) _).setCell (by simp) _).setCell (by simp) _).setCell (by simp) _
  · have hl := ho.1
    rw [List.length_append, cells7_len, newFrom_len, List.length_take, size_list] at hl
    have e := set_seven (cells7 (newFrom d n 0 (d.text.data.toList.take k))) r x (k * 7) (by rw [cells7_len, newFrom_len, List.length_take, size_list]; omega) (by omega)
    rw [newFrom_take d n k hk, cells7_app]
    have e2 : cells7 [newCh d n k d.text[k]] = chCells x := by rw [hx]; simp [cells7]
    rw [e2, ← e]
    exact ((((((ho.stored _ _).1.stored _ _).1.stored _ _).1.stored _ _).1.stored _ _).1.stored _ _).1.stored _ _ |>.1

theorem own_spot {w : World} {base g n cap : Nat} {xs : List Value} (h : w.ownsRow base 65 7 (.slice (some ⟨g, 0, none⟩) n cap) n xs) {j : Nat} (hj : j < n * 7) : (∃ u, w.cell? ⟨g, j, none⟩ = some u) ∧ w.frozen? ⟨g, j, none⟩ = false := by
  refine ⟨?_, h.frozenAt j⟩
  rw [h.cellAt j hj]
  exact ⟨_, List.getElem?_eq_getElem (by rw [h.1]; exact hj)⟩

theorem NInv.drew {w wr : World} {d : Dd} {n : Int} {k : Nat} (h : NInv w d n k wr) : NInv w d n k wr.drew := ⟨h.below.drew, h.own⟩

set_option maxRecDepth 20000 in
set_option maxHeartbeats 800000 in
theorem new_any (d : Dd) (n : Int) (w : World) (hs : d.text.size ≤ 100000) :
    Calls Try.prog 47 #[ddV d, .int .i64 n] w fun e w' => ∃ v, e = .returned v ∧ Own w' w.heap.size v (newL d n) ∧ Below w.heap.size w w' := by
  have HI : Hid _ := ninv_start w d n hs
  have HE : Hid (newFrom d n 0 (d.text.data.toList.take d.text.size) = newL d n) := by show newFrom _ _ _ _ = _; rw [newL, List.take_of_length_le (Nat.le_of_eq (size_list _))]
  obtain ⟨kind, by_, no, seen, at_, many, text⟩ := d
  unfold dObj at HI
  simp only at HI HE hs
  have hmk := run_makeChars text.size hs
  go_enter Try.func47, Try.ntmps47
  go_wp2
  go_loopw [13] (fun i wr => ∃ k : Nat, k ≤ text.size ∧ i = .int .i64 k ∧ Hid (NInv w ⟨kind, by_, no, seen, at_, many, text⟩ n k wr)) (fun i _ => text.size - (intOf i).toNat)
  case atStart => exact ⟨0, Nat.zero_le _, rfl, HI⟩
  case round =>
    obtain ⟨k, hk, rfl, HK⟩ := hrel
    clear HI hmk
    by_cases hlt : k < text.size
    · obtain ⟨_, c0, c1, c2, c3, c4, c5, c6⟩ := HK.out.at_
      obtain ⟨r, ho⟩ := HK.out.own
      simp only at ho
      obtain ⟨⟨u0, e0⟩, f0⟩ := own_spot ho (j := k * 7) (by omega)
      obtain ⟨⟨u1, e1⟩, f1⟩ := own_spot ho (j := k * 7 + 1) (by omega)
      obtain ⟨⟨u2, e2⟩, f2⟩ := own_spot ho (j := k * 7 + 2) (by omega)
      obtain ⟨⟨u3, e3⟩, f3⟩ := own_spot ho (j := k * 7 + 3) (by omega)
      obtain ⟨⟨u4, e4⟩, f4⟩ := own_spot ho (j := k * 7 + 4) (by omega)
      obtain ⟨⟨u5, e5⟩, f5⟩ := own_spot ho (j := k * 7 + 5) (by omega)
      obtain ⟨⟨u6, e6⟩, f6⟩ := own_spot ho (j := k * 7 + 6) (by omega)
      clear ho
      simp only [Nat.zero_add] at c0 c1 c2 c3 c4 c5 c6
      go_wp2
      go_region
      have HN : Hid _ := (HK.out.step hlt ⟨text[k].toNat, by_, no, k, n, 0, 0⟩ rfl).drew
      dsimp only at HN
      go_wp2
      go_roundw
      case rel =>
        exact ⟨k + 1, by omega, by go_num, HN⟩
      case measure => simp [intOf]; omega
    · obtain rfl : k = text.size := by omega
      go_wp2
      go_ret
      obtain ⟨hb, r, ho⟩ := HK.out
      simp only at ho
      rw [HE.out] at ho
      have hr : r = [] := by
        have := ho.1
        rw [List.length_append, cells7_len, newL_len] at this
        exact List.length_eq_zero_iff.1 (by simp only at this; omega)
      rw [hr, List.append_nil] at ho
      refine ⟨_, rfl, ?_, (Below.refl _ _).alloc (Nat.le_refl _) _ |>.trans (hb.mono (by omega))⟩
      unfold Own
      rw [newL_len]
      exact ho

end Go.Proofs.Ytebhbhcjfnohmab
