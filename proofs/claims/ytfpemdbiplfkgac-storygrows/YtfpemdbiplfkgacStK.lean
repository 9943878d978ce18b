/-
  The law's own example of a story (storyBegun).
-/
import Derived.Test.YtfpemdbiplfkgacStB
import Derived.Test.YtfpemdbiplfkgacFBig
namespace Go.Proofs.Ytfpemdbiplfkgac
open Go Go.RowKit

def stS : List Tst := [⟨1, 0, 0, 0, ⟨#[]⟩⟩, ⟨2, 0, 0, 0, ⟨#[97, 98]⟩⟩, ⟨4, 0, 0, 0, ⟨#[]⟩⟩]
def stT : Twn := playT twn0 stS
theorem stL : stT.b.ds.length = 1 := by decide +kernel
theorem stX : (thS stT.b 1).map (·.c) = [97, 98] := by decide +kernel
theorem stY : (thS stT.b 1).map (·.by_) = [0, 0] := by decide +kernel
theorem stI : inS stT.b 1 = true := by decide +kernel
theorem stW : whS (thS stT.b 1) ⟨0, 0, 1, 1, 0, 0, 0⟩ = 1 := by decide +kernel
theorem stStr : strOfNums [97, 98] = ⟨#[97, 98]⟩ := by rfl

abbrev stObj : Obj := .cells #[.int .i64 1, .int .i64 0, .int .i64 0, .int .i64 0, .string ⟨#[]⟩, .int .i64 2, .int .i64 0, .int .i64 0, .int .i64 0, .string ⟨#[97, 98]⟩, .int .i64 4, .int .i64 0, .int .i64 0, .int .i64 0, .string ⟨#[]⟩] 67

theorem stS_lst (w : World) : TLst (w.alloc stObj) (.slice (some ⟨w.heap.size, 0, none⟩) 3 3) stS := by
  refine ⟨_, 3, 3, rfl, rfl, Nat.le_refl _, .inr ⟨_, 0, rfl, by simp, fun i hi => ?_⟩⟩
  have hi3 : i < 3 := hi
  rcases (show i = 0 ∨ i = 1 ∨ i = 2 by omega) with rfl | rfl | rfl
  · refine ⟨by simp, ?_, ?_, ?_, ?_, ?_⟩ <;> simp [go_sem, stS]
  · refine ⟨by simp, ?_, ?_, ?_, ?_, ?_⟩ <;> simp [go_sem, stS]
  · refine ⟨by simp, ?_, ?_, ?_, ?_, ?_⟩ <;> simp [go_sem, stS]

theorem stI_lst (w : World) : ILst (w.alloc (.cells #[.int .i64 0, .int .i64 0] 3)) (.slice (some ⟨w.heap.size, 0, none⟩) 2 2) [0, 0] := by
  refine ⟨_, 2, 2, rfl, rfl, Nat.le_refl _, .inr ⟨_, 0, rfl, by simp, fun i hi => ?_⟩⟩
  have hi3 : i < 2 := hi
  rcases (show i = 0 ∨ i = 1 by omega) with rfl | rfl <;> simp [go_sem]

set_option maxRecDepth 20000 in
set_option maxHeartbeats 3200000 in
theorem sbegun_any (w : World) : Calls Try.prog 39 #[] w fun e w' => e = .returned (.bool true) ∧ Below w.heap.size w w' := by
  go_enter Try.func39, Try.ntmps39
  go_wp2_with fail
  refine (tbegun_any _).mono ?_
  rintro e w0 ⟨rfl, hb0⟩
  have HB0 : Hid (Below w.heap.size w w0) := hb0
  clear hb0
  go_wp2_with fail
  refine (played_at _ stS _ (stS_lst w0) (by decide)).mono ?_
  rintro e w1 ⟨D, G, pw, rfl, hd⟩
  have HB1 : Hid (Below w.heap.size w w1) := below_after (below_after HB0.out (below1 _ _)) hd.below
  have H1 : Hid (∃ base w0 S, DkAny base w0 S D G pw stT w1) := ⟨_, _, _, hd⟩
  have g0 := hd.cells.book
  have hlt0 := hd.cells.lt
  clear hd HB0
  go_wp2_with fail
  clear g0 hlt0
  obtain ⟨base, wz, S, hd⟩ := H1.out
  refine (of_dk hd).mono ?_
  rintro e w2 ⟨P, rfl, hs, hb⟩
  have H2 : Hid (StTo w2 w1.heap.size P stT.b) := hs
  have HB2 : Hid (Below w.heap.size w w2) := below_after HB1.out hb
  clear hs hb hd H1 HB1
  generalize w1.heap.size = lo at *
  go_wp2_with fail
  refine (text_st H2.out 1).mono ?_
  rintro e w3 ⟨rfl, hb⟩
  rw [stX, stI, stStr]
  have H3 : Hid (StTo w3 lo P stT.b) := H2.out.below hb
  have HB3 : Hid (Below w.heap.size w w3) := below_after HB2.out hb
  clear hb H2 HB2
  go_wp2_with fail
  refine (by_st H3.out 1).mono ?_
  rintro e w4 ⟨v4, rfl, hi, hb⟩
  rw [stI]
  rw [stY] at hi
  have H4 : Hid (StTo w4 lo P stT.b) := H3.out.below hb
  have HB4 : Hid (Below w.heap.size w w4) := below_after HB3.out hb
  have HI : Hid (ILst w4 v4 [0, 0]) := hi
  obtain ⟨a4, c4, rfl⟩ := hi.len
  clear hb hi H3 HB3
  go_wp2_with fail
  refine (sameInts_eq (HI.out.below (below1 _ _)) (stI_lst w4) (by decide)).mono ?_
  rintro e w5 ⟨rfl, hb⟩
  have H5 : Hid (StTo w5 lo P stT.b) := (H4.out.below (below1 _ _)).below hb
  have HB5 : Hid (Below w.heap.size w w5) := below_after (below_after HB4.out (below1 _ _)) hb
  clear hb HI H4 HB4
  go_wp2_with fail
  refine (len_st H5.out (by rw [stL]; decide)).mono ?_
  rintro e w6 ⟨rfl, hw6⟩
  rw [hw6, stL]
  clear hw6 w6
  go_wp2_with fail
  refine (where_st H5.out 1 ⟨0, 0, 1, 1, 0, 0, 0⟩).mono ?_
  rintro e w7 ⟨rfl, hb⟩
  rw [stW]
  have HB7 : Hid (Below w.heap.size w w7) := below_after HB5.out hb
  clear hb H5 HB5
  go_wp2_with fail
  go_ret
  exact ⟨rfl, HB7.out⟩

end Go.Proofs.Ytfpemdbiplfkgac

/-
  Steps of a late walk in a large frame: several operations that are passed over, behind one that is not. No walk.
-/
namespace Go.Proofs.Ytfpemdbiplfkgac
open Go

section
variable {P : Program} {ops : Array Oper} {U0 : Cls} {sp lt : Nat → Bool}

/-! Several that are passed over, behind one that is not. -/

def skipBs (ops : Array Oper) (sp lt : Nat → Bool) : List Oper → Nat → Nat → Act → Bool
  | o :: os, n + 1, k, a => !(sp k || lt k) && !(Region.wanted o (yielded ops a.tmps)) && skipBs ops sp lt os n (k + 1) (a.put o.dst undef)
  | _, _, _, _ => true

def skipAs : List (Option Tmp) → Act → Act
  | [], a => a
  | d :: ds, a => skipAs ds (a.put d undef)

def skipQs (P : Program) : List (Option Tmp) → Act → (Act → Prop) → Prop
  | [], a, K => K a
  | d :: ds, a, K => ∀ K' : Act → Prop, (∀ a', skipQs P ds a' K → K' a') → Oper.quiet P ⟨d, .move (.const undef), 0, "", #[], none⟩ a (fun _ => True) K'

theorem skipQs_act (w0 : World) {K : Act → Prop} : ∀ (ds : List (Option Tmp)) (a : Act), skipQs P ds a K → K (skipAs ds a)
  | [], _, h => h
  | _ :: ds, _, h => put_of_quiet (P := P) (K := fun a' => K (skipAs ds a')) w0 (h _ (fun a' h' => skipQs_act w0 ds a' h'))

theorem wpLate_passes {Q : Act → World → Prop} {U D : Cls} : ∀ (n : Nat) (l : List Oper) (k : Nat) (a : Act) (ds : List (Option Tmp)), n ≤ l.length → (l.take n).map (·.dst) = ds → skipBs ops sp lt l n k a = true → wpLate P ops U0 sp lt Q (l.drop n) (k + n) (skipAs ds a) U D → wpLate P ops U0 sp lt Q l k a U D
  | 0, l, k, a, ds, _, hd, _, h => by
    subst hd
    exact h
  | n + 1, [], k, a, ds, hn, _, _, _ => absurd hn (by simp)
  | n + 1, o :: os, k, a, ds, hn, hd, hb, h => by
    subst hd
    simp only [skipBs, Bool.and_eq_true] at hb
    obtain ⟨⟨h1, h2⟩, h3⟩ := hb
    refine wpLate_still (by simpa using h1) fun K hK => ?_
    rw [if_neg (by simpa using h2)]
    refine hK _ (wpLate_passes n os (k + 1) (a.put o.dst undef) _ (by simpa using hn) rfl h3 ?_)
    rw [show k + 1 + n = k + (n + 1) by omega]
    exact h

theorem wpLate_bigPasses {Q : Act → World → Prop} {a : Act} {o : Oper} {rest : List Oper} {k : Nat} {U D : Cls} (d : Option Tmp) (ds : List (Option Tmp)) (n : Nat) (w0 : World) (hs : (sp k || lt k) = false) (v : Value) (hd : o.dst = d) (hw : Region.wanted o (yielded ops a.tmps) = true)
    (hrun : ∀ w, U0 w → (execOp a.eval o).run P w = .ok (.value v) w) (hn : n ≤ rest.length) (hds : (rest.take n).map (·.dst) = ds) (hb : skipBs ops sp lt rest n (k + 1) (a.put d v) = true)
    (h : ∀ K : Act → Prop, (∀ a', wpLate P ops U0 sp lt Q (rest.drop n) (k + 1 + n) a' U D → K a') → ∀ K' : Act → Prop, (∀ a', skipQs P ds a' K → K' a') → Oper.quiet P ⟨d, .move (.const v), 0, "", #[], none⟩ a (fun _ => True) K') : wpLate P ops U0 sp lt Q (o :: rest) k a U D :=
  wpLate_still hs fun K hK => by
    rw [if_pos hw]
    refine ⟨v, hrun, ?_⟩
    rw [hd]
    refine hK _ (wpLate_passes n rest (k + 1) (a.put d v) ds hn hds hb ?_)
    exact skipQs_act (P := P) w0 ds (a.put d v) (put_of_quiet (P := P) w0 (h (fun a' => wpLate P ops U0 sp lt Q (rest.drop n) (k + 1 + n) a' U D) (fun _ h' => h') (fun a' => skipQs P ds a' _) (fun _ h' => h')))

end
end Go.Proofs.Ytfpemdbiplfkgac
