/-
  The law's own example (foldBegun) is met, in every world.
-/
import Derived.Test.YtfjjjbohflobnabFAll
namespace Go.Proofs.Ytfjjjbohflobnab
open Go.RowKit

def fbegD : List Dd := [⟨1, 0, 1, 0, 0, 0, ⟨#[97, 99]⟩⟩, ⟨1, 1, 1, 1, 1, 0, ⟨#[98]⟩⟩, ⟨2, 0, 2, 1, 1, 1, ⟨#[]⟩⟩]
def fbegL : List Ch := [⟨97, 0, 1, 0, 1, 0, 0⟩, ⟨98, 1, 1, 0, 2, 0, 0⟩, ⟨99, 0, 1, 1, 1, 3, 1⟩]

theorem fbeg_all : allL [] 0 fbegD = (fbegL, 0, 0) := by kernel_rfl
theorem fbeg_text : strOfNums (textL fbegL) = ⟨#[97, 98]⟩ := by kernel_rfl

def fbegCells : Array Value := #[.int .i64 1, .int .i64 0, .int .i64 1, .int .i64 0, .int .i64 0, .int .i64 0, .string ⟨#[97, 99]⟩, .int .i64 1, .int .i64 1, .int .i64 1, .int .i64 1, .int .i64 1, .int .i64 0, .string ⟨#[98]⟩,
  .int .i64 2, .int .i64 0, .int .i64 2, .int .i64 1, .int .i64 1, .int .i64 1, .string ⟨#[]⟩]

theorem fbeg_deeds (w : World) : Deeds (w.alloc (.cells fbegCells 27)) w.heap.size 0 fbegD := by
  refine ⟨by simp, fun i hi => ?_⟩
  have h3 : i < 3 := hi
  rcases (show i = 0 ∨ i = 1 ∨ i = 2 by omega) with rfl | rfl | rfl <;> refine ⟨by simp, ?_, ?_, ?_, ?_, ?_, ?_, ?_⟩ <;> simp [go_sem, fbegCells, fbegD]

set_option maxHeartbeats 800000 in
theorem fbegun_any (w : World) :
    Calls Try.prog 10 #[] w fun e w' => e = .returned (.bool true) ∧ Below w.heap.size w w' := by
  have HB0 : Hid _ := (Below.refl w.heap.size w).alloc (Nat.le_refl _) (.cells fbegCells 27)
  have HR0 : Hid _ := fbeg_deeds w
  unfold fbegCells at HB0 HR0
  go_enter Try.func10, Try.ntmps10
  go_wp2_with fail
  refine (all_some w.heap.size 0 3 3 fbegD _ rfl (by decide) HR0.out).mono ?_
  rintro e w1 ⟨v1, rfl, ho1, hb1⟩
  rw [fbeg_all] at ho1 ⊢
  have HB1 : Hid (Below w.heap.size w w1) := below_after HB0.out hb1
  have HO1 : Hid (Own w1 _ v1 fbegL) := ho1
  obtain ⟨g, cap, rfl⟩ := ho1.place (by decide)
  clear ho1 hb1 HB0 HR0
  have HL1 : Hid (Lst (w1.alloc (.cells #[.int .i64 0, .int .i64 0] 31)) (.slice (some ⟨g, 0, none⟩) fbegL.length cap) fbegL) := HO1.out.lst.below ((Below.refl _ _).alloc (Nat.le_refl _) _)
  have HB1' : Hid (Below w.heap.size w (w1.alloc (.cells #[.int .i64 0, .int .i64 0] 31))) := HB1.out.alloc HB1.out.size _
  have HT1 : Hid _ := twoC_start w1 0 0
  rw [show fbegL.length = 3 from rfl] at *
  simp only
  go_wp2_with fail
  refine (text_lst HL1.out (by decide)).mono ?_
  rintro e w2 ⟨rfl, hb2⟩
  rw [fbeg_text]
  have hat : At w2 g 14 ⟨99, 0, 1, 1, 1, 3, 1⟩ := by
    have := (HL1.out.below hb2).nth (k := 2) (by decide)
    simpa [fbegL] using this
  have HB2 : Hid (Below w.heap.size w w2) := below_after HB1'.out hb2
  obtain ⟨a0, a1, a2, a3, a4, a5, a6⟩ := hat
  simp only [Nat.reduceAdd] at a1 a2 a3 a4 a5 a6
  clear hb2 HL1 HB1' HB1 HO1
  go_wp2_with fail
  refine (new_any ⟨0, 0, 0, 0, 0, 0, ⟨#[120, 121]⟩⟩ 4 _ (by decide)).mono ?_
  rintro e w3 ⟨v3, rfl, ho3, hb3⟩
  have HB3 : Hid (Below w.heap.size w w3) := below_after HB2.out hb3
  obtain ⟨a3', c3', rfl, _⟩ := ho3.lst.len
  rw [newL_len, show (⟨#[120, 121]⟩ : ByteArray).size = 2 from rfl]
  clear ho3 hb3
  go_wp2
  go_ret
  exact ⟨rfl, HB3.out⟩

end Go.Proofs.Ytfjjjbohflobnab
