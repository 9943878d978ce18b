/-
  The document's own Do, All, TextOf and a book's Chars: their contracts.
-/
import Derived.Test.YtfjjjbohflobnabRDoT
import Derived.Test.YtfjjjbohflobnabFAll
import Derived.Test.YtfjjjbohflobnabLMem
namespace Go.Proofs.Ytfjjjbohflobnab
open Go.RowKit

theorem many_pos {d : Dd} (h : checkC d = 0) (hk : d.kind ≠ 1) : 1 ≤ d.many := by
  unfold checkC at h
  by_cases hk2 : d.kind ≠ 1 ∧ d.kind ≠ 2
  · rw [if_pos hk2] at h; cases h
  · rw [if_neg hk2] at h
    cases hp : placedB d
    · rw [if_pos hp] at h; cases h
    · rw [if_neg (by simp [hp]), if_neg hk, takeC] at h
      by_cases ht : d.text.size ≠ 0
      · rw [if_pos ht] at h; cases h
      · rw [if_neg ht] at h
        cases hw : withinB d.many 1 200
        · rw [if_neg (by simp [hw])] at h; cases h
        · have : 1 ≤ d.many ∧ d.many ≤ 200 := by simpa [withinB] using hw
          exact this.1

theorem refDo_take (l : List Ch) (d : Dd) (number : Int) (v : Value) (w : World) (h : Lst w v l) (hl : l.length ≤ 1000) (ht : Tame l) (hk : d.kind ≠ 1) (hc : doC l d number = 0) (hnum : number ≤ 1000) :
    Calls Try.prog 60 #[v, ddV d, .int .i64 number] w fun e w' => ∃ v', e = .returned (.tuple #[v', .int .i64 0]) ∧ Own w' w.heap.size v' (doL l d number) ∧ Below w.heap.size w w' := by
  obtain ⟨a, len, cap, rfl, h1, h2, h3⟩ := h
  rcases h3 with rfl | ⟨b, off, rfl, hr⟩
  · exfalso
    obtain rfl : l = [] := List.length_eq_zero_iff.1 h1
    obtain ⟨q1, q2, _⟩ := doC_zero hc
    have p := many_pos q1 hk
    have q := (check_parts q1).2.2.2.2.2.2.1
    have : cnt [] d.seen d.by_ = 0 := rfl
    omega
  · exact refDo_take_some b off len cap l d number w h1 (by omega) hr h2 ht hk hc hnum

set_option maxHeartbeats 400000 in
theorem refDo_no (l : List Ch) (d : Dd) (number : Int) (v : Value) (w : World) (h : Lst w v l) (hl : l.length ≤ 1000) (ht : Tame l) (hm : mayC l d ≠ 0) :
    Calls Try.prog 60 #[v, ddV d, .int .i64 number] w fun e w' => e = .returned (.tuple #[.slice none 0 0, .int .i64 (mayC l d)]) ∧ Below w.heap.size w w' := by
  have HI : Hid (MInv w w.heap.size d v l (w.alloc (dObj d))) := minv_start (d := d) h
  have hne : (mayC l d != 0) = true := by simp [hm]
  obtain ⟨kind, by_, no, seen, at_, many, text⟩ := d
  clear h hm
  go_enter Try.func60, Try.ntmps60
  go_wp2_with fail
  refine (mayDo_any l ⟨kind, by_, no, seen, at_, many, text⟩ v _ HI.out.lst hl ht).mono ?_
  rintro e w1 ⟨rfl, hb⟩
  have HI1 : Hid _ := HI.out.after hb
  clear hb HI
  generalize hc : mayC l ⟨kind, by_, no, seen, at_, many, text⟩ = c at *
  have HC : Hid (mayC l ⟨kind, by_, no, seen, at_, many, text⟩ = c) := hc
  clear hc
  go_wp2
  go_ret2
  exact ⟨ret_do HC.out.symm, HI1.out.below⟩

theorem refDo_any (l : List Ch) (d : Dd) (number : Int) (v : Value) (w : World) (h : Lst w v l) (hl : l.length ≤ 1000) (ht : Tame l) (h1 : 1 ≤ number) (hnum : number ≤ 1000) :
    Calls Try.prog 60 #[v, ddV d, .int .i64 number] w fun e w' => ∃ v', e = .returned (.tuple #[v', .int .i64 (doC l d number)]) ∧ Own w' w.heap.size v' (doR l d number) ∧ Below w.heap.size w w' := by
  by_cases hc : doC l d number = 0
  · have hR : doR l d number = doL l d number := by rw [doR, if_pos hc]
    rw [hR, hc]
    by_cases hk : d.kind = 1
    · exact refDo_put l d number v w h hl ht hk hc
    · exact refDo_take l d number v w h hl ht hk hc hnum
  · have hm : mayC l d ≠ 0 := fun e => hc (by rw [doC, if_neg (fun x => x e), if_neg (by omega)])
    refine (refDo_no l d number v w h hl ht hm).mono ?_
    rintro e w' ⟨rfl, hb⟩
    exact ⟨_, ret_do (doC_may hm).symm, by rw [doR, if_neg hc]; exact own_nil _ _, hb⟩

theorem allR_end {R : Ending → World → Prop} {a : Act} {w : World} {B : Nat} {c f : Int} {v : Value} (h : TwoC w B c f) (h2 : a.tmps.getD 2 undef = v) (h3 : a.tmps.getD 3 undef = .pointer (some ⟨B, 0, none⟩)) (hd : a.defers = [])
    (hR : R (.returned (.tuple #[v, ftV c f])) w) : bodyPost Try.prog Try.f44 R Exit.ret a w := by
  refine bodyPost_ret ?_ hd hR
  rw [results_tmp_cell rfl, h2, h3]
  simp [asAddr, load_two h]

set_option maxHeartbeats 400000 in
theorem refAll_empty (a : Option Addr) (cap : Nat) (w : World) :
    Calls Try.prog 44 #[.slice a 0 cap] w fun e w' => e = .returned (.tuple #[.slice none 0 0, ftV 0 0]) ∧ Below w.heap.size w w' := by
  go_enter Try.func44, Try.ntmps44
  go_wp2
  refine wp_loop_rounds 1 ?_
  rw [rounds_succ]
  go_wp2
  exact allR_end (twoC_start w 0 0) rfl rfl rfl ⟨rfl, (Below.refl _ _).alloc (Nat.le_refl _) _⟩

/-- What has been done so far, of bytes that lie in a log. -/
def SofarT (l : List Ch) (i : Nat) (ds all : List Dd) : Prop := Sofar l i ds all ∧ Tame l

theorem sofarT_code {l : List Ch} {i : Nat} {d : Dd} {r all : List Dd} (h : SofarT l i (d :: r) all) (h0 : (allL [] 0 all).2.1 = 0) : doC l d (i + 1) = 0 := by
  by_cases hc : doC l d ((i : Int) + 1) = 0
  · exact hc
  · rw [sofar_bad h.1 hc] at h0
    exact absurd h0 hc

theorem sofarT_step {l : List Ch} {i : Nat} {d : Dd} {r all : List Dd} (h : SofarT l i (d :: r) all) (hc : doC l d (i + 1) = 0) (hi : i < 1000) : SofarT (doL l d (i + 1)) (i + 1) r all :=
  ⟨sofar_step h.1 hc, tame_do h.2 (doC_zero hc).1 (by omega) (by omega)⟩

set_option maxHeartbeats 800000 in
theorem refAll_some (b off len cap : Nat) (ds : List Dd) (w : World) (hl : ds.length = len) (hm : len ≤ 1000) (hr : Deeds w b off ds) (h0 : (allL [] 0 ds).2.1 = 0) :
    Calls Try.prog 44 #[.slice (some ⟨b, off, none⟩) len cap] w fun e w' =>
      ∃ v', e = .returned (.tuple #[v', ftV 0 0]) ∧ Own w' w.heap.size v' (allL [] 0 ds).1 ∧ Below w.heap.size w w' := by
  have HR : Hid (Deeds w b off ds) := hr
  have HL : Hid (ds.length = len) := hl
  have HZ : Hid ((allL [] 0 ds).2.1 = 0) := h0
  have hb := hr.lt
  clear hr hl h0
  go_enter Try.func44, Try.ntmps44
  go_wp2
  go_loopw [4, 5] (fun v i wr => ∃ (k : Nat) (l : List Ch), k ≤ len ∧ i = .int .i64 k ∧ Hid (SofarT l k (ds.drop k) ds) ∧ Hid (Own wr (w.heap.size + 1) v l) ∧ Hid (AInv w wr)) (fun _ i _ => len - (intOf i).toNat)
  case atStart => exact ⟨0, [], Nat.zero_le _, rfl, ⟨sofar_start ds, tame_nil⟩, own_nil _ _, ⟨Below.refl _ _⟩⟩
  case round =>
    obtain ⟨k, l, hk, rfl, HS, HV, HA⟩ := hrel
    by_cases hlt : k < len
    · have hkl : k < ds.length := by rw [HL.out]; exact hlt
      obtain ⟨_, g0, g1, g2, g3, g4, g5, g6⟩ := (HR.out.below HA.out.old).at_ k hkl
      have HX : Hid (ds.drop k = ds[k] :: ds.drop (k + 1)) := List.drop_eq_getElem_cons hkl
      generalize ds[k] = d at g0 g1 g2 g3 g4 g5 g6 HX
      rw [HX.out] at HS
      have HC : Hid (doC l d ((k : Int) + 1) = 0) := sofarT_code HS.out HZ.out
      have HN : Hid (SofarT (doL l d ((k : Int) + 1)) (k + 1) (ds.drop (k + 1)) ds) := sofarT_step HS.out HC.out (by omega)
      obtain ⟨kind, by_, no, seen, at_, many, text⟩ := d
      simp only at g0 g1 g2 g3 g4 g5 g6
      go_wp2_with fail
      clear g0 g1 g2 g3 g4 g5 g6
      refine (refDo_any l ⟨kind, by_, no, seen, at_, many, text⟩ ((k : Int) + 1) _ _ HV.out.lst (by have := HS.out.1.1.len; omega) HS.out.2 (by omega) (by omega)).mono ?_
      rintro e w1 ⟨v1, rfl, hL, hb1⟩
      rw [doR, if_pos HC.out] at hL
      rw [HC.out]
      have HV1 : Hid (Own w1 (w.heap.size + 1) v1 _) := hL.mono (by have := HA.out.below.size; simp at this ⊢; omega)
      have HA1 : Hid (AInv w w1) := HA.out.after hb1
      clear hL hb1 HA HV
      go_wp2
      go_roundw
      case rel => exact ⟨k + 1, _, by omega, by go_num, HN, HV1, HA1⟩
      case measure => simp [intOf]; omega
    · obtain rfl : k = len := by omega
      have HE : Hid (ds.drop k = []) := List.drop_eq_nil_of_le (by rw [HL.out]; exact Nat.le_refl _)
      rw [HE.out] at HS
      have HN : Hid (_ = _) := sofar_end HS.out.1
      obtain ⟨c0, c1, f0, f1⟩ := HA.out.two
      go_wp2
      refine allR_end (v := _) (HA.out.two.put 0 0) rfl rfl rfl ?_
      rw [HN.out]
      have HB2 : Hid _ := below_put2 HA.out.old (Nat.le_refl _) 0 0
      refine ⟨_, rfl, ?_, HB2.out⟩
      exact Own.mono (ownsRow_setCell_below (ownsRow_setCell_below HV.out (a := ⟨w.heap.size, 0, none⟩) (Nat.lt_succ_self _) _) (a := ⟨w.heap.size, 1, none⟩) (Nat.lt_succ_self _) _) (by omega)

theorem refAll_lst {w : World} {v : Value} {ds : List Dd} (h : DLst w v ds) (hm : ds.length ≤ 1000) (h0 : (allL [] 0 ds).2.1 = 0) :
    Calls Try.prog 44 #[v] w fun e w' => ∃ v', e = .returned (.tuple #[v', ftV 0 0]) ∧ Own w' w.heap.size v' (allL [] 0 ds).1 ∧ Below w.heap.size w w' := by
  obtain ⟨a, len, cap, rfl, h1, h2, h3⟩ := h
  rcases h3 with rfl | ⟨b, off, rfl, hr⟩
  · obtain rfl : ds = [] := List.length_eq_zero_iff.1 h1
    refine (refAll_empty a cap w).mono ?_
    rintro e w' ⟨rfl, hb⟩
    exact ⟨_, rfl, own_nil _ _, hb⟩
  · exact refAll_some b off len cap ds w h1 (by omega) hr h0

/-- A book's list. -/
theorem bchars_any {w : World} {base B : Nat} {S : Nat → Prop} {dv : Value} {b : Bk} (h : BookAt w base S B dv b) (hg : Good b) :
    Calls Try.prog 25 #[.pointer (some ⟨B, 0, none⟩)] w fun e w' => ∃ v', e = .returned v' ∧ Own w' w.heap.size v' b.chars ∧ Below w.heap.size w w' := by
  have c0 := h.cells.deeds
  have hlt := h.cells.lt
  have HD : Hid (DLst w dv b.ds) := h.ownD.dlst
  have HS : Hid (b.ds.length ≤ 1000) := by have := hg.small; show _ ≤ _; omega
  clear h
  go_enter Try.func25, Try.ntmps25
  go_wp2_with fail
  refine (refAll_lst HD.out HS.out hg.all0).mono ?_
  rintro e w1 ⟨v1, rfl, ho, hb⟩
  have HO : Hid (Own w1 w.heap.size v1 b.chars) := ho
  have HB : Hid (Below w.heap.size w w1) := hb
  clear ho hb c0
  go_wp2
  go_ret
  exact ⟨v1, rfl, HO.out.below ((Below.refl _ _).alloc (Nat.le_refl _) _), HB.out.alloc HB.out.size _⟩

theorem textOf_any {w : World} {v : Value} {l : List Ch} (h : Lst w v l) (hl : l.length ≤ 1000) (ht : Tame l) :
    Calls Try.prog 29 #[v] w fun e w' => e = .returned (.string (strOfNums (vw l 1073741823 (-1)))) ∧ Below w.heap.size w w' := by
  go_enter Try.func29, Try.ntmps29
  go_wp2_with (go_at_call 46; refine (refView_lst h hl ht _ _).mono ?_; rintro e w' ⟨rfl, hb⟩)
  go_ret
  exact ⟨rfl, hb⟩

end Go.Proofs.Ytfjjjbohflobnab
