/-
  The contracts of behindLast and Slide (package clear).
-/
import Derived.Test.YtebhbhcjfnohmabCMark
import Derived.Test.YtebhbhcjfnohmabFPut
namespace Go.Proofs.Ytebhbhcjfnohmab
open Go.RowKit

theorem callSlide1 : ∀ args w, Sem.run Try.prog (callFunc 73 args) w = .ok (.enter 73 args) w := fun _ _ => by kernel_rfl

theorem slide_take (least : Int) (l : List Ch) (p : Nat) : ∀ q, q ≤ p → slideN least (l.take p) q = slideN least l q
  | 0, _ => rfl
  | q + 1, h => by
    have e : (l.take p)[q]? = l[q]? := by rw [List.getElem?_take, if_pos (by omega)]
    rw [slideN, slideN, e, slide_take least l p q (by omega)]

set_option maxRecDepth 20000 in
set_option maxHeartbeats 400000 in
theorem behindLast_lst {w : World} {v : Value} {l : List Ch} (least : Int) (B : Nat) (h : Lst w v l) (hl : l.length ≤ 1000) (hB : NBox least B w) :
    Calls Try.prog 74 #[v, .func (Fn.func 73) #[] #[.pointer (some ⟨B, 0, none⟩)]] w fun e w' => e = .returned (.int .i64 (slideN least l l.length)) ∧ Below w.heap.size w w' := by
  have HL : Hid (Lst w v l) := h
  have HN : Hid (NBox least B w) := hB
  have hcall := callSlide1
  obtain ⟨ad, cap, rfl, _⟩ := h.len
  clear h hB
  go_enter Try.func74, Try.ntmps74
  go_wp2
  go_loopw [5] (fun i wr => ∃ k : Nat, k ≤ l.length ∧ i = .int .i64 k ∧ Hid (slideN least l l.length = slideN least l k) ∧ Hid (Below w.heap.size w wr)) (fun i _ => (intOf i).toNat)
  case atStart => exact ⟨l.length, Nat.le_refl _, rfl, rfl, Below.refl _ _⟩
  case round =>
    obtain ⟨k, hk, rfl, HS, HI⟩ := hrel
    cases k with
    | zero =>
      go_wp2
      go_ret
      exact ⟨ret_int (by rw [HS.out]; rfl), HI.out⟩
    | succ k =>
      have hkl : k < l.length := by omega
      obtain ⟨b, off, rfl, _, hr⟩ := (HL.out.below HI.out).row (by omega)
      obtain ⟨h0, h1, h2, h3, h4, h5, h6⟩ := hr.at_ k hkl
      have HH : Hid (slideN least l (k + 1) = if doneB least l[k] = true then slideN least l k else k + 1) := slide_at hkl
      have hkI : (k : Int) < (l.length : Int) := by omega
      generalize l[k] = x at h0 h1 h2 h3 h4 h5 h6 HH
      clear hr
      go_wp2_with fail
      refine (slide1_any x least B wr (HN.out.low HN.out.lt HI.out).at_).mono ?_
      rintro e w1 ⟨rfl, hi1⟩
      have HI1 : Hid (Below w.heap.size w w1) := below_after HI.out hi1
      clear hi1 HI h0 h1 h2 h3 h4 h5 h6 hcall
      cases hh : doneB least x
      · rw [hh] at HH
        simp only [Bool.not_false]
        go_wp2
        go_ret
        exact ⟨ret_int (by rw [HS.out, HH.out]; simp), HI1.out⟩
      · rw [hh] at HH
        simp only [Bool.not_true]
        go_wp2
        go_roundw
        case rel => exact ⟨k, by omega, by go_num, by rw [HS.out, HH.out]; exact if_pos rfl, HI1⟩
        case measure => simp [intOf]

/-- What Slide answers: the mark, and whether it stood somewhere. -/
def slideM (l : List Ch) (m : Mk) (least : Int) : Mk := if placeM l m < 0 then mkZero else atM l (slideN least l (placeM l m).toNat)

theorem slide_no {l : List Ch} {m : Mk} {least : Int} (h : placeM l m < 0) : slideM l m least = mkZero := if_pos h
theorem slide_yes {l : List Ch} {m : Mk} {least : Int} {p : Nat} (h : placeM l m = p) : slideM l m least = atM l (slideN least l p) := by
  rw [slideM, if_neg (by omega), h]; rfl
theorem atZ_in {l : List Ch} {p : Nat} (h : p ≤ l.length) : atZ l p = atM l p ∧ hasB l p = true := ⟨by rw [atZ, if_pos (by omega)]; rfl, by rw [hasB, decide_eq_true (by omega)]⟩

theorem taken_val {ad : Option Addr} {cap k : Nat} {l : List Ch} (hk : k ≤ l.length) (hc : l.length ≤ cap) : ∃ aa na ca, (∀ w, (Instr.sliceAt 29 (.slice ad l.length cap) none (some (.int .i64 k)) none).run Try.prog w = .ok (.slice aa na ca) w) ∧ ∀ wk, Lst wk (.slice ad l.length cap) l → Lst wk (.slice aa na ca) (l.take k) :=
  ⟨_, _, _, run_take_val _ l.length cap k (by omega), fun _ h => lst_take h hk⟩

/-- In the middle of Slide. -/
structure SlInv (w : World) (m : Mk) (least : Int) (v : Value) (l : List Ch) (wk : World) : Prop where
  obox : OBox w mkZero (w.heap.size + 2) wk
  mbox : MBox m w.heap.size wk
  nbox : NBox least (w.heap.size + 1) wk
  lst : Lst wk v l

theorem SlInv.after {w wk w' : World} {m : Mk} {least : Int} {v : Value} {l : List Ch} (h : SlInv w m least v l wk) (hb : Below wk.heap.size wk w') : SlInv w m least v l w' :=
  ⟨h.obox.after hb, h.mbox.after hb, h.nbox.low h.nbox.lt hb, h.lst.below hb⟩

theorem slinv_start {w : World} (m : Mk) (least : Int) {v : Value} {l : List Ch} (h : Lst w v l) :
    SlInv w m least v l (((w.alloc (mObj m)).alloc (.cells #[.int .i64 least] 3)).alloc (mObj mkZero)) := by
  have e : w.heap.size + 2 = ((w.alloc (mObj m)).alloc (.cells #[.int .i64 least] 3)).heap.size := by simp
  have hb := obox_start ((w.alloc (mObj m)).alloc (.cells #[.int .i64 least] 3)) mkZero
  have hl : Below w.heap.size w ((w.alloc (mObj m)).alloc (.cells #[.int .i64 least] 3)) := below2 _ _ _
  refine ⟨?_, ?_, ?_, ?_⟩
  · rw [e]
    exact ⟨hb.box, hb.f0, hb.f1, hb.f2, hb.f3, below_after hl hb.below.1, by simp; omega⟩
  · exact ((mbox_start w m).after (below1 _ _)).after (below1 _ _)
  · refine ⟨by simp, ?_⟩
    simp [go_sem]
  · exact (h.below hl).below (below1 _ _)

set_option maxRecDepth 20000 in
set_option maxHeartbeats 800000 in
theorem slide_lst {w : World} {v : Value} {l : List Ch} (m : Mk) (least : Int) (h : Lst w v l) (hl : l.length ≤ 1000) :
    Calls Try.prog 45 #[v, mkV m, .int .i64 least] w fun e w' => e = .returned (.tuple #[mkV (slideM l m least), .bool (decide (0 ≤ placeM l m))]) ∧ Below w.heap.size w w' := by
  have HI : Hid _ := slinv_start m least h
  have HP : Hid _ := place_bd l m
  have hmf : ∀ (fn : Fn) (first cap : Array Value) (w : World), (Instr.makeFunc fn first cap).run Try.prog w = .ok (.func fn first cap) w := fun _ _ _ _ => rfl
  obtain ⟨ad, cap, rfl, hc⟩ := h.len
  obtain ⟨s, mb, mn, mk⟩ := m
  unfold mkZero mObj at HI
  clear h
  go_enter Try.func45, Try.ntmps45
  go_wp2_with fail
  refine (place_lst ⟨s, mb, mn, mk⟩ HI.out.lst hl).mono ?_
  rintro e w1 ⟨rfl, hb⟩
  have HI1 : Hid _ := HI.out.after hb
  clear hb HI
  by_cases hp : placeM l ⟨s, mb, mn, mk⟩ < 0
  · have HA : Hid (slideM l ⟨s, mb, mn, mk⟩ least = mkZero ∧ decide (0 ≤ placeM l ⟨s, mb, mn, mk⟩) = false) := ⟨slide_no hp, decide_eq_false (by omega)⟩
    have HS : Hid _ := HI1.out.obox.set mkZero
    obtain ⟨⟨_, c0, c1, c2, c3⟩, f0, f1, f2, f3, _⟩ := HI1.out.obox
    unfold mkZero at HS c0 c1 c2 c3
    clear HI1
    go_wp2
    exact mark_end2 rfl HS.out.box rfl rfl rfl ⟨ret_two HA.out.1.symm HA.out.2.symm, HS.out.below.1⟩
  · obtain ⟨k, hk⟩ := Int.eq_ofNat_of_zero_le (show 0 ≤ placeM l ⟨s, mb, mn, mk⟩ by omega)
    have hkl : k ≤ l.length := by have := HP.out.2; omega
    have hsl := slide_le least l k
    have HA : Hid (slideM l ⟨s, mb, mn, mk⟩ least = atM l (slideN least l k) ∧ decide (0 ≤ placeM l ⟨s, mb, mn, mk⟩) = true) := ⟨slide_yes hk, decide_eq_true (by omega)⟩
    obtain ⟨aa, na, ca, hva, hvl⟩ := taken_val (ad := ad) (cap := cap) hkl hc
    have HVL : Hid _ := hvl
    have HT : Hid (slideN least (l.take k) (l.take k).length = slideN least l k) := by
      show slideN least (l.take k) (l.take k).length = slideN least l k
      rw [List.length_take, Nat.min_eq_left hkl, slide_take least l k k (Nat.le_refl _)]
    rw [hk]
    clear hvl hk hp HP
    go_wp2_with fail
    refine (behindLast_lst least _ (HVL.out _ HI1.out.lst) (by rw [List.length_take]; omega) HI1.out.nbox).mono ?_
    rintro e w2 ⟨rfl, hb⟩
    rw [HT.out]
    have HI2 : Hid _ := HI1.out.after hb
    clear hb HI1 HVL HT hva
    go_wp2_with fail
    refine (at_lst (slideN least l k) HI2.out.lst hl).mono ?_
    rintro e w3 ⟨rfl, hb⟩
    obtain ⟨e1, e2⟩ := atZ_in (l := l) (p := slideN least l k) (by omega)
    rw [e1, e2]
    have HI3 : Hid _ := HI2.out.after hb
    clear hb HI2 e1 e2
    have HS : Hid _ := HI3.out.obox.set (atM l (slideN least l k))
    obtain ⟨⟨_, c0, c1, c2, c3⟩, f0, f1, f2, f3, _⟩ := HI3.out.obox
    unfold mkZero at c0 c1 c2 c3
    generalize atM l (slideN least l k) = q at *
    obtain ⟨qs, qb, qn, qk⟩ := q
    clear HI3
    go_wp2
    exact mark_end2 rfl HS.out.box rfl rfl rfl ⟨ret_two HA.out.1.symm HA.out.2.symm, HS.out.below.1⟩

end Go.Proofs.Ytebhbhcjfnohmab
