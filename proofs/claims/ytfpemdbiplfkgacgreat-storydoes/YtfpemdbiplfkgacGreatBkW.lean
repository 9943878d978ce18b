/-
  The document's own Do, All, TextOf and a book's Chars: their contracts.
-/
import Derived.Test.YtfpemdbiplfkgacGreatRDoT
import Derived.Test.YtfpemdbiplfkgacGreatLPlain
import Derived.Test.YtfpemdbiplfkgacGreatLMem
import Derived.BigRegion
namespace Go.Proofs.YtfpemdbiplfkgacGreat
open Go.RowKit

theorem many_pos {d : Dd} (h : checkC d = 0) (hk : d.kind ≠ 1) : 1 ≤ d.many := by
  unfold checkC at h
  by_cases hk2 : d.kind ≠ 1 ∧ d.kind ≠ 2
  · rw [if_pos hk2] at h; cases h
  · rw [if_neg hk2] at h
    cases hp : placedB d
    · rw [if_pos hp] at h; cases h
    · rw [if_neg (by simp [hp]), if_neg hk, takeC] at h
      by_cases ht : d.text.size ≠ 0
      · rw [if_pos ht] at h; cases h
      · rw [if_neg ht] at h
        cases hw : withinB d.many 1 200
        · rw [if_neg (by simp [hw])] at h; cases h
        · have : 1 ≤ d.many ∧ d.many ≤ 200 := by simpa [withinB] using hw
          exact this.1

theorem refDo_take (l : List Ch) (d : Dd) (number : Int) (v : Value) (w : World) (h : Lst w v l) (hl : l.length ≤ 1000) (ht : Tame l) (hk : d.kind ≠ 1) (hc : doC l d number = 0) (hnum : number ≤ 1000) :
    Calls Tryz.prog 104 #[v, ddV d, .int .i64 number] w fun e w' => ∃ v', e = .returned (.tuple #[v', .int .i64 0]) ∧ Own w' w.heap.size v' (doL l d number) ∧ Below w.heap.size w w' := by
  obtain ⟨a, len, cap, rfl, h1, h2, h3⟩ := h
  rcases h3 with rfl | ⟨b, off, rfl, hr⟩
  · exfalso
    obtain rfl : l = [] := List.length_eq_zero_iff.1 h1
    obtain ⟨q1, q2, _⟩ := doC_zero hc
    have p := many_pos q1 hk
    have q := (check_parts q1).2.2.2.2.2.2.1
    have : cnt [] d.seen d.by_ = 0 := rfl
    omega
  · exact refDo_take_some b off len cap l d number w h1 (by omega) hr h2 ht hk hc hnum

set_option maxRecDepth 20000 in
set_option maxHeartbeats 400000 in
theorem refDo_no (l : List Ch) (d : Dd) (number : Int) (v : Value) (w : World) (h : Lst w v l) (hl : l.length ≤ 1000) (ht : Tame l) (hm : mayC l d ≠ 0) :
    Calls Tryz.prog 104 #[v, ddV d, .int .i64 number] w fun e w' => e = .returned (.tuple #[.slice none 0 0, .int .i64 (mayC l d)]) ∧ Below w.heap.size w w' := by
  have HI : Hid (MInv w w.heap.size d v l (w.alloc (dObj d))) := minv_start (d := d) h
  have hne : (mayC l d != 0) = true := by simp [hm]
  obtain ⟨kind, by_, no, seen, at_, many, text⟩ := d
  clear h hm
  go_enter Tryz.func104, Tryz.ntmps104
  go_wp2_with fail
  refine (mayDo_any l ⟨kind, by_, no, seen, at_, many, text⟩ v _ HI.out.lst hl ht).mono ?_
  rintro e w1 ⟨rfl, hb⟩
  have HI1 : Hid _ := HI.out.after hb
  clear hb HI
  generalize hc : mayC l ⟨kind, by_, no, seen, at_, many, text⟩ = c at *
  have HC : Hid (mayC l ⟨kind, by_, no, seen, at_, many, text⟩ = c) := hc
  clear hc
  go_wp2
  go_ret2
  exact ⟨ret_do HC.out.symm, HI1.out.below⟩

theorem refDo_any (l : List Ch) (d : Dd) (number : Int) (v : Value) (w : World) (h : Lst w v l) (hl : l.length ≤ 1000) (ht : Tame l) (h1 : 1 ≤ number) (hnum : number ≤ 1000) :
    Calls Tryz.prog 104 #[v, ddV d, .int .i64 number] w fun e w' => ∃ v', e = .returned (.tuple #[v', .int .i64 (doC l d number)]) ∧ Own w' w.heap.size v' (doR l d number) ∧ Below w.heap.size w w' := by
  by_cases hc : doC l d number = 0
  · have hR : doR l d number = doL l d number := by rw [doR, if_pos hc]
    rw [hR, hc]
    by_cases hk : d.kind = 1
    · exact refDo_put l d number v w h hl ht hk hc
    · exact refDo_take l d number v w h hl ht hk hc hnum
  · have hm : mayC l d ≠ 0 := fun e => hc (by rw [doC, if_neg (fun x => x e), if_neg (by omega)])
    refine (refDo_no l d number v w h hl ht hm).mono ?_
    rintro e w' ⟨rfl, hb⟩
    exact ⟨_, ret_do (doC_may hm).symm, by rw [doR, if_neg hc]; exact own_nil _ _, hb⟩

theorem refDo_open (l : List Ch) (d : Dd) (v : Value) (w : World) (h : Lst w v l) (hl : l.length ≤ 1000) (ht : Tame l) :
    Calls Tryz.prog 104 #[v, ddV d, .int .i64 1073741824] w fun e w' => ∃ v', e = .returned (.tuple #[v', .int .i64 (doC l d openN)]) ∧ Own w' w.heap.size v' (doR l d openN) ∧ Below w.heap.size w w' := by
  by_cases hc : doC l d openN = 0
  · have hR : doR l d openN = doL l d openN := by rw [doR, if_pos hc]
    rw [hR, hc]
    by_cases hk : d.kind = 1
    · exact refDo_put l d openN v w h hl ht hk hc
    · obtain ⟨a, len, cap, rfl, h1, h2, h3⟩ := h
      rcases h3 with rfl | ⟨b, off, rfl, hr⟩
      · exfalso
        obtain rfl : l = [] := List.length_eq_zero_iff.1 h1
        obtain ⟨q1, q2, _⟩ := doC_zero hc
        have p := many_pos q1 hk
        have q := (check_parts q1).2.2.2.2.2.2.1
        have : cnt [] d.seen d.by_ = 0 := rfl
        omega
      · exact refDo_take_open b off len cap l d w h1 (by omega) hr h2 ht hk hc
  · have hm : mayC l d ≠ 0 := fun e => hc (by rw [doC, if_neg (fun x => x e), if_neg (by decide)])
    refine (refDo_no l d openN v w h hl ht hm).mono ?_
    rintro e w' ⟨rfl, hb⟩
    exact ⟨_, ret_do (doC_may hm).symm, by rw [doR, if_neg hc]; exact own_nil _ _, hb⟩

theorem allR_end {R : Ending → World → Prop} {a : Act} {w : World} {B : Nat} {c f : Int} {v : Value} (h : TwoC w B c f) (h2 : a.tmps.getD 2 undef = v) (h3 : a.tmps.getD 3 undef = .pointer (some ⟨B, 0, none⟩)) (hd : a.defers = [])
    (hR : R (.returned (.tuple #[v, ftV c f])) w) : bodyPost Tryz.prog Tryz.f93 R Exit.ret a w := by
  refine bodyPost_ret ?_ hd hR
  rw [results_tmp_cell rfl, h2, h3]
  simp [asAddr, load_two h]

set_option maxRecDepth 20000 in
set_option maxHeartbeats 400000 in
theorem refAll_empty (a : Option Addr) (cap : Nat) (w : World) :
    Calls Tryz.prog 93 #[.slice a 0 cap] w fun e w' => e = .returned (.tuple #[.slice none 0 0, ftV 0 0]) ∧ Below w.heap.size w w' := by
  go_enter Tryz.func93, Tryz.ntmps93
  go_wp2
  refine wp_loop_rounds 1 ?_
  rw [rounds_succ]
  go_wp2
  exact allR_end (twoC_start w 0 0) rfl rfl rfl ⟨rfl, (Below.refl _ _).alloc (Nat.le_refl _) _⟩

/-- What has been done so far, of bytes that lie in a log. -/
def SofarT (l : List Ch) (i : Nat) (ds all : List Dd) : Prop := Sofar l i ds all ∧ Tame l

theorem sofarT_code {l : List Ch} {i : Nat} {d : Dd} {r all : List Dd} (h : SofarT l i (d :: r) all) (h0 : (allL [] 0 all).2.1 = 0) : doC l d (i + 1) = 0 := by
  by_cases hc : doC l d ((i : Int) + 1) = 0
  · exact hc
  · rw [sofar_bad h.1 hc] at h0
    exact absurd h0 hc

theorem sofarT_step {l : List Ch} {i : Nat} {d : Dd} {r all : List Dd} (h : SofarT l i (d :: r) all) (hc : doC l d (i + 1) = 0) (hi : i < 1000) : SofarT (doL l d (i + 1)) (i + 1) r all :=
  ⟨sofar_step h.1 hc, tame_do h.2 (doC_zero hc).1 (by omega) (by omega)⟩

set_option maxRecDepth 20000 in
set_option maxHeartbeats 800000 in
theorem refAll_some (b off len cap : Nat) (ds : List Dd) (w : World) (hl : ds.length = len) (hm : len ≤ 1000) (hr : Deeds w b off ds) (h0 : (allL [] 0 ds).2.1 = 0) :
    Calls Tryz.prog 93 #[.slice (some ⟨b, off, none⟩) len cap] w fun e w' =>
      ∃ v', e = .returned (.tuple #[v', ftV 0 0]) ∧ Own w' w.heap.size v' (allL [] 0 ds).1 ∧ Below w.heap.size w w' := by
  have HR : Hid (Deeds w b off ds) := hr
  have HL : Hid (ds.length = len) := hl
  have HZ : Hid ((allL [] 0 ds).2.1 = 0) := h0
  have hb := hr.lt
  clear hr hl h0
  go_enter Tryz.func93, Tryz.ntmps93
  go_wp2
  go_loopw [4, 5] (fun v i wr => ∃ (k : Nat) (l : List Ch), k ≤ len ∧ i = .int .i64 k ∧ Hid (SofarT l k (ds.drop k) ds) ∧ Hid (Own wr (w.heap.size + 1) v l) ∧ Hid (AInv w wr)) (fun _ i _ => len - (intOf i).toNat)
  case atStart => exact ⟨0, [], Nat.zero_le _, rfl, ⟨sofar_start ds, tame_nil⟩, own_nil _ _, ⟨Below.refl _ _⟩⟩
  case round =>
    obtain ⟨k, l, hk, rfl, HS, HV, HA⟩ := hrel
    by_cases hlt : k < len
    · have hkl : k < ds.length := by rw [HL.out]; exact hlt
      obtain ⟨_, g0, g1, g2, g3, g4, g5, g6⟩ := (HR.out.below HA.out.old).at_ k hkl
      have HX : Hid (ds.drop k = ds[k] :: ds.drop (k + 1)) := List.drop_eq_getElem_cons hkl
      generalize ds[k] = d at g0 g1 g2 g3 g4 g5 g6 HX
      rw [HX.out] at HS
      have HC : Hid (doC l d ((k : Int) + 1) = 0) := sofarT_code HS.out HZ.out
      have HN : Hid (SofarT (doL l d ((k : Int) + 1)) (k + 1) (ds.drop (k + 1)) ds) := sofarT_step HS.out HC.out (by omega)
      obtain ⟨kind, by_, no, seen, at_, many, text⟩ := d
      simp only at g0 g1 g2 g3 g4 g5 g6
      go_wp2_with fail
      clear g0 g1 g2 g3 g4 g5 g6
      refine (refDo_any l ⟨kind, by_, no, seen, at_, many, text⟩ ((k : Int) + 1) _ _ HV.out.lst (by have := HS.out.1.1.len; omega) HS.out.2 (by omega) (by omega)).mono ?_
      rintro e w1 ⟨v1, rfl, hL, hb1⟩
      rw [doR, if_pos HC.out] at hL
      rw [HC.out]
      have HV1 : Hid (Own w1 (w.heap.size + 1) v1 _) := hL.mono (by have := HA.out.below.size; simp at this ⊢; omega)
      have HA1 : Hid (AInv w w1) := HA.out.after hb1
      clear hL hb1 HA HV
      go_wp2
      go_roundw
      case rel => exact ⟨k + 1, _, by omega, by go_num, HN, HV1, HA1⟩
      case measure => simp [intOf]; omega
    · obtain rfl : k = len := by omega
      have HE : Hid (ds.drop k = []) := List.drop_eq_nil_of_le (by rw [HL.out]; exact Nat.le_refl _)
      rw [HE.out] at HS
      have HN : Hid (_ = _) := sofar_end HS.out.1
      obtain ⟨c0, c1, f0, f1⟩ := HA.out.two
      go_wp2
      refine allR_end (v := _) (HA.out.two.put 0 0) rfl rfl rfl ?_
      rw [HN.out]
      have HB2 : Hid _ := below_put2 HA.out.old (Nat.le_refl _) 0 0
      refine ⟨_, rfl, ?_, HB2.out⟩
      exact Own.mono (ownsRow_setCell_below (ownsRow_setCell_below HV.out (a := ⟨w.heap.size, 0, none⟩) (Nat.lt_succ_self _) _) (a := ⟨w.heap.size, 1, none⟩) (Nat.lt_succ_self _) _) (by omega)

theorem refAll_lst {w : World} {v : Value} {ds : List Dd} (h : DLst w v ds) (hm : ds.length ≤ 1000) (h0 : (allL [] 0 ds).2.1 = 0) :
    Calls Tryz.prog 93 #[v] w fun e w' => ∃ v', e = .returned (.tuple #[v', ftV 0 0]) ∧ Own w' w.heap.size v' (allL [] 0 ds).1 ∧ Below w.heap.size w w' := by
  obtain ⟨a, len, cap, rfl, h1, h2, h3⟩ := h
  rcases h3 with rfl | ⟨b, off, rfl, hr⟩
  · obtain rfl : ds = [] := List.length_eq_zero_iff.1 h1
    refine (refAll_empty a cap w).mono ?_
    rintro e w' ⟨rfl, hb⟩
    exact ⟨_, rfl, own_nil _ _, hb⟩
  · exact refAll_some b off len cap ds w h1 (by omega) hr h0

/-- A book's list. -/
theorem bchars_any {w : World} {base B : Nat} {S : Nat → Prop} {dv : Value} {b : Bk} (h : BookAt w base S B dv b) (hg : Good b) :
    Calls Tryz.prog 80 #[.pointer (some ⟨B, 0, none⟩)] w fun e w' => ∃ v', e = .returned v' ∧ Own w' w.heap.size v' b.chars ∧ Below w.heap.size w w' := by
  have c0 := h.cells.deeds
  have hlt := h.cells.lt
  have HD : Hid (DLst w dv b.ds) := h.ownD.dlst
  have HS : Hid (b.ds.length ≤ 1000) := by have := hg.small; show _ ≤ _; omega
  clear h
  go_enter Tryz.func80, Tryz.ntmps80
  go_wp2_with fail
  refine (refAll_lst HD.out HS.out hg.all0).mono ?_
  rintro e w1 ⟨v1, rfl, ho, hb⟩
  have HO : Hid (Own w1 w.heap.size v1 b.chars) := ho
  have HB : Hid (Below w.heap.size w w1) := hb
  clear ho hb c0
  go_wp2
  go_ret
  exact ⟨v1, rfl, HO.out.below ((Below.refl _ _).alloc (Nat.le_refl _) _), HB.out.alloc HB.out.size _⟩

theorem textOf_any {w : World} {v : Value} {l : List Ch} (h : Lst w v l) (hl : l.length ≤ 1000) (ht : Tame l) :
    Calls Tryz.prog 88 #[v] w fun e w' => e = .returned (.string (strOfNums (vw l 1073741823 (-1)))) ∧ Below w.heap.size w w' := by
  go_enter Tryz.func88, Tryz.ntmps88
  go_wp2_with (go_at_call 128; refine (refView_lst h hl ht _ _).mono ?_; rintro e w' ⟨rfl, hb⟩)
  go_ret
  exact ⟨rfl, hb⟩

end Go.Proofs.YtfpemdbiplfkgacGreat

/-
  The document's own Book: IsHere, Least, Join, Leave, Says: their contracts.
-/
namespace Go.Proofs.YtfpemdbiplfkgacGreat
open Go.RowKit

theorem wr_nat {n : Int} (h : wrB n = true) : ∃ j : Nat, n = j ∧ j < 4 := by
  have hn : 0 ≤ n ∧ n ≤ 3 := by simpa [wrB] using h
  obtain ⟨j, rfl⟩ := Int.eq_ofNat_of_zero_le hn.1
  exact ⟨j, rfl, by omega⟩

theorem isHere_no {b : Bk} {n : Int} (h : wrB n = false) : b.isHere n = false := by rw [Bk.isHere, h]; rfl
theorem isHere_yes {b : Bk} {n : Int} (h : wrB n = true) : b.isHere n = b.here n := by rw [Bk.isHere, h]; rfl

set_option maxRecDepth 20000 in
set_option maxHeartbeats 400000 in
theorem isHere_bk {w : World} {B : Nat} {dv : Value} {b : Bk} (h : BookC w B dv b) (n : Int) :
    Calls Tryz.prog 126 #[.pointer (some ⟨B, 0, none⟩), .int .i64 n] w fun e w' => e = .returned (.bool (b.isHere n)) ∧ w' = w := by
  cases hw : wrB n
  · have HE : Hid (b.isHere n = false) := isHere_no hw
    clear h
    go_enter Tryz.func126, Tryz.ntmps126
    go_wp2_with (go_at_call 50; refine (isWriter_any _ _).mono ?_; rintro e w' ⟨rfl, rfl⟩; rw [hw])
    go_ret
    exact ⟨ret_b HE.out.symm, rfl⟩
  · have HE : Hid (b.isHere n = b.here n) := isHere_yes hw
    obtain ⟨j, rfl, hj⟩ := wr_nat hw
    have c1 := h.here j hj
    have hlt := h.lt
    clear h
    go_enter Tryz.func126, Tryz.ntmps126
    go_wp2_with (go_at_call 50; refine (isWriter_any _ _).mono ?_; rintro e w' ⟨rfl, rfl⟩; rw [hw])
    go_ret
    exact ⟨ret_b HE.out.symm, rfl⟩

/-- The least of the first k. -/
def leastTo (b : Bk) : Nat → Int
  | 0 => b.len
  | k + 1 => leastStep b (leastTo b k) k

theorem leastTo_four (b : Bk) : leastTo b 4 = leastL b := rfl

theorem leastTo_bd {b : Bk} (h : Good b) : ∀ k, 0 ≤ leastTo b k ∧ leastTo b k ≤ 120
  | 0 => by
    have := h.small
    show 0 ≤ b.len ∧ b.len ≤ 120
    have e : b.len = (b.ds.length : Int) := rfl
    omega
  | k + 1 => by
    have h1 := leastTo_bd h k
    have h2 := h.said k
    show 0 ≤ leastStep b (leastTo b k) k ∧ leastStep b (leastTo b k) k ≤ 120
    unfold leastStep
    split <;> omega

theorem OwnD.len {w : World} {base : Nat} {v : Value} {l : List Dd} (h : OwnD w base v l) : ∃ a cap, v = .slice a l.length cap := by
  rcases h.2 with ⟨rfl, hn⟩ | ⟨g, cap, cur, rfl, _⟩
  · exact ⟨none, 0, by rw [hn]⟩
  · exact ⟨_, cap, rfl⟩

set_option maxRecDepth 20000 in
set_option maxHeartbeats 800000 in
theorem least_bk {w : World} {base B : Nat} {S : Nat → Prop} {dv : Value} {b : Bk} (h : BookAt w base S B dv b) (hg : Good b) :
    Calls Tryz.prog 87 #[.pointer (some ⟨B, 0, none⟩)] w fun e w' => e = .returned (.int .i64 (leastL b)) ∧ w' = w := by
  have HC : Hid (BookC w B dv b) := h.cells
  have c0 := h.cells.deeds
  have hlt := h.cells.lt
  have HG : Hid (Good b) := hg
  obtain ⟨a, cap, rfl⟩ := h.ownD.len
  clear h hg
  go_enter Tryz.func87, Tryz.ntmps87
  go_wp2
  clear c0
  go_loop [3, 4] (fun n i => ∃ k : Nat, k ≤ 4 ∧ i = .int .i64 k ∧ n = .int .i64 (leastTo b k)) (fun _ i => 4 - (intOf i).toNat)
  case atStart => exact ⟨0, by omega, rfl, rfl⟩
  case round =>
    obtain ⟨k, hk, rfl, rfl⟩ := hrel
    have hb := leastTo_bd HG.out k
    obtain ⟨hb0, hb1⟩ := hb
    by_cases hlt4 : k < 4
    · have c1 := HC.out.here k hlt4
      have c3 := HC.out.said k hlt4
      have HN : Hid (leastTo b (k + 1) = if b.here k = true ∧ b.said k < leastTo b k then b.said k else leastTo b k) := rfl
      generalize leastTo b k = n at *
      cases hh : b.here k
      · rw [hh] at c1
        have HN2 : Hid (leastTo b (k + 1) = n) := by show _ = _; rw [HN.out, if_neg (by simp [hh])]
        clear hh HN
        go_wp2
        go_round
        case rel => exact ⟨k + 1, by omega, by go_num, by rw [HN2.out]⟩
        case measure => simp [intOf]; omega
      · rw [hh] at c1
        by_cases hs : b.said k < n
        · have HN2 : Hid (leastTo b (k + 1) = b.said k) := by show _ = _; rw [HN.out, if_pos ⟨hh, hs⟩]
          clear hh HN
          go_wp2
          go_round
          case rel => exact ⟨k + 1, by omega, by go_num, by rw [HN2.out]⟩
          case measure => simp [intOf]; omega
        · have HN2 : Hid (leastTo b (k + 1) = n) := by show _ = _; rw [HN.out, if_neg (fun e => hs e.2)]
          clear hh HN
          go_wp2
          go_round
          case rel => exact ⟨k + 1, by omega, by go_num, by rw [HN2.out]⟩
          case measure => simp [intOf]; omega
    · obtain rfl : k = 4 := by omega
      go_wp2
      go_ret
      exact ⟨ret_int (leastTo_four b), rfl⟩

/-! A cell of a book is written. -/

theorem BookC.setHere {w : World} {B : Nat} {dv : Value} {b : Bk} (h : BookC w B dv b) {j : Nat} (hj : j < 4) (x : Bool) : BookC (w.setCell ⟨B, 1 + j, none⟩ (.bool x)) B dv ⟨b.ds, setF b.here j x, b.last, b.said⟩ := by
  have h0 := h.deeds
  refine ⟨by simpa using h.lt, by simp [go_sem, h0], fun i hi => ?_, fun i hi => ?_, fun i hi => ?_, fun o ho => ?_⟩
  · have h1 := h.here i hi
    by_cases e : i = j
    · subst e
      simp [go_sem, h1, setF]
    · have e1 : ¬ (i : Int) = (j : Int) := by omega
      simp [go_sem, h1, setF, e1]
  · have h1 := h.last i hi
    simp [go_sem, h1]
  · have h1 := h.said i hi
    simp [go_sem, h1]
  · simpa [go_sem] using h.free o ho

theorem BookC.setLast {w : World} {B : Nat} {dv : Value} {b : Bk} (h : BookC w B dv b) {j : Nat} (hj : j < 4) (x : Int) : BookC (w.setCell ⟨B, 5 + j, none⟩ (.int .i64 x)) B dv ⟨b.ds, b.here, setF b.last j x, b.said⟩ := by
  have h0 := h.deeds
  refine ⟨by simpa using h.lt, by simp [go_sem, h0], fun i hi => ?_, fun i hi => ?_, fun i hi => ?_, fun o ho => ?_⟩
  · have h1 := h.here i hi
    simp [go_sem, h1]
  · have h1 := h.last i hi
    by_cases e : i = j
    · subst e
      simp [go_sem, h1, setF]
    · have e1 : ¬ (i : Int) = (j : Int) := by omega
      simp [go_sem, h1, setF, e1]
  · have h1 := h.said i hi
    simp [go_sem, h1]
  · simpa [go_sem] using h.free o ho

theorem BookC.setSaid {w : World} {B : Nat} {dv : Value} {b : Bk} (h : BookC w B dv b) {j : Nat} (hj : j < 4) (x : Int) : BookC (w.setCell ⟨B, 9 + j, none⟩ (.int .i64 x)) B dv ⟨b.ds, b.here, b.last, setF b.said j x⟩ := by
  have h0 := h.deeds
  refine ⟨by simpa using h.lt, by simp [go_sem, h0], fun i hi => ?_, fun i hi => ?_, fun i hi => ?_, fun o ho => ?_⟩
  · have h1 := h.here i hi
    simp [go_sem, h1]
  · have h1 := h.last i hi
    simp [go_sem, h1]
  · have h1 := h.said i hi
    by_cases e : i = j
    · subst e
      simp [go_sem, h1, setF]
    · have e1 : ¬ (i : Int) = (j : Int) := by omega
      simp [go_sem, h1, setF, e1]
  · simpa [go_sem] using h.free o ho

/-- A book behind a step: it is that of b', and nothing else that was there has changed. -/
structure BookTo (w : World) (base : Nat) (S : Nat → Prop) (B : Nat) (b' : Bk) (w' : World) : Prop where
  at_ : ∃ dv, BookAt w' base (grow S w w') B dv b'
  kept : Kept S w w'

theorem BookAt.grow {w w' : World} {base B : Nat} {S : Nat → Prop} {dv : Value} {b : Bk} (h : BookAt w' base S B dv b) (hb : base ≤ w.heap.size) : BookAt w' base (grow S w w') B dv b :=
  ⟨fun k hs => hs.elim (h.lo k) (fun e => ⟨by omega, e.2⟩), .inl h.hB, h.cells, h.ownD, fun k e => ⟨.inl (h.dB k e).1, (h.dB k e).2⟩⟩

theorem BookAt.base_le {w : World} {base B : Nat} {S : Nat → Prop} {dv : Value} {b : Bk} (h : BookAt w base S B dv b) : base ≤ w.heap.size := by
  have := h.lo B h.hB
  omega

theorem BookAt.stay {w w' : World} {base B : Nat} {S : Nat → Prop} {dv : Value} {b : Bk} (h : BookAt w base S B dv b) (hb : Below w.heap.size w w') : BookTo w base S B b w' :=
  ⟨⟨dv, (h.below hb).grow h.base_le⟩, .of_below hb⟩

/-- Cells of the book's own block have been written. -/
theorem BookAt.wrote {w w' : World} {base B : Nat} {S : Nat → Prop} {dv : Value} {b b' : Bk} (h : BookAt w base S B dv b) (hk : Kept (fun k => k = B) w w') (hs : w'.heap.size = w.heap.size) (hc : BookC w' B dv b') (hd : b'.ds = b.ds) : BookTo w base S B b' w' := by
  have hblk : ∀ k, k ≠ B → w'.heap[k]? = w.heap[k]? := fun k hkB => by
    by_cases hlt : k < w.heap.size
    · exact hk.block k hlt hkB
    · rw [Array.getElem?_eq_none (by omega), Array.getElem?_eq_none (by omega)]
  refine ⟨⟨dv, (h.cells_of hblk hk.size hc hd).grow h.base_le⟩, ⟨hk.os, hk.tape, hk.output, hk.size, fun k hk' hS => hblk k (fun e => hS (by rw [e]; exact h.hB))⟩⟩

theorem kept_one (w : World) (B o : Nat) (u : Value) : Kept (fun k => k = B) w (w.setCell ⟨B, o, none⟩ u) := Kept.set (S := fun k => k = B) (Kept.refl _ w) (p := ⟨B, o, none⟩) rfl u

theorem kept_more {w w' : World} {B : Nat} (h : Kept (fun k => k = B) w w') (o : Nat) (u : Value) : Kept (fun k => k = B) w (w'.setCell ⟨B, o, none⟩ u) := Kept.set (S := fun k => k = B) h (p := ⟨B, o, none⟩) rfl u

theorem BookAt.mono {w : World} {base B : Nat} {S T : Nat → Prop} {dv : Value} {b : Bk} (h : BookAt w base S B dv b) (hT : ∀ k, S k → T k) (hl : ∀ k, T k → base ≤ k ∧ k < w.heap.size) : BookAt w base T B dv b :=
  ⟨hl, hT _ h.hB, h.cells, h.ownD, fun k e => ⟨hT k (h.dB k e).1, (h.dB k e).2⟩⟩

theorem BookTo.after {w w' w'' : World} {base B : Nat} {S : Nat → Prop} {b : Bk} (h : BookTo w base S B b w') (hb : Below w'.heap.size w' w'') : BookTo w base S B b w'' := by
  obtain ⟨⟨dv, hat⟩, hk⟩ := h
  have hlo := hat.lo
  refine ⟨⟨dv, (hat.below hb).mono (fun k hk => hk.elim .inl (fun e => .inr ⟨e.1, Nat.lt_of_lt_of_le e.2 hb.size⟩)) (fun k hk' => ?_)⟩, hk.after hb⟩
  rcases hk' with e | e
  · have := hlo k (.inl e)
    have := hb.size
    omega
  · have := hat.base_le
    have h1 := hk.size
    have h2 : base ≤ w.heap.size ∨ w.heap.size < base := by omega
    rcases h2 with h2 | h2
    · omega
    · by_cases h3 : k < w'.heap.size
      · have := hlo k (.inr ⟨e.1, h3⟩)
        omega
      · omega

theorem ret_two {a b a' b' : Int} (h : a = a') (h2 : b = b') : Ending.returned (.tuple #[.int .i64 a, .int .i64 b]) = .returned (.tuple #[.int .i64 a', .int .i64 b']) := by rw [h, h2]

theorem leave_codes (b : Bk) (n : Int) : (b.isHere n = true ∧ leaveC b n = 0) ∨ (b.isHere n = false ∧ leaveC b n = 5) := by
  unfold leaveC
  cases h : b.isHere n
  · exact .inr ⟨rfl, if_neg (by simp)⟩
  · exact .inl ⟨rfl, if_pos rfl⟩

set_option maxRecDepth 20000 in
set_option maxHeartbeats 400000 in
theorem leave_bk {w : World} {base B : Nat} {S : Nat → Prop} {dv : Value} {b : Bk} (h : BookAt w base S B dv b) (n : Int) :
    Calls Tryz.prog 127 #[.pointer (some ⟨B, 0, none⟩), .int .i64 n] w fun e w' => e = .returned (.int .i64 (leaveC b n)) ∧ BookTo w base S B (leaveB b n) w' := by
  have HA : Hid (BookAt w base S B dv b) := h
  rcases leave_codes b n with ⟨hh, hcd⟩ | ⟨hh, hcd⟩
  · have HCD : Hid (leaveC b n = 0) := hcd
    have HB : Hid (leaveB b n = ⟨b.ds, setF b.here n false, b.last, b.said⟩) := by show leaveB b n = _; rw [leaveB, if_pos hcd]
    obtain ⟨hw, _⟩ := isHere_writer hh
    obtain ⟨j, rfl, hj⟩ := wr_nat hw
    have c1 := h.cells.here j hj
    have f1 := h.cells.free (1 + j) (by omega)
    have hlt := h.cells.lt
    have HC : Hid (BookC (w.setCell ⟨B, 1 + j, none⟩ (.bool false)) B dv ⟨b.ds, setF b.here j false, b.last, b.said⟩) := h.cells.setHere hj false
    clear h hcd
    go_enter Tryz.func127, Tryz.ntmps127
    go_wp2_with (go_at_call 126; refine (isHere_bk HA.out.cells _).mono ?_; rintro e w' ⟨rfl, rfl⟩; rw [hh])
    go_ret
    exact ⟨ret_int HCD.out.symm, by rw [HB.out]; exact HA.out.wrote (kept_one _ _ _ _) (by simp [World.setCell]) HC.out rfl⟩
  · have HCD : Hid (leaveC b n = 5) := hcd
    have HB : Hid (leaveB b n = b) := leave_no (by rw [hcd]; decide)
    clear h hcd
    go_enter Tryz.func127, Tryz.ntmps127
    go_wp2_with (go_at_call 126; refine (isHere_bk HA.out.cells _).mono ?_; rintro e w' ⟨rfl, rfl⟩; rw [hh])
    go_ret
    exact ⟨ret_int HCD.out.symm, by rw [HB.out]; exact HA.out.stay (Below.refl _ _)⟩

theorem says_codes (b : Bk) (n seen : Int) : (b.isHere n = false ∧ saysC b n seen = 5) ∨ (b.isHere n = true ∧ seen < b.said n ∧ saysC b n seen = 8) ∨ (b.isHere n = true ∧ b.said n ≤ seen ∧ b.len < seen ∧ saysC b n seen = 8) ∨ (b.isHere n = true ∧ b.said n ≤ seen ∧ seen ≤ b.len ∧ saysC b n seen = 0) := by
  unfold saysC
  cases h : b.isHere n
  · exact .inl ⟨rfl, if_pos rfl⟩
  · rw [if_neg (by simp)]
    by_cases h1 : seen < b.said n
    · exact .inr (.inl ⟨rfl, h1, if_pos (.inl h1)⟩)
    · by_cases h2 : b.len < seen
      · exact .inr (.inr (.inl ⟨rfl, by omega, h2, if_pos (.inr h2)⟩))
      · exact .inr (.inr (.inr ⟨rfl, by omega, by omega, if_neg (by omega)⟩))

set_option maxRecDepth 20000 in
set_option maxHeartbeats 800000 in
theorem says_bk {w : World} {base B : Nat} {S : Nat → Prop} {dv : Value} {b : Bk} (h : BookAt w base S B dv b) (n seen : Int) :
    Calls Tryz.prog 83 #[.pointer (some ⟨B, 0, none⟩), .int .i64 n, .int .i64 seen] w fun e w' => e = .returned (.int .i64 (saysC b n seen)) ∧ BookTo w base S B (saysB b n seen) w' := by
  have HA : Hid (BookAt w base S B dv b) := h
  obtain ⟨a, cap, rfl⟩ := h.ownD.len
  have hlen : b.len = (b.ds.length : Int) := rfl
  rcases says_codes b n seen with ⟨hh, hcd⟩ | ⟨hh, h1, hcd⟩ | ⟨hh, h1, h2, hcd⟩ | ⟨hh, h1, h2, hcd⟩
  · have HCD : Hid (saysC b n seen = 5) := hcd
    have HB : Hid (saysB b n seen = b) := says_no (by rw [hcd]; decide)
    clear h hcd
    go_enter Tryz.func83, Tryz.ntmps83
    go_wp2_with (go_at_call 126; refine (isHere_bk HA.out.cells _).mono ?_; rintro e w' ⟨rfl, rfl⟩; rw [hh])
    go_ret
    exact ⟨ret_int HCD.out.symm, by rw [HB.out]; exact HA.out.stay (Below.refl _ _)⟩
  · have HCD : Hid (saysC b n seen = 8) := hcd
    have HB : Hid (saysB b n seen = b) := says_no (by rw [hcd]; decide)
    obtain ⟨hw, _⟩ := isHere_writer hh
    obtain ⟨j, rfl, hj⟩ := wr_nat hw
    have c0 := h.cells.deeds
    have c3 := h.cells.said j hj
    have hlt := h.cells.lt
    clear h hcd
    go_enter Tryz.func83, Tryz.ntmps83
    go_wp2_with (go_at_call 126; refine (isHere_bk HA.out.cells _).mono ?_; rintro e w' ⟨rfl, rfl⟩; rw [hh])
    go_ret
    exact ⟨ret_int HCD.out.symm, by rw [HB.out]; exact HA.out.stay (Below.refl _ _)⟩
  · have HCD : Hid (saysC b n seen = 8) := hcd
    have HB : Hid (saysB b n seen = b) := says_no (by rw [hcd]; decide)
    obtain ⟨hw, _⟩ := isHere_writer hh
    obtain ⟨j, rfl, hj⟩ := wr_nat hw
    have c0 := h.cells.deeds
    have c3 := h.cells.said j hj
    have hlt := h.cells.lt
    rw [hlen] at h2
    clear h hcd hlen
    go_enter Tryz.func83, Tryz.ntmps83
    go_wp2_with (go_at_call 126; refine (isHere_bk HA.out.cells _).mono ?_; rintro e w' ⟨rfl, rfl⟩; rw [hh])
    go_ret
    exact ⟨ret_int HCD.out.symm, by rw [HB.out]; exact HA.out.stay (Below.refl _ _)⟩
  · have HCD : Hid (saysC b n seen = 0) := hcd
    have HB : Hid (saysB b n seen = ⟨b.ds, b.here, b.last, setF b.said n seen⟩) := by show saysB b n seen = _; rw [saysB, if_pos hcd]
    obtain ⟨hw, _⟩ := isHere_writer hh
    obtain ⟨j, rfl, hj⟩ := wr_nat hw
    have c0 := h.cells.deeds
    have c3 := h.cells.said j hj
    have f3 := h.cells.free (9 + j) (by omega)
    have hlt := h.cells.lt
    have HC : Hid (BookC (w.setCell ⟨B, 9 + j, none⟩ (.int .i64 seen)) B (.slice a b.ds.length cap) ⟨b.ds, b.here, b.last, setF b.said j seen⟩) := h.cells.setSaid hj seen
    rw [hlen] at h2
    clear h hcd hlen
    go_enter Tryz.func83, Tryz.ntmps83
    go_wp2_with (go_at_call 126; refine (isHere_bk HA.out.cells _).mono ?_; rintro e w' ⟨rfl, rfl⟩; rw [hh])
    go_ret
    exact ⟨ret_int HCD.out.symm, by rw [HB.out]; exact HA.out.wrote (kept_one _ _ _ _) (by simp [World.setCell]) HC.out rfl⟩

theorem join_codes (b : Bk) (n : Int) : (wrB n = false ∧ joinC b n = 1) ∨ (wrB n = true ∧ b.here n = true ∧ joinC b n = 6) ∨ (wrB n = true ∧ b.here n = false ∧ joinC b n = 0) := by
  unfold joinC
  cases h : wrB n
  · exact .inl ⟨rfl, if_pos rfl⟩
  · rw [if_neg (by simp)]
    cases h2 : b.here n
    · exact .inr (.inr ⟨rfl, rfl, if_neg (by simp)⟩)
    · exact .inr (.inl ⟨rfl, rfl, if_pos rfl⟩)

set_option maxRecDepth 20000 in
set_option maxHeartbeats 800000 in
theorem join_bk {w : World} {base B : Nat} {S : Nat → Prop} {dv : Value} {b : Bk} (h : BookAt w base S B dv b) (hg : Good b) (n : Int) :
    Calls Tryz.prog 79 #[.pointer (some ⟨B, 0, none⟩), .int .i64 n] w fun e w' => e = .returned (.tuple #[.int .i64 (joinN b n), .int .i64 (joinC b n)]) ∧ BookTo w base S B (joinB b n) w' := by
  have HA : Hid (BookAt w base S B dv b) := h
  obtain ⟨a, cap, rfl⟩ := h.ownD.len
  rcases join_codes b n with ⟨hw, hcd⟩ | ⟨hw, hh, hcd⟩ | ⟨hw, hh, hcd⟩
  · have HCD : Hid (joinC b n = 1) := hcd
    have HN : Hid (joinN b n = 0) := by show joinN b n = 0; rw [joinN, if_neg (by rw [hcd]; decide)]
    have HB : Hid (joinB b n = b) := join_no (by rw [hcd]; decide)
    clear h hcd
    go_enter Tryz.func79, Tryz.ntmps79
    go_wp2_with (go_at_call 50; refine (isWriter_any _ _).mono ?_; rintro e w' ⟨rfl, rfl⟩; rw [hw])
    go_ret2
    exact ⟨ret_two HN.out.symm HCD.out.symm, by rw [HB.out]; exact HA.out.stay (Below.refl _ _)⟩
  · have HCD : Hid (joinC b n = 6) := hcd
    have HN : Hid (joinN b n = 0) := by show joinN b n = 0; rw [joinN, if_neg (by rw [hcd]; decide)]
    have HB : Hid (joinB b n = b) := join_no (by rw [hcd]; decide)
    obtain ⟨j, rfl, hj⟩ := wr_nat hw
    have c1 := h.cells.here j hj
    have hlt := h.cells.lt
    rw [hh] at c1
    clear h hcd
    go_enter Tryz.func79, Tryz.ntmps79
    go_wp2_with (go_at_call 50; refine (isWriter_any _ _).mono ?_; rintro e w' ⟨rfl, rfl⟩; rw [hw])
    go_ret2
    exact ⟨ret_two HN.out.symm HCD.out.symm, by rw [HB.out]; exact HA.out.stay (Below.refl _ _)⟩
  · have HCD : Hid (joinC b n = 0) := hcd
    have HN : Hid (joinN b n = b.last n + 1) := by show joinN b n = _; rw [joinN, if_pos hcd]
    have HB : Hid (joinB b n = ⟨b.ds, setF b.here n true, b.last, setF b.said n b.len⟩) := by show joinB b n = _; rw [joinB, if_pos hcd]
    obtain ⟨hl0, hl1⟩ := lastAt_bound hg n
    have hl2 : b.len ≤ 120 := by have := hg.small; show (b.ds.length : Int) ≤ 120; omega
    obtain ⟨j, rfl, hj⟩ := wr_nat hw
    have c0 := h.cells.deeds
    have c1 := h.cells.here j hj
    have c2 := h.cells.last j hj
    have c3 := h.cells.said j hj
    have f1 := h.cells.free (1 + j) (by omega)
    have f3 := h.cells.free (9 + j) (by omega)
    have hlt := h.cells.lt
    have HC : Hid (BookC ((w.setCell ⟨B, 1 + j, none⟩ (.bool true)).setCell ⟨B, 9 + j, none⟩ (.int .i64 b.ds.length)) B (.slice a b.ds.length cap) ⟨b.ds, setF b.here j true, b.last, setF b.said j b.len⟩) := (h.cells.setHere hj true).setSaid hj _
    rw [hh] at c1
    generalize b.last j = m at *
    clear h hcd hg
    go_enter Tryz.func79, Tryz.ntmps79
    go_wp2_with (go_at_call 50; refine (isWriter_any _ _).mono ?_; rintro e w' ⟨rfl, rfl⟩; rw [hw])
    go_region
    all_goals
      go_wp2
      go_ret2
      exact ⟨ret_two HN.out.symm HCD.out.symm, by rw [HB.out]; exact (HA.out.wrote (kept_more (kept_one _ _ _ _) _ _) (by simp [World.setCell]) HC.out rfl).after (Below.refl _ _).drew⟩

end Go.Proofs.YtfpemdbiplfkgacGreat
