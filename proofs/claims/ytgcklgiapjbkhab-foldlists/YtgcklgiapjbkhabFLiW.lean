/-
  The walk of greatDeeds, and what the law FoldLists keeps in memory (its own walk is still to be done: wip/open/FLiW.txt).
-/
import Derived.Test.YtgcklgiapjbkhabFLiP
import Derived.Test.YtgcklgiapjbkhabFBegun
namespace Go.Proofs.Ytgcklgiapjbkhab
open Go.RowKit

theorem DLst.row {w : World} {a : Option Addr} {cap : Nat} {ds : List Dd} (h : DLst w (.slice a ds.length cap) ds) (hp : 0 < ds.length) : ∃ b off, a = some ⟨b, off, none⟩ ∧ Deeds w b off ds := by
  obtain ⟨a', len, cap', he, h1, h2, h3⟩ := h
  simp only [Value.slice.injEq] at he
  obtain ⟨rfl, rfl, rfl⟩ := he
  rcases h3 with h3 | h3
  · omega
  · exact h3

theorem DLst.len {w : World} {v : Value} {ds : List Dd} (h : DLst w v ds) : ∃ a cap, v = .slice a ds.length cap := by
  obtain ⟨a, len, cap, rfl, rfl, h2, h3⟩ := h
  exact ⟨a, cap, rfl⟩

/-- What greatDeeds answers. -/
def GreatIs (ds : List Dd) (w : World) (e : Ending) (w' : World) : Prop := ∃ g, e = .returned (.bool g) ∧ (g = false → ds.length ≤ 150 ∧ ∀ i (hi : i < ds.length), ds[i].text.size ≤ 100) ∧ w' = w

theorem great_yes (ds : List Dd) (w : World) : GreatIs ds w (.returned (.bool true)) w := ⟨true, rfl, fun e => (by cases e), rfl⟩

set_option maxRecDepth 20000 in
set_option maxHeartbeats 800000 in
theorem great_any (v : Value) (ds : List Dd) (w : World) (h : DLst w v ds) :
    Calls Try.prog 5 #[v] w fun e w' => GreatIs ds w e w' := by
  obtain ⟨a, cap, rfl⟩ := h.len
  have HD : Hid (DLst w (.slice a ds.length cap) ds) := h
  clear h
  go_enter Try.func5, Try.ntmps5
  go_wp2
  go_loop [3] (fun i => ∃ k : Nat, k ≤ ds.length ∧ k ≤ 200 ∧ i = .int .i64 k ∧ Hid (∀ i (hi : i < ds.length), i < k → ds[i].text.size ≤ 100)) (fun i => 200 - (intOf i).toNat)
  case atStart => exact ⟨0, Nat.zero_le _, by omega, rfl, fun i _ h => absurd h (Nat.not_lt_zero _)⟩
  case round =>
    obtain ⟨k, hk, hk2, rfl, HK⟩ := hrel
    by_cases hlt : k < ds.length
    · by_cases hlt2 : k < 200
      · obtain ⟨b, off, rfl, hr⟩ := HD.out.row (by omega)
        obtain ⟨_, c0, c1, c2, c3, c4, c5, c6⟩ := hr.at_ k hlt
        have HX : Hid (∃ d, d = ds[k]) := ⟨_, rfl⟩
        obtain ⟨d, hd⟩ := HX.out
        rw [← hd] at c0 c1 c2 c3 c4 c5 c6
        have HDK : Hid (d = ds[k]) := hd
        clear hr hd HX
        by_cases ht : 100 < d.text.size
        · go_wp2
          go_ret
          exact great_yes ds w
        · go_wp2
          go_round
          case rel =>
            refine ⟨k + 1, by omega, by omega, by go_num, fun i hi hik => ?_⟩
            by_cases e : i = k
            · subst e; rw [← HDK.out]; omega
            · exact HK.out i hi (by omega)
          case measure => simp [intOf]; omega
      · go_wp2
        go_ret
        exact ⟨decide (150 < (ds.length : Int)), rfl, fun e => (by have := of_decide_eq_false e; omega), rfl⟩
    · go_wp2
      go_ret
      exact ⟨decide (150 < (ds.length : Int)), rfl, fun e => (by have := of_decide_eq_false e; exact ⟨by omega, fun i hi => HK.out i hi (by omega)⟩), rfl⟩

/-- Of each writer the last number, in memory. -/
structure Lasts (w : World) (B : Nat) (f : Int → Int) : Prop where
  lt : B < w.heap.size
  c : ∀ j, j < 4 → w.cell? ⟨B, j, none⟩ = some (.int .i64 (f j))
  f : ∀ j, j < 4 → w.frozen? ⟨B, j, none⟩ = false

theorem lasts_start (w : World) : Lasts (w.alloc (.cells #[.int .i64 0, .int .i64 0, .int .i64 0, .int .i64 0] 25)) w.heap.size (lastAt []) := by
  refine ⟨by simp, fun j hj => ?_, fun j hj => ?_⟩ <;> rcases (show j = 0 ∨ j = 1 ∨ j = 2 ∨ j = 3 by omega) with rfl | rfl | rfl | rfl <;> simp [go_sem, lastAt]

theorem Lasts.below {w w' : World} {B : Nat} {f : Int → Int} (h : Lasts w B f) (hb : Below w.heap.size w w') : Lasts w' B f := by
  obtain ⟨hc, hf⟩ := bcell hb
  exact ⟨by have := hb.size; have := h.lt; omega, fun j hj => by rw [hc _ _ h.lt]; exact h.c j hj, fun j hj => by rw [hf _ _ h.lt]; exact h.f j hj⟩

theorem Lasts.set {w : World} {B : Nat} {f : Int → Int} (h : Lasts w B f) (d : Dd) {k : Nat} (hk : k < 4) (hd : d.by_ = k) : Lasts (w.setCell ⟨B, k, none⟩ (.int .i64 d.no)) B (upd f d) := by
  refine ⟨by simpa using h.lt, fun j hj => ?_, fun j hj => ?_⟩
  · have c1 := h.c j hj
    have c2 := h.c k hk
    by_cases e : k = j
    · subst e
      simp [go_sem, c1, upd, hd]
    · have e' : ¬ (j : Int) = d.by_ := by omega
      simp [go_sem, c1, upd, e']
  · simpa [go_sem] using h.f j hj

/-- What holds in the middle of the law's loop. -/
structure SInv (w : World) (B : Nat) (f : Int → Int) (wr : World) : Prop where
  below : Below w.heap.size w wr
  hB : w.heap.size ≤ B
  last : Lasts wr B f

theorem SInv.after {w wr w' : World} {B : Nat} {f : Int → Int} (h : SInv w B f wr) (hb : Below wr.heap.size wr w') : SInv w B f w' := ⟨below_after h.below hb, h.hB, h.last.below hb⟩

theorem SInv.set {w wr : World} {B : Nat} {f : Int → Int} (h : SInv w B f wr) (d : Dd) {k : Nat} (hk : k < 4) (hd : d.by_ = k) : SInv w B (upd f d) (wr.setCell ⟨B, k, none⟩ (.int .i64 d.no)) :=
  ⟨h.below.setCell (p := ⟨B, k, none⟩) h.hB _, h.hB, h.last.set d hk hd⟩

theorem ok_step {ds : List Dd} {k : Nat} {d : Dd} (hk : k < ds.length) (hd : d = ds[k]) (hw : wrB d.by_ = true) (hn : d.no = lastAt (ds.take k) d.by_ + 1) (hs : d.seen ≤ k) (h : ∀ i, i < k → okAt ds i) : ∀ i, i < k + 1 → okAt ds i := by
  intro i hi
  by_cases e : i = k
  · subst e
    intro x hx
    rw [List.getElem?_eq_getElem hk, ← hd] at hx
    obtain rfl := Option.some.inj hx
    exact ⟨hw, hn, hs⟩
  · exact h i (by omega)

theorem nAt_small {ds : List Dd} (h : ∀ i (hi : i < ds.length), ds[i].text.size ≤ 100) (hl : ds.length ≤ 150) (k : Nat) : nAt (ds.take k) ≤ 15000 := by
  have h1 := nAt_le (ds.take k) 0 (fun d hd => by
    obtain ⟨i, hi, rfl⟩ := List.getElem_of_mem hd
    rw [List.getElem_take]
    exact h i _)
  have h2 : (ds.take k).length ≤ ds.length := by rw [List.length_take]; omega
  unfold nAt
  omega

set_option maxHeartbeats 3200000 in
theorem lists_any (v : Value) (ds : List Dd) (w : World) (h : DLst w v ds) :
    Calls Try.prog 3 #[v] w fun e w' => e = .returned (.bool true) ∧ Below w.heap.size w w' := by
  have HD : Hid (DLst w v ds) := h
  obtain ⟨a, cap, rfl⟩ := h.len
  clear h
  go_enter Try.func3, Try.ntmps3
  go_wp2_with fail
  refine (fbegun_any _).mono ?_
  rintro e w1 ⟨rfl, hb1⟩
  have HB1 : Hid (Below w.heap.size w w1) := hb1
  clear hb1
  go_wp2_with fail
  refine (great_any _ ds _ (HD.out.below HB1.out)).mono ?_
  rintro e w2 ⟨g, rfl, hg, rfl⟩
  cases g
  · obtain ⟨hl, ht⟩ := hg rfl
    have HT : Hid (∀ k, nAt (ds.take k) ≤ 15000) := nAt_small ht hl
    have HT2 : Hid (∀ i (hi : i < ds.length), ds[i].text.size ≤ 100) := ht
    have HS0 : Hid (SInv w w2.heap.size (lastAt []) (w2.alloc (.cells #[.int .i64 0, .int .i64 0, .int .i64 0, .int .i64 0] 25))) := ⟨HB1.out.alloc HB1.out.size _, HB1.out.size, lasts_start w2⟩
    clear hg ht
    generalize hB : w2.heap.size = B at *
    go_wp2
    go_loopw [4, 5] (fun n i wr => ∃ k : Nat, k ≤ ds.length ∧ i = .int .i64 k ∧ n = .int .i64 (nAt (ds.take k)) ∧ Hid (∀ i, i < k → okAt ds i) ∧ Hid (SInv w B (lastAt (ds.take k)) wr)) (fun _ i _ => ds.length - (intOf i).toNat)
    case atStart => exact ⟨0, Nat.zero_le _, rfl, rfl, fun i hi => absurd hi (Nat.not_lt_zero _), HS0⟩
    case round =>
      obtain ⟨k, hk, rfl, rfl, HK, HS⟩ := hrel
      clear HS0
      by_cases hlt : k < ds.length
      · obtain ⟨b, off, rfl, hr⟩ := (HD.out.below HS.out.below).row (by omega)
        obtain ⟨_, g0, g1, g2, g3, g4, g5, g6⟩ := hr.at_ k hlt
        have hlb := last_bound k hk HK.out
        have hnk := HT.out k
        have hnk1 := HT.out (k + 1)
        obtain ⟨d, hd⟩ : ∃ d, d = ds[k] := ⟨_, rfl⟩
        have htd : d.text.size ≤ 100 := by rw [hd]; exact HT2.out k hlt
        have HL : Hid (lastAt (ds.take (k + 1)) = upd (lastAt (ds.take k)) d) := by show _ = _; rw [take_snocD ds k hlt, lastAt_snoc, hd]
        have HN : Hid (nAt (ds.take (k + 1)) = nAt (ds.take k) + d.text.size) := by show _ = _; rw [take_snocD ds k hlt, nAt_snoc, hd]
        rw [← hd] at g0 g1 g2 g3 g4 g5 g6
        have HOK : Hid (wrB d.by_ = true → d.no = lastAt (ds.take k) d.by_ + 1 → d.seen ≤ k → ∀ i, i < k + 1 → okAt ds i) := fun x y z => ok_step hlt hd x y z HK.out
        have hBlt := HS.out.last.lt
        have HS5 : Hid (SInv w B (lastAt (ds.take k)) (wr.alloc (dObj d))) := HS.out.after ((Below.refl _ _).alloc (Nat.le_refl _) _)
        have HA5 : Hid (DdAt (wr.alloc (dObj d)) wr.heap.size 0 d) := ddat_start wr d
        have hm := hlb d.by_
        generalize nAt (ds.take k) = n at *
        generalize lastAt (ds.take k) = f at *
        clear hr hd hlb HK HS
        obtain ⟨kind, by_, no, seen, at_, many, text⟩ := d
        simp only at g0 g1 g2 g3 g4 g5 g6 HL HN HOK hm htd
        unfold dObj at HS5 HA5
        go_wp2
        clear g0 g1 g2 g3 g4 g5 g6
        generalize hw5 : wr.alloc _ = w5 at HS5 HA5 ⊢
        generalize wr.heap.size = E at *
        obtain ⟨_, c0, c1, c2, c3, c4, c5, c6⟩ := HA5.out
        simp only [Nat.zero_add] at c0 c1 c2 c3 c4 c5 c6
        clear hw5
        cases hw : wrB by_
        · go_quiet ((go_at_call 6; exact Calls.quiet_of_same (isWriter_any _ _)))
          go_wp2
          go_ret
          exact ⟨rfl, below_drewN HS5.out.below _⟩
        · have hb : 0 ≤ by_ ∧ by_ ≤ 3 := by simpa [wrB] using hw
          obtain ⟨hb0, hb3⟩ := hb
          obtain ⟨j, rfl⟩ := Int.eq_ofNat_of_zero_le hb0
          have hj : j < 4 := by omega
          have l0 := HS5.out.last.c j hj
          have l1 := HS5.out.last.f j hj
          generalize hfm : f (j : Int) = m at hm l0 HOK
          obtain ⟨hm0, hm1⟩ := hm
          by_cases hno : no = m + 1
          · have hno' : (no != m + 1) = false := by simp [hno]
            by_cases hse : seen ≤ k
            · have HK1 : Hid (∀ i, i < k + 1 → okAt ds i) := HOK.out hw hno hse
              have HS6 : Hid (∀ wk, SInv w B f wk → SInv w B (upd f ⟨kind, j, no, seen, at_, many, text⟩) (wk.setCell ⟨B, j, none⟩ (.int .i64 no))) := fun wk h => h.set ⟨kind, j, no, seen, at_, many, text⟩ hj rfl
              clear hno HOK
              go_quiet ((go_at_call 6; exact Calls.quiet_of_same (isWriter_any _ _)))
              go_wp2
              go_roundw
              case rel => exact ⟨k + 1, by omega, by go_num, by rw [HN.out]; go_num, HK1, by rw [HL.out]; exact HS6.out _ (HS5.out.after (below_drewN (Below.refl _ _) _))⟩
              case measure => simp [intOf]; omega
            · have hse' : decide ((k : Int) < seen) = true := decide_eq_true (by omega)
              clear hno HOK hse
              go_quiet ((go_at_call 6; exact Calls.quiet_of_same (isWriter_any _ _)))
              go_wp2
              go_ret
              exact ⟨rfl, below_drewN HS5.out.below _⟩
          · have hno' : (no != m + 1) = true := by simp [hno]
            clear hno HOK
            go_quiet ((go_at_call 6; exact Calls.quiet_of_same (isWriter_any _ _)))
            go_wp2
            go_ret
            exact ⟨rfl, below_drewN HS5.out.below _⟩
      · obtain rfl : k = ds.length := by omega
        have HE : Hid (ds.take ds.length = ds) := List.take_length
        have HN : Hid (nAt ds ≤ 15000) := by have := HT.out ds.length; rwa [HE.out] at this
        rw [HE.out]
        have hn := HN.out
        go_wp2_with fail
        refine (all_lst (HD.out.below HS.out.below) (by omega)).mono ?_
        rintro e w6 ⟨v6, rfl, hO6, hb6⟩
        have HB6 : Hid (Below w.heap.size w w6) := below_after HS.out.below hb6
        have HF : Hid ((allL [] 0 ds).2.1 ≠ 0 → (allL [] 0 ds).1.length = 0) := fun h => by rw [lists_fault h]; rfl
        have HM : Hid ((allL [] 0 ds).2.1 = 0 → ∀ r, CheckIs (allL [] 0 ds).1 ds.length r → r = 0 ∧ (allL [] 0 ds).1.length = nAt ds) := fun h r hr => lists_made HK.out (by omega) h hr
        have hsm : (allL [] 0 ds).1.length ≤ 200 := small_all (sofar_start ds).1
        generalize (allL [] 0 ds).2.1 = c at *
        generalize ((allL [] 0 ds).2.2 : Int) = f at *
        generalize (allL [] 0 ds).1 = xs at *
        have HB7 : Hid (∀ o, Below w.heap.size w (w6.alloc o)) := fun o => HB6.out.alloc HB6.out.size _
        have HO7 : Hid (∀ o, Lst (w6.alloc o) v6 xs) := fun o => hO6.lst.below ((Below.refl _ _).alloc (Nat.le_refl _) _)
        obtain ⟨a6, cap6, rfl, _⟩ := hO6.lst.len
        clear hb6 hO6 HK HS HT HT2 HE HN HB6
        by_cases hc : c = 0
        · subst hc
          go_wp2_with fail
          refine (check_lst (HO7.out _) (by omega) ds.length).mono ?_
          rintro e w8 ⟨r, rfl, hr, hb8⟩
          obtain ⟨hr0, hx⟩ := HM.out trivial r hr
          subst hr0
          have HB8 : Hid (Below w.heap.size w w8) := below_after (HB7.out _) hb8
          rw [hx]
          clear hb8 hr HM HF HB7 HO7 hx hsm
          go_wp2
          go_ret
          exact ⟨rfl, HB8.out⟩
        · have hc' : (c != 0) = true := by simp [hc]
          have hx := HF.out hc
          rw [hx]
          clear hc HF HM HO7
          go_wp2
          go_ret
          exact ⟨rfl, HB7.out _⟩
  · go_wp2
    go_ret
    exact ⟨rfl, HB1.out⟩

/-- THE LAW. -/
theorem law_lists (w : World) {v : Value} {ds : List Dd} (h : DLst w v ds) :
    Calls Try.prog 3 #[v] w fun e w' => e = .returned (.bool true) ∧ Below w.heap.size w w' := lists_any v ds w h

end Go.Proofs.Ytgcklgiapjbkhab
