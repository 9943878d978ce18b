/-
  Two desks in one world; what a law asks of desks besides: seen, deedsOf; SameDeeds of two that are the same.
-/
import Derived.Test.YtnabhdfodckpdacGreatWKnown
import Derived.BigRegion
namespace Go.Proofs.YtnabhdfodckpdacGreat
set_option maxRecDepth 20000
open Go Go.RowKit
set_option maxHeartbeats 800000 in
theorem sameDeeds_eqT {w : World} {va vb : Value} {a : List Dd} (ha : DLst w va a) (hb : DLst w vb a) (hl : a.length ≤ 1000) :
 Calls Tryz.prog 74 #[va, vb] w fun e w' => e = .returned (.bool true) ∧ Below w.heap.size w w' := by
 have HA : Hid (DLst w va a) := ha
 have HB : Hid (DLst w vb a) := hb
 obtain ⟨aa, n, ca, rfl, e1, _, _⟩ := ha
 obtain ⟨ab, n2, cb, rfl, e2, _, _⟩ := hb
 have hn2 : n2 = n := by omega
 subst hn2
 have HE : Hid (a.length = n2) := e1
 rw [e1] at hl
 clear e1 e2
 go_enter Tryz.func74, Tryz.ntmps74
 go_wp2
 go_loopw [5] (fun i wr => ∃ k : Nat, k ≤ n2 ∧ i = .int .i64 k ∧ Hid (Below w.heap.size w wr)) (fun i _ => n2 - (intOf i).toNat)
 case atStart => exact ⟨0, Nat.zero_le _, rfl, Below.refl _ _⟩
 case round =>
  obtain ⟨k, hk, rfl, HW⟩ := hrel
  by_cases hlt : k < n2
  ·have hka : k < a.length := by rw [HE.out]; exact hlt
   obtain ⟨a1, l1, c1, he1, _, _, hr1⟩ := HA.out.below HW.out
   obtain ⟨a2, l2, c2, he2, _, _, hr2⟩ := HB.out.below HW.out
   simp only [Value.slice.injEq] at he1 he2
   obtain ⟨rfl, rfl, rfl⟩ := he1
   obtain ⟨rfl, -, rfl⟩ := he2
   rcases hr1 with hr1 | ⟨b1, o1, rfl, hr1⟩
   ·omega
   rcases hr2 with hr2 | ⟨b2, o2, rfl, hr2⟩
   ·omega
   obtain ⟨hb1, g0, g1, g2, g3, g4, g5, g6⟩ := hr1.at_ k hka
   obtain ⟨hb2, q0, q1, q2, q3, q4, q5, q6⟩ := hr2.at_ k hka
   generalize a[k] = d at *
   obtain ⟨kind, by_, no, dseen, at_, many, text⟩ := d
   simp only at g0 g1 g2 g3 g4 g5 g6 q0 q1 q2 q3 q4 q5 q6
   clear hr1 hr2
   go_wp2
   go_region
   go_wp2
   go_roundw
   case rel => exact ⟨k + 1, by omega, by go_num, below_drewN HW.out _⟩
   case measure => simp [intOf]; omega
  ·go_wp2
   go_ret
   exact ⟨rfl, HW.out⟩
theorem wp_region_lateD {P : Program} {ops : Array Oper} {id : Nat} {Q : Exit → Act → World → Prop} {a : Act} {w : World} (U0 D0 : Cls) (sp lt : Nat → Bool) (hm : P.follows .mixedOrders = true) (hB : Region.lexB .any ops = true) (hc : loneB .any ops sp lt = true) (hDU : ∀ w, D0 w → U0 w)
 (hD : D0 w.drew) (h : wpLate P ops U0 sp lt (fun a' w' => Q .normal a' w') ops.toList 0 a U0 D0) : (Code.region id ops true).wp P Q a w := by
 simp only [Region.lexB, Bool.and_eq_true] at hB
 have hD' : D0 { w with drawn := w.drawn + 1 } := hD
 refine wp_region_any hm (wpAny_of_late (U0 := U0) (sp := sp) (lt := lt) (Q := fun a' w' => Q .normal a' w') (fun _ _ h => h) _ _ _ U0 D0 _ (fun _ h => h) hDU hD' ?_)
 have := wpAnyT_lex (md := .any) (hDU _ hD') hB.1 hc ops.toList 0 a U0 D0 (by simp) (by simp) (by rw [upto_zero]; simpa using hB.2) h
 rw [upto_zero] at this
 simpa using this
theorem src_newT (w : World) (d : Dd) {n : Nat} (hn : n = w.heap.size) : ∀ j u, (cellsD [d])[j]? = some u → (w.alloc (.cells #[.int .i64 d.kind, .int .i64 d.by_, .int .i64 d.no, .int .i64 d.seen, .int .i64 d.at_, .int .i64 d.many, .string d.text] 41)).cell? ((⟨n, 0, none⟩ : Addr).add j) = some u := by
 subst hn
 exact src_new w [d] _ rfl
theorem below_grownT {w wr w2 : World} {v : Value} {l : List Dd} {o : Obj} (hb : Below w.heap.size w wr) (ho : OwnD wr w.heap.size v l) (hg : (wr.alloc o).grownBy w2 v.ownBlock) : Below w.heap.size w w2 :=
 (hb.alloc hb.size _).grown hg (by have := hb.size; simp; omega) (fun j hj => (World.ownsRow.lt ho j hj).1)
theorem DkAny.deed {base : Nat} {S : Nat → Prop} {w wk : World} {D G : Nat} {pw : Nat → Nat} {t : Twn} (h : DkAny base w S D G pw t wk) (n : Int) :
 Calls Tryz.prog 10 #[.pointer (some ⟨G, 0, none⟩), .int .i64 n] wk fun e w' => e = .returned (.tuple #[ddV (nthD t.b n), .bool (isD t.b n)]) ∧ Below wk.heap.size wk w' := by
 obtain ⟨tk, h1, h2⟩ := h
 obtain ⟨T, dv, lv, hl, _⟩ := h1.log
 exact deed_lg hl h2.ti.good.small n
structure OIT (w : World) (v : Value) (L : List Dd) (wk : World) : Prop where
 below : Below w.heap.size w wk
 own : OwnD wk w.heap.size v L
set_option maxHeartbeats 3200000 in
theorem deedsOf_any {base : Nat} {S : Nat → Prop} {w0 w : World} {D G : Nat} {pw : Nat → Nat} {t : Twn} (h : DkAny base w0 S D G pw t w) :
 Calls Tryz.prog 75 #[.pointer (some ⟨D, 0, none⟩)] w fun e w' => ∃ v, e = .returned v ∧ DLst w' v t.b.ds ∧ Below w.heap.size w w' := by
 have HA : Hid (DkAny base w0 S D G pw t w) := h
 have hsm : t.b.ds.length ≤ 120 := h.ti.good.small
 clear h
 go_enter Tryz.func75, Tryz.ntmps75
 go_wp2_with fail
 go_loopw [3, 4] (fun v i wr => ∃ j : Nat, j ≤ t.b.ds.length ∧ i = .int .i64 ((j : Int) + 1) ∧ Hid (OIT w v (t.b.ds.take j) wr)) (fun _ i _ => t.b.ds.length + 1 - (intOf i).toNat)
 case atStart => exact ⟨0, Nat.zero_le _, rfl, Below.refl _ _, ownD_nil _ _⟩
 case round =>
  obtain ⟨j, hj, rfl, HI⟩ := hrel
  have HAr : Hid (DkAny base w0 S D G pw t wr) := HA.out.after HI.out.below
  have g0 := HAr.out.cells.book
  have hlt0 := HAr.out.cells.lt
  by_cases hlt : j < t.b.ds.length
  ·obtain ⟨h1, h2⟩ := is_yes hlt
   have H1 : Hid (isD t.b ((j : Int) + 1) = true) := h1
   have H2 : Hid (nthD t.b ((j : Int) + 1) = t.b.ds[j]) := h2
   have HT : Hid (t.b.ds.take (j + 1) = t.b.ds.take j ++ [t.b.ds[j]]) := List.take_succ_eq_append_getElem hlt
   have HTL : Hid ((t.b.ds.take j).length ≤ 120) := by show _ ≤ _; rw [List.length_take]; omega
   generalize t.b.ds[j] = d at *
   clear h1 h2
   obtain ⟨kind, by_, no, seen, at_, many, text⟩ := d
   go_wp2_with (first | (go_at_call 40; refine HAr.out.len.mono ?_; rintro e wx ⟨rfl, hwx⟩; rw [hwx]; clear hwx wx) | (go_at_call 10; refine (HAr.out.deed _).mono ?_; rintro e wy ⟨rfl, hby⟩; rw [H1.out, H2.out]; have HBy : Hid (OIT w u3 (t.b.ds.take j) wy) := ⟨bla HI.out.below hby, HI.out.own.below hby⟩; clear hby) | (at_builtin; refine append_deeds _ (by rfl) (.tmp 25) (.tmp 27) (by rfl) w.heap.size (wy.heap.size + 1) 1 (v := u3) (a := t.b.ds.take j) (b := [⟨kind, by_, no, seen, at_, many, text⟩]) (by rfl) (by rfl) ((HBy.out.own.below ((Below.refl _ _).alloc (Nat.le_refl _) _)).below ((Below.refl _ _).alloc (Nat.le_refl _) _)) (src_newT (wy.alloc (dObj ⟨kind, by_, no, seen, at_, many, text⟩)) ⟨kind, by_, no, seen, at_, many, text⟩ (by simp)) (by have := HTL.out; show _ + 1 ≤ 100000; omega) (by have := HBy.out.below.size; simp; omega) ?_))
   intro v' w2 ho hg
   have HB2 : Hid (Below w.heap.size w w2) := below_grownT (HBy.out.below.alloc HBy.out.below.size _) (HBy.out.own.below ((Below.refl _ _).alloc (Nat.le_refl _) _)) hg
   have HO2 : Hid (OwnD w2 w.heap.size v' (t.b.ds.take (j + 1))) := by show OwnD _ _ _ _; rw [HT.out]; exact ho
   clear ho hg g0
   go_wp2
   go_roundw
   case rel => exact ⟨j + 1, by omega, by go_num, HB2.out, HO2.out⟩
   case measure => simp [intOf]; omega
  ·obtain rfl : j = t.b.ds.length := by omega
   have HTA : Hid (t.b.ds.take t.b.ds.length = t.b.ds) := List.take_length
   obtain ⟨aa, ca, hea⟩ := OwnD.len HI.out.own
   have HO2 : Hid (OwnD wr w.heap.size u3 t.b.ds) := by have := HI.out.own; rw [HTA.out] at this; exact this
   rw [HTA.out] at hea
   subst hea
   go_wp2_with (go_at_call 40; refine HAr.out.len.mono ?_; rintro e wx ⟨rfl, hwx⟩; rw [hwx]; clear hwx wx)
   go_ret
   exact ⟨_, rfl, HO2.out.dlst, HI.out.below⟩
theorem dkAt_any {base : Nat} (w : World) (hb : base ≤ w.heap.size) : DkAt base (w.heap.size + 1) w.heap.size (fun _ => 0) twn0 (fun _ => []) ((w.alloc (.cells logZ 93)).alloc (.cells (deskZ w.heap.size) 109)) (fun k => w.heap.size ≤ k ∧ k < w.heap.size + 2) := by
 have hsz : ((w.alloc (.cells logZ 93)).alloc (.cells (deskZ w.heap.size) 109)).heap.size = w.heap.size + 2 := by simp
 have h0 : Hq base (fun _ => Th.no base) w (fun _ => False) w := ⟨fun _ => 0, ⟨fun _ e => absurd rfl e, hb, fun _ _ => trivial⟩, fun _ e => absurd rfl e, Kept.refl _ _⟩
 have h1 := Hq.lay h0 (below1 w (.cells logZ 93)) (i := 1) (by omega) (Th.log base w.heap.size Bk.empty) ⟨_, _, (logAt_start w hb).mono (fun k e => ⟨by omega, by simp; omega⟩) (fun k e => ⟨by omega, e.2⟩)⟩
 have h2 := Hq.lay h1 (below1 _ (.cells (deskZ w.heap.size) 109)) (i := 6) (by omega) (Th.tw base (w.heap.size + 1) w.heap.size (fun _ => 0) (hasW twn0)) ⟨⟨by simp, by simp⟩, by have := twC_start (w.alloc (.cells logZ 93)) w.heap.size; simpa using this⟩
 have h3 : DkIn base w (fun _ => False) (w.heap.size + 1) w.heap.size (fun _ => 0) twn0 (fun _ => []) (fun _ => Th.no _) _ := dkIn_of h2 (fun T hp => hp) (fun T hp => hp) (fun k hk T hp => by show (Th.no _).P _ T; trivial) (fun j T hp => trivial)
 obtain ⟨ow, h4⟩ := h3
 refine ⟨fun k e => by omega, ow, h4.at_, fun k e => ?_⟩
 rcases h4.old k e with x | x
 ·exact x.elim
 ·omega
section
variable {w wk w' : World} {D G E F : Nat} {pw qw : Nat → Nat} {t u : Twn}
end
end Go.Proofs.YtnabhdfodckpdacGreat
