/-
  The law StoryGrows: DEED BY DEED.
-/
import Derived.Test.YtfpemdbiplfkgacStK
import Derived.Deep.DeepCutAuto
namespace Go.Proofs.Ytfpemdbiplfkgac
open Go Go.RowKit

/-- A story, and a deed in a box. -/
structure GrI (w : World) (B : Nat) (d : Dd) (lo P : Nat) (b : Bk) (wk : World) : Prop where
  below : Below w.heap.size w wk
  deed : DdAt wk B 0 d
  st : StTo wk lo P b
theorem GrI.after {w wk w' : World} {B lo P : Nat} {d : Dd} {b : Bk} (h : GrI w B d lo P b wk) (hb : Below wk.heap.size wk w') : GrI w B d lo P b w' := ⟨below_after h.below hb, h.deed.below hb, h.st.below hb⟩

/-- Two lists of numbers, and a deed in a box. -/
structure GrL (w : World) (B : Nat) (d : Dd) (pv : Value) (pz : List Int) (qv : Value) (qz : List Int) (wk : World) : Prop where
  below : Below w.heap.size w wk
  deed : DdAt wk B 0 d
  p : ILst wk pv pz
  q : ILst wk qv qz
theorem GrL.after {w wk w' : World} {B : Nat} {d : Dd} {pv qv : Value} {pz qz : List Int} (h : GrL w B d pv pz qv qz wk) (hb : Below wk.heap.size wk w') : GrL w B d pv pz qv qz w' := ⟨below_after h.below hb, h.deed.below hb, h.p.below hb, h.q.below hb⟩

/-- What a comparison told: to go on, or that there is an end. -/
def CutI (more stop : Prop) (R : World → Prop) (c : Value) (wx : World) : Prop := ∃ g : Bool, c = .bool g ∧ (g = true → more) ∧ (g = false → stop) ∧ R wx
theorem cut_no {more stop : Prop} {R : World → Prop} {wx : World} (hs : stop) (h : R wx) : CutI more stop R (.bool false) wx := ⟨false, rfl, fun e => (by cases e), fun _ => hs, h⟩
theorem cut_is {more stop : Prop} {R : World → Prop} {wx : World} {x y : Int} (hm : more) (hs : x ≠ y → stop) (h : R wx) : CutI more stop R (.bool (x == y)) wx := ⟨x == y, rfl, fun _ => hm, fun e => hs (by simpa using e), h⟩

theorem toNat_ne {x y : UInt8} (h : ¬ ((x.toNat : Int) = (y.toNat : Int))) : x ≠ y := fun e => h (by rw [e])

set_option maxRecDepth 20000 in
set_option maxHeartbeats 12800000 in
theorem storyGrows_any (v : Value) (xs : List Tst) (n : Int) (w : World) (h : TLst w v xs) :
    Calls Try.prog 11 #[v, .int .i64 n] w fun e w' => e = .returned (.bool true) ∧ Below w.heap.size w w' := by
  have HX : Hid (TLst w v xs) := h
  obtain ⟨a, cap, rfl⟩ := h.len
  clear h
  go_enter Try.func11, Try.ntmps11
  go_wp2_with fail
  refine (sbegun_any _).mono ?_
  rintro e w0 ⟨rfl, hb0⟩
  have HB0 : Hid (Below w.heap.size w w0) := hb0
  clear hb0
  go_wp2_with fail
  refine (greatT_any _ xs _ (HX.out.below HB0.out)).mono ?_
  rintro e w1 ⟨gr, rfl, hgr, hw1⟩
  rw [hw1]
  clear hw1 w1
  cases gr
  · have hl := hgr rfl
    clear hgr
    go_wp2_with fail
    refine (played_any _ xs _ (HX.out.below HB0.out) hl).mono ?_
    rintro e w2 ⟨D, G, pw, t, rfl, hd⟩
    have H2 : Hid (DkAny w0.heap.size w0 (fun _ => False) D G pw t w2) := hd
    have g0 := hd.cells.book
    have hlt0 := hd.cells.lt
    clear hd
    go_wp2_with fail
    clear g0 hlt0
    refine (of_dk H2.out).mono ?_
    rintro e w3 ⟨P, rfl, hs, hb⟩
    have H3 : Hid (DkAny w0.heap.size w0 (fun _ => False) D G pw t w3) := H2.out.after hb
    have HS3 : Hid (StTo w3 w2.heap.size P t.b) := hs
    have g0 := H3.out.cells.book
    have hlt0 := H3.out.cells.lt
    clear hs hb H2
    generalize w2.heap.size = lo at *
    go_wp2_with fail
    clear g0 hlt0
    refine (H3.out.deed n).mono ?_
    rintro e w4 ⟨rfl, hb⟩
    have HB4 : Hid (Below w.heap.size w w4) := below_after (below_after HB0.out H3.out.below) hb
    have HS4 : Hid (StTo w4 lo P t.b) := HS3.out.below hb
    have HG : Hid (Good t.b) := H3.out.ti.good
    clear hb HS3 H3
    by_cases hn : 1 ≤ n ∧ n ≤ t.b.ds.length
    · obtain ⟨m, rfl⟩ : ∃ m : Nat, n = (m : Int) + 1 := ⟨(n - 1).toNat, by omega⟩
      have hm : m < t.b.ds.length := by omega
      have hm120 : t.b.ds.length ≤ 120 := HG.out.small
      obtain ⟨y1, y2⟩ := is_yes hm
      rw [y1, y2]
      have HF : Hid (GrF (strOfNums (txS t.b (m : Int))) (strOfNums (txS t.b ((m + 1 : Nat) : Int))) (byS t.b (m : Int)) (byS t.b ((m + 1 : Nat) : Int)) t.b.ds[m].kind t.b.ds[m].many t.b.ds[m].text.size (fun i j => (prS t.b (m : Int))[i]? = (prS t.b ((m + 1 : Nat) : Int))[j]?)) := grF HG.out hm
      have HT0 : Hid (thS t.b (m : Int) = thenL t.b.chars (m : Int) ∧ inS t.b (m : Int) = true) := ⟨thS_in (by omega), inS_in (by omega)⟩
      have HT1 : Hid (thS t.b ((m : Int) + 1) = thenL t.b.chars ((m + 1 : Nat) : Int) ∧ inS t.b ((m : Int) + 1) = true) := ⟨thS_in (n := m + 1) (by omega), inS_in (n := m + 1) (by omega)⟩
      obtain ⟨d, hd⟩ : ∃ d, t.b.ds[m] = d := ⟨_, rfl⟩
      rw [hd] at HF ⊢
      clear y1 y2 hd
      obtain ⟨kind, by_, no, seen, at_, many, text⟩ := d
      dsimp only at HF
      have hmi : (m : Int) ≤ 120 := by omega
      generalize hE : (fun (i j : Nat) => (prS t.b (m : Int))[i]? = (prS t.b ((m + 1 : Nat) : Int))[j]?) = E at HF
      clear hE hn hm hm120
      have H5 : Hid (GrI w w4.heap.size ⟨kind, by_, no, seen, at_, many, text⟩ lo P t.b (w4.alloc (dObj ⟨kind, by_, no, seen, at_, many, text⟩))) := ⟨below_after HB4.out (below1 _ _), ddat_start w4 _, HS4.out.below (below1 _ _)⟩
      unfold dObj at H5
      dsimp only at H5
      clear HS4 HB4 HG
      go_wp2_with fail
      generalize hw5 : World.alloc _ _ = w5 at *
      clear hw5
      generalize w4.heap.size = B at *
      refine (text_st H5.out.st (m : Int)).mono ?_
      rintro e w6 ⟨rfl, hb⟩
      rw [HT0.out.1, HT0.out.2]
      have H6 : Hid (GrI w B ⟨kind, by_, no, seen, at_, many, text⟩ lo P t.b w6) := H5.out.after hb
      clear hb H5
      change Hid (GrF (strOfNums ((thenL t.b.chars (m : Int)).map (·.c))) (strOfNums ((thenL t.b.chars ((m + 1 : Nat) : Int)).map (·.c))) ((thenL t.b.chars (m : Int)).map (·.by_)) ((thenL t.b.chars ((m + 1 : Nat) : Int)).map (·.by_)) kind many text.size E) at HF
      obtain ⟨sa, hsa⟩ : ∃ sa, strOfNums ((thenL t.b.chars (m : Int)).map (·.c)) = sa := ⟨_, rfl⟩
      rw [hsa] at HF ⊢
      clear hsa
      go_wp2_with fail
      refine (text_st H6.out.st ((m : Int) + 1)).mono ?_
      rintro e w7 ⟨rfl, hb⟩
      rw [HT1.out.1, HT1.out.2]
      have H7 : Hid (GrI w B ⟨kind, by_, no, seen, at_, many, text⟩ lo P t.b w7) := H6.out.after hb
      clear hb H6
      obtain ⟨sb, hsb⟩ : ∃ sb, strOfNums ((thenL t.b.chars ((m + 1 : Nat) : Int)).map (·.c)) = sb := ⟨_, rfl⟩
      rw [hsb] at HF ⊢
      clear hsb
      go_wp2_with fail
      refine (by_st H7.out.st (m : Int)).mono ?_
      rintro e w8 ⟨pv, rfl, hi, hb⟩
      rw [HT0.out.1] at hi
      rw [HT0.out.2]
      have H8 : Hid (GrI w B ⟨kind, by_, no, seen, at_, many, text⟩ lo P t.b w8) := H7.out.after hb
      clear hb H7
      obtain ⟨pz, hpz⟩ : ∃ pz, (thenL t.b.chars (m : Int)).map (·.by_) = pz := ⟨_, rfl⟩
      rw [hpz] at HF hi
      have HP8 : Hid (ILst w8 pv pz) := hi
      obtain ⟨pa, pc, rfl⟩ := hi.len
      rw [HF.out.lp] at HP8 ⊢
      clear hpz hi
      go_wp2_with fail
      refine (by_st H8.out.st ((m : Int) + 1)).mono ?_
      rintro e w9 ⟨qv, rfl, hi, hb⟩
      rw [HT1.out.1] at hi
      rw [HT1.out.2]
      have H9 : Hid (GrI w B ⟨kind, by_, no, seen, at_, many, text⟩ lo P t.b w9) := H8.out.after hb
      have HP9 : Hid (ILst w9 (.slice pa sa.size pc) pz) := HP8.out.below hb
      clear hb H8 HP8
      obtain ⟨qz, hqz⟩ : ∃ qz, (thenL t.b.chars ((m + 1 : Nat) : Int)).map (·.by_) = qz := ⟨_, rfl⟩
      rw [hqz] at HF hi
      have HQ9 : Hid (ILst w9 qv qz) := hi
      obtain ⟨qa, qc, rfl⟩ := hi.len
      rw [HF.out.lq] at HQ9 ⊢
      clear hqz hi HT0 HT1
      have HL9 : Hid (GrL w B ⟨kind, by_, no, seen, at_, many, text⟩ (.slice pa sa.size pc) pz (.slice qa sb.size qc) qz w9) := ⟨H9.out.below, H9.out.deed, HP9.out, HQ9.out⟩
      have hsa2 : sa.size ≤ 200 := HF.out.la
      have hsb2 : sb.size ≤ 200 := HF.out.lb
      clear H9 HP9 HQ9
      go_wp2_with fail
      go_loopw [17] (fun s wr => ∃ i : Nat, i ≤ sa.size ∧ i ≤ sb.size ∧ s = .int .i64 i ∧ Hid (GrL w B ⟨kind, by_, no, seen, at_, many, text⟩ (.slice pa sa.size pc) pz (.slice qa sb.size qc) qz wr)) (fun s _ => sa.size - (intOf s).toNat)
      case atStart => exact ⟨0, Nat.zero_le _, Nat.zero_le _, rfl, HL9.out⟩
      case round =>
        obtain ⟨i, hia, hib, rfl, HW⟩ := hrel
        clear HL9
        go_upto_region 19 with fail
        go_cut [118] (CutI (i < sa.size ∧ i < sb.size) (i = sa.size ∨ i = sb.size ∨ ¬ E i i) (fun wx => GrL w B ⟨kind, by_, no, seen, at_, many, text⟩ (.slice pa sa.size pc) pz (.slice qa sb.size qc) qz wx))
        case first =>
          by_cases h1 : i < sa.size
          · have h1i : (i : Int) < (sa.size : Int) := by omega
            by_cases h2 : i < sb.size
            · have h2i : (i : Int) < (sb.size : Int) := by omega
              obtain ⟨b1, o1, rfl, _, _, _⟩ := HW.out.p.row (by omega)
              obtain ⟨b2, o2, rfl, _, _, _⟩ := HW.out.q.row (by omega)
              by_cases h3 : (sa[i].toNat : Int) = (sb[i].toNat : Int)
              · have hip : i < pz.length := by rw [HF.out.lp]; exact h1
                have hiq : i < qz.length := by rw [HF.out.lq]; exact h2
                have HPC : Hid (∀ wk, GrL w B ⟨kind, by_, no, seen, at_, many, text⟩ (.slice (some ⟨b1, o1, none⟩) sa.size pc) pz (.slice (some ⟨b2, o2, none⟩) sb.size qc) qz wk → ∀ i (h : i < pz.length), wk.cell? ⟨b1, o1 + i, none⟩ = some (.int .i64 pz[i])) := fun wk hwk i hi => by
                  obtain ⟨b3, o3, e3, _, _, r3⟩ := hwk.p.row (by omega)
                  cases e3
                  exact r3 i hi
                have HQC : Hid (∀ wk, GrL w B ⟨kind, by_, no, seen, at_, many, text⟩ (.slice (some ⟨b1, o1, none⟩) sa.size pc) pz (.slice (some ⟨b2, o2, none⟩) sb.size qc) qz wk → ∀ i (h : i < qz.length), wk.cell? ⟨b2, o2 + i, none⟩ = some (.int .i64 qz[i])) := fun wk hwk i hi => by
                  obtain ⟨b3, o3, e3, _, _, r3⟩ := hwk.q.row (by omega)
                  cases e3
                  exact r3 i hi
                have HPL : Hid (∀ wk, GrL w B ⟨kind, by_, no, seen, at_, many, text⟩ (.slice (some ⟨b1, o1, none⟩) sa.size pc) pz (.slice (some ⟨b2, o2, none⟩) sb.size qc) qz wk → b1 < wk.heap.size) := fun wk hwk => by
                  obtain ⟨b3, o3, e3, l3, _, r3⟩ := hwk.p.row (by omega)
                  cases e3
                  exact l3
                have HQL : Hid (∀ wk, GrL w B ⟨kind, by_, no, seen, at_, many, text⟩ (.slice (some ⟨b1, o1, none⟩) sa.size pc) pz (.slice (some ⟨b2, o2, none⟩) sb.size qc) qz wk → b2 < wk.heap.size) := fun wk hwk => by
                  obtain ⟨b3, o3, e3, l3, _, r3⟩ := hwk.q.row (by omega)
                  cases e3
                  exact l3
                refine wp_region_late (fun wk => GrL w B ⟨kind, by_, no, seen, at_, many, text⟩ (.slice (some ⟨b1, o1, none⟩) sa.size pc) pz (.slice (some ⟨b2, o2, none⟩) sb.size qc) qz wk) (fun _ => false) (fun _ => false) (by kernel_rfl) (by kernel_rfl) (by kernel_rfl) (HW.out.after (Below.refl _ _).drew) ?_
                refine wpLate_big (some 89) w rfl (.int .i64 ((i : Int))) rfl (by kernel_rfl) (fun wk hwk => ?_) ?_
                · generalize hA : Act.eval _ = ρ
                  have s17 : ρ (.tmp 17) = .int .i64 ((i : Int)) := by rw [← hA]; kernel_rfl
                  clear hA
                  go_simp
                go_big_quiet_op
                refine wpLate_big (some 90) w rfl (.string sa) rfl (by kernel_rfl) (fun wk hwk => ?_) ?_
                · generalize hA : Act.eval _ = ρ
                  have s9 : ρ (.tmp 9) = .string sa := by rw [← hA]; kernel_rfl
                  clear hA
                  go_simp
                go_big_quiet_op
                refine wpLate_big (some 91) w rfl (.int .i64 ((sa.size : Int))) rfl (by kernel_rfl) (fun wk hwk => ?_) ?_
                · generalize hA : Act.eval _ = ρ
                  have s90 : ρ (.tmp 90) = .string sa := by rw [← hA]; kernel_rfl
                  clear hA
                  go_simp
                go_big_quiet_op
                refine wpLate_big (some 92) w rfl (.bool true) rfl (by kernel_rfl) (fun wk hwk => ?_) ?_
                · generalize hA : Act.eval _ = ρ
                  have s89 : ρ (.tmp 89) = .int .i64 ((i : Int)) := by rw [← hA]; kernel_rfl
                  have s91 : ρ (.tmp 91) = .int .i64 ((sa.size : Int)) := by rw [← hA]; kernel_rfl
                  clear hA
                  go_simp
                go_big_quiet_op
                refine wpLate_big (some 93) w rfl (.bool true) rfl (by kernel_rfl) (fun wk hwk => ?_) ?_
                · generalize hA : Act.eval _ = ρ
                  have s92 : ρ (.tmp 92) = .bool true := by rw [← hA]; kernel_rfl
                  clear hA
                  go_simp
                go_big_quiet_op
                refine wpLate_big (some 94) w rfl (.int .i64 ((i : Int))) rfl (by kernel_rfl) (fun wk hwk => ?_) ?_
                · generalize hA : Act.eval _ = ρ
                  have s17 : ρ (.tmp 17) = .int .i64 ((i : Int)) := by rw [← hA]; kernel_rfl
                  clear hA
                  go_simp
                go_big_quiet_op
                refine wpLate_big (some 95) w rfl (.string sb) rfl (by kernel_rfl) (fun wk hwk => ?_) ?_
                · generalize hA : Act.eval _ = ρ
                  have s11 : ρ (.tmp 11) = .string sb := by rw [← hA]; kernel_rfl
                  clear hA
                  go_simp
                go_big_quiet_op
                refine wpLate_big (some 96) w rfl (.int .i64 ((sb.size : Int))) rfl (by kernel_rfl) (fun wk hwk => ?_) ?_
                · generalize hA : Act.eval _ = ρ
                  have s95 : ρ (.tmp 95) = .string sb := by rw [← hA]; kernel_rfl
                  clear hA
                  go_simp
                go_big_quiet_op
                refine wpLate_big (some 97) w rfl (.bool true) rfl (by kernel_rfl) (fun wk hwk => ?_) ?_
                · generalize hA : Act.eval _ = ρ
                  have s94 : ρ (.tmp 94) = .int .i64 ((i : Int)) := by rw [← hA]; kernel_rfl
                  have s96 : ρ (.tmp 96) = .int .i64 ((sb.size : Int)) := by rw [← hA]; kernel_rfl
                  clear hA
                  go_simp
                go_big_quiet_op
                refine wpLate_big (some 98) w rfl (.bool true) rfl (by kernel_rfl) (fun wk hwk => ?_) ?_
                · generalize hA : Act.eval _ = ρ
                  have s93 : ρ (.tmp 93) = .bool true := by rw [← hA]; kernel_rfl
                  have s97 : ρ (.tmp 97) = .bool true := by rw [← hA]; kernel_rfl
                  have k2 : ρ (.const (.bool false)) = .bool false := by rw [← hA]; kernel_rfl
                  clear hA
                  go_simp
                go_big_quiet_op
                refine wpLate_big (some 99) w rfl (.bool true) rfl (by kernel_rfl) (fun wk hwk => ?_) ?_
                · generalize hA : Act.eval _ = ρ
                  have s98 : ρ (.tmp 98) = .bool true := by rw [← hA]; kernel_rfl
                  clear hA
                  go_simp
                go_big_quiet_op
                refine wpLate_big (some 100) w rfl (.string sa) rfl (by kernel_rfl) (fun wk hwk => ?_) ?_
                · generalize hA : Act.eval _ = ρ
                  have s9 : ρ (.tmp 9) = .string sa := by rw [← hA]; kernel_rfl
                  clear hA
                  go_simp
                go_big_quiet_op
                refine wpLate_big (some 101) w rfl (.int .i64 ((i : Int))) rfl (by kernel_rfl) (fun wk hwk => ?_) ?_
                · generalize hA : Act.eval _ = ρ
                  have s17 : ρ (.tmp 17) = .int .i64 ((i : Int)) := by rw [← hA]; kernel_rfl
                  clear hA
                  go_simp
                go_big_quiet_op
                refine wpLate_big (some 102) w rfl (.int .u8 (sa[i].toNat : Int)) rfl (by kernel_rfl) (fun wk hwk => ?_) ?_
                · generalize hA : Act.eval _ = ρ
                  have s100 : ρ (.tmp 100) = .string sa := by rw [← hA]; kernel_rfl
                  have s101 : ρ (.tmp 101) = .int .i64 ((i : Int)) := by rw [← hA]; kernel_rfl
                  clear hA
                  go_simp
                go_big_quiet_op
                refine wpLate_big (some 103) w rfl (.string sb) rfl (by kernel_rfl) (fun wk hwk => ?_) ?_
                · generalize hA : Act.eval _ = ρ
                  have s11 : ρ (.tmp 11) = .string sb := by rw [← hA]; kernel_rfl
                  clear hA
                  go_simp
                go_big_quiet_op
                refine wpLate_big (some 104) w rfl (.int .i64 ((i : Int))) rfl (by kernel_rfl) (fun wk hwk => ?_) ?_
                · generalize hA : Act.eval _ = ρ
                  have s17 : ρ (.tmp 17) = .int .i64 ((i : Int)) := by rw [← hA]; kernel_rfl
                  clear hA
                  go_simp
                go_big_quiet_op
                refine wpLate_big (some 105) w rfl (.int .u8 (sb[i].toNat : Int)) rfl (by kernel_rfl) (fun wk hwk => ?_) ?_
                · generalize hA : Act.eval _ = ρ
                  have s103 : ρ (.tmp 103) = .string sb := by rw [← hA]; kernel_rfl
                  have s104 : ρ (.tmp 104) = .int .i64 ((i : Int)) := by rw [← hA]; kernel_rfl
                  clear hA
                  go_simp
                go_big_quiet_op
                refine wpLate_big (some 106) w rfl (.bool true) rfl (by kernel_rfl) (fun wk hwk => ?_) ?_
                · generalize hA : Act.eval _ = ρ
                  have s102 : ρ (.tmp 102) = .int .u8 (sa[i].toNat : Int) := by rw [← hA]; kernel_rfl
                  have s105 : ρ (.tmp 105) = .int .u8 (sb[i].toNat : Int) := by rw [← hA]; kernel_rfl
                  clear hA
                  go_simp
                go_big_quiet_op
                refine wpLate_big (some 107) w rfl (.bool true) rfl (by kernel_rfl) (fun wk hwk => ?_) ?_
                · generalize hA : Act.eval _ = ρ
                  have s99 : ρ (.tmp 99) = .bool true := by rw [← hA]; kernel_rfl
                  have s106 : ρ (.tmp 106) = .bool true := by rw [← hA]; kernel_rfl
                  have k2 : ρ (.const (.bool false)) = .bool false := by rw [← hA]; kernel_rfl
                  clear hA
                  go_simp
                go_big_quiet_op
                refine wpLate_big (some 108) w rfl (.bool true) rfl (by kernel_rfl) (fun wk hwk => ?_) ?_
                · generalize hA : Act.eval _ = ρ
                  have s107 : ρ (.tmp 107) = .bool true := by rw [← hA]; kernel_rfl
                  clear hA
                  go_simp
                go_big_quiet_op
                refine wpLate_big (some 109) w rfl (.slice (some ⟨b1, o1, none⟩) sa.size pc) rfl (by kernel_rfl) (fun wk hwk => ?_) ?_
                · generalize hA : Act.eval _ = ρ
                  have s13 : ρ (.tmp 13) = .slice (some ⟨b1, o1, none⟩) sa.size pc := by rw [← hA]; kernel_rfl
                  clear hA
                  go_simp
                go_big_quiet_op
                refine wpLate_big (some 110) w rfl (.int .i64 ((i : Int))) rfl (by kernel_rfl) (fun wk hwk => ?_) ?_
                · generalize hA : Act.eval _ = ρ
                  have s17 : ρ (.tmp 17) = .int .i64 ((i : Int)) := by rw [← hA]; kernel_rfl
                  clear hA
                  go_simp
                go_big_quiet_op
                refine wpLate_big (some 111) w rfl (.pointer (some ⟨b1, o1 + i, none⟩)) rfl (by kernel_rfl) (fun wk hwk => ?_) ?_
                · generalize hA : Act.eval _ = ρ
                  have s109 : ρ (.tmp 109) = .slice (some ⟨b1, o1, none⟩) sa.size pc := by rw [← hA]; kernel_rfl
                  have s110 : ρ (.tmp 110) = .int .i64 ((i : Int)) := by rw [← hA]; kernel_rfl
                  clear hA
                  go_simp
                go_big_quiet_op
                refine wpLate_big (some 112) w rfl (.int .i64 (pz[i])) rfl (by kernel_rfl) (fun wk hwk => ?_) ?_
                · generalize hA : Act.eval _ = ρ
                  have s111 : ρ (.tmp 111) = .pointer (some ⟨b1, o1 + i, none⟩) := by rw [← hA]; kernel_rfl
                  clear hA
                  have c1 := HPC.out wk hwk i hip
                  have hb1 := HPL.out wk hwk
                  go_simp
                go_big_quiet_op
                refine wpLate_big (some 113) w rfl (.slice (some ⟨b2, o2, none⟩) sb.size qc) rfl (by kernel_rfl) (fun wk hwk => ?_) ?_
                · generalize hA : Act.eval _ = ρ
                  have s15 : ρ (.tmp 15) = .slice (some ⟨b2, o2, none⟩) sb.size qc := by rw [← hA]; kernel_rfl
                  clear hA
                  go_simp
                go_big_quiet_op
                refine wpLate_big (some 114) w rfl (.int .i64 ((i : Int))) rfl (by kernel_rfl) (fun wk hwk => ?_) ?_
                · generalize hA : Act.eval _ = ρ
                  have s17 : ρ (.tmp 17) = .int .i64 ((i : Int)) := by rw [← hA]; kernel_rfl
                  clear hA
                  go_simp
                go_big_quiet_op
                refine wpLate_big (some 115) w rfl (.pointer (some ⟨b2, o2 + i, none⟩)) rfl (by kernel_rfl) (fun wk hwk => ?_) ?_
                · generalize hA : Act.eval _ = ρ
                  have s113 : ρ (.tmp 113) = .slice (some ⟨b2, o2, none⟩) sb.size qc := by rw [← hA]; kernel_rfl
                  have s114 : ρ (.tmp 114) = .int .i64 ((i : Int)) := by rw [← hA]; kernel_rfl
                  clear hA
                  go_simp
                go_big_quiet_op
                refine wpLate_big (some 116) w rfl (.int .i64 (qz[i])) rfl (by kernel_rfl) (fun wk hwk => ?_) ?_
                · generalize hA : Act.eval _ = ρ
                  have s115 : ρ (.tmp 115) = .pointer (some ⟨b2, o2 + i, none⟩) := by rw [← hA]; kernel_rfl
                  clear hA
                  have c1 := HQC.out wk hwk i hiq
                  have hb1 := HQL.out wk hwk
                  go_simp
                go_big_quiet_op
                refine wpLate_big (some 117) w rfl (.bool (pz[i] == qz[i])) rfl (by kernel_rfl) (fun wk hwk => ?_) ?_
                · generalize hA : Act.eval _ = ρ
                  have s112 : ρ (.tmp 112) = .int .i64 (pz[i]) := by rw [← hA]; kernel_rfl
                  have s116 : ρ (.tmp 116) = .int .i64 (qz[i]) := by rw [← hA]; kernel_rfl
                  clear hA
                  go_simp
                go_big_quiet_op
                refine wpLate_big (some 118) w rfl (.bool (pz[i] == qz[i])) rfl (by kernel_rfl) (fun wk hwk => ?_) ?_
                · generalize hA : Act.eval _ = ρ
                  have s108 : ρ (.tmp 108) = .bool true := by rw [← hA]; kernel_rfl
                  have s117 : ρ (.tmp 117) = .bool (pz[i] == qz[i]) := by rw [← hA]; kernel_rfl
                  have k2 : ρ (.const (.bool false)) = .bool false := by rw [← hA]; kernel_rfl
                  clear hA
                  go_simp
                go_big_quiet_op
                refine wpLate_nil (fun w9 hw9 => ?_)
                have H9 : Hid (GrL w B ⟨kind, by_, no, seen, at_, many, text⟩ (.slice (some ⟨b1, o1, none⟩) sa.size pc) pz (.slice (some ⟨b2, o2, none⟩) sb.size qc) qz w9) := hw9
                clear hw9
                go_wp2_with fail
                go_meet
                exact cut_is ⟨h1, h2⟩ (fun hne => .inr (.inr (fun e => hne (HF.out.by_ i i hip hiq e)))) H9.out
              · have h3b : ((sa[i].toNat : Int) == (sb[i].toNat : Int)) = false := by simpa using h3
                have HNE : Hid (¬ E i i) := fun e => h3 (by rw [HF.out.byte i i h1 h2 e])
                clear h3
                refine wp_region_late (fun wk => GrL w B ⟨kind, by_, no, seen, at_, many, text⟩ (.slice (some ⟨b1, o1, none⟩) sa.size pc) pz (.slice (some ⟨b2, o2, none⟩) sb.size qc) qz wk) (fun _ => false) (fun _ => false) (by kernel_rfl) (by kernel_rfl) (by kernel_rfl) (HW.out.after (Below.refl _ _).drew) ?_
                refine wpLate_big (some 89) w rfl (.int .i64 ((i : Int))) rfl (by kernel_rfl) (fun wk hwk => ?_) ?_
                · generalize hA : Act.eval _ = ρ
                  have s17 : ρ (.tmp 17) = .int .i64 ((i : Int)) := by rw [← hA]; kernel_rfl
                  clear hA
                  go_simp
                go_big_quiet_op
                refine wpLate_big (some 90) w rfl (.string sa) rfl (by kernel_rfl) (fun wk hwk => ?_) ?_
                · generalize hA : Act.eval _ = ρ
                  have s9 : ρ (.tmp 9) = .string sa := by rw [← hA]; kernel_rfl
                  clear hA
                  go_simp
                go_big_quiet_op
                refine wpLate_big (some 91) w rfl (.int .i64 ((sa.size : Int))) rfl (by kernel_rfl) (fun wk hwk => ?_) ?_
                · generalize hA : Act.eval _ = ρ
                  have s90 : ρ (.tmp 90) = .string sa := by rw [← hA]; kernel_rfl
                  clear hA
                  go_simp
                go_big_quiet_op
                refine wpLate_big (some 92) w rfl (.bool true) rfl (by kernel_rfl) (fun wk hwk => ?_) ?_
                · generalize hA : Act.eval _ = ρ
                  have s89 : ρ (.tmp 89) = .int .i64 ((i : Int)) := by rw [← hA]; kernel_rfl
                  have s91 : ρ (.tmp 91) = .int .i64 ((sa.size : Int)) := by rw [← hA]; kernel_rfl
                  clear hA
                  go_simp
                go_big_quiet_op
                refine wpLate_big (some 93) w rfl (.bool true) rfl (by kernel_rfl) (fun wk hwk => ?_) ?_
                · generalize hA : Act.eval _ = ρ
                  have s92 : ρ (.tmp 92) = .bool true := by rw [← hA]; kernel_rfl
                  clear hA
                  go_simp
                go_big_quiet_op
                refine wpLate_big (some 94) w rfl (.int .i64 ((i : Int))) rfl (by kernel_rfl) (fun wk hwk => ?_) ?_
                · generalize hA : Act.eval _ = ρ
                  have s17 : ρ (.tmp 17) = .int .i64 ((i : Int)) := by rw [← hA]; kernel_rfl
                  clear hA
                  go_simp
                go_big_quiet_op
                refine wpLate_big (some 95) w rfl (.string sb) rfl (by kernel_rfl) (fun wk hwk => ?_) ?_
                · generalize hA : Act.eval _ = ρ
                  have s11 : ρ (.tmp 11) = .string sb := by rw [← hA]; kernel_rfl
                  clear hA
                  go_simp
                go_big_quiet_op
                refine wpLate_big (some 96) w rfl (.int .i64 ((sb.size : Int))) rfl (by kernel_rfl) (fun wk hwk => ?_) ?_
                · generalize hA : Act.eval _ = ρ
                  have s95 : ρ (.tmp 95) = .string sb := by rw [← hA]; kernel_rfl
                  clear hA
                  go_simp
                go_big_quiet_op
                refine wpLate_big (some 97) w rfl (.bool true) rfl (by kernel_rfl) (fun wk hwk => ?_) ?_
                · generalize hA : Act.eval _ = ρ
                  have s94 : ρ (.tmp 94) = .int .i64 ((i : Int)) := by rw [← hA]; kernel_rfl
                  have s96 : ρ (.tmp 96) = .int .i64 ((sb.size : Int)) := by rw [← hA]; kernel_rfl
                  clear hA
                  go_simp
                go_big_quiet_op
                refine wpLate_big (some 98) w rfl (.bool true) rfl (by kernel_rfl) (fun wk hwk => ?_) ?_
                · generalize hA : Act.eval _ = ρ
                  have s93 : ρ (.tmp 93) = .bool true := by rw [← hA]; kernel_rfl
                  have s97 : ρ (.tmp 97) = .bool true := by rw [← hA]; kernel_rfl
                  have k2 : ρ (.const (.bool false)) = .bool false := by rw [← hA]; kernel_rfl
                  clear hA
                  go_simp
                go_big_quiet_op
                refine wpLate_big (some 99) w rfl (.bool true) rfl (by kernel_rfl) (fun wk hwk => ?_) ?_
                · generalize hA : Act.eval _ = ρ
                  have s98 : ρ (.tmp 98) = .bool true := by rw [← hA]; kernel_rfl
                  clear hA
                  go_simp
                go_big_quiet_op
                refine wpLate_big (some 100) w rfl (.string sa) rfl (by kernel_rfl) (fun wk hwk => ?_) ?_
                · generalize hA : Act.eval _ = ρ
                  have s9 : ρ (.tmp 9) = .string sa := by rw [← hA]; kernel_rfl
                  clear hA
                  go_simp
                go_big_quiet_op
                refine wpLate_big (some 101) w rfl (.int .i64 ((i : Int))) rfl (by kernel_rfl) (fun wk hwk => ?_) ?_
                · generalize hA : Act.eval _ = ρ
                  have s17 : ρ (.tmp 17) = .int .i64 ((i : Int)) := by rw [← hA]; kernel_rfl
                  clear hA
                  go_simp
                go_big_quiet_op
                refine wpLate_big (some 102) w rfl (.int .u8 (sa[i].toNat : Int)) rfl (by kernel_rfl) (fun wk hwk => ?_) ?_
                · generalize hA : Act.eval _ = ρ
                  have s100 : ρ (.tmp 100) = .string sa := by rw [← hA]; kernel_rfl
                  have s101 : ρ (.tmp 101) = .int .i64 ((i : Int)) := by rw [← hA]; kernel_rfl
                  clear hA
                  go_simp
                go_big_quiet_op
                refine wpLate_big (some 103) w rfl (.string sb) rfl (by kernel_rfl) (fun wk hwk => ?_) ?_
                · generalize hA : Act.eval _ = ρ
                  have s11 : ρ (.tmp 11) = .string sb := by rw [← hA]; kernel_rfl
                  clear hA
                  go_simp
                go_big_quiet_op
                refine wpLate_big (some 104) w rfl (.int .i64 ((i : Int))) rfl (by kernel_rfl) (fun wk hwk => ?_) ?_
                · generalize hA : Act.eval _ = ρ
                  have s17 : ρ (.tmp 17) = .int .i64 ((i : Int)) := by rw [← hA]; kernel_rfl
                  clear hA
                  go_simp
                go_big_quiet_op
                refine wpLate_big (some 105) w rfl (.int .u8 (sb[i].toNat : Int)) rfl (by kernel_rfl) (fun wk hwk => ?_) ?_
                · generalize hA : Act.eval _ = ρ
                  have s103 : ρ (.tmp 103) = .string sb := by rw [← hA]; kernel_rfl
                  have s104 : ρ (.tmp 104) = .int .i64 ((i : Int)) := by rw [← hA]; kernel_rfl
                  clear hA
                  go_simp
                go_big_quiet_op
                refine wpLate_big (some 106) w rfl (.bool false) rfl (by kernel_rfl) (fun wk hwk => ?_) ?_
                · generalize hA : Act.eval _ = ρ
                  have s102 : ρ (.tmp 102) = .int .u8 (sa[i].toNat : Int) := by rw [← hA]; kernel_rfl
                  have s105 : ρ (.tmp 105) = .int .u8 (sb[i].toNat : Int) := by rw [← hA]; kernel_rfl
                  clear hA
                  go_simp
                go_big_quiet_op
                refine wpLate_big (some 107) w rfl (.bool false) rfl (by kernel_rfl) (fun wk hwk => ?_) ?_
                · generalize hA : Act.eval _ = ρ
                  have s99 : ρ (.tmp 99) = .bool true := by rw [← hA]; kernel_rfl
                  have s106 : ρ (.tmp 106) = .bool false := by rw [← hA]; kernel_rfl
                  have k2 : ρ (.const (.bool false)) = .bool false := by rw [← hA]; kernel_rfl
                  clear hA
                  go_simp
                go_big_quiet_op
                refine wpLate_bigPasses (some 108) [some 109, some 110, some 111, some 112, some 113, some 114, some 115, some 116, some 117] 9 w rfl (.bool false) rfl (by kernel_rfl) (fun wk hwk => ?_) (by decide) rfl (by kernel_rfl) (fun K hK K1 hK1 => ?_)
                · generalize hA : Act.eval _ = ρ
                  have s107 : ρ (.tmp 107) = .bool false := by rw [← hA]; kernel_rfl
                  clear hA
                  go_simp
                go_big_quiet_op
                refine hK1 _ ?_
                clear hK1 K1
                intro K1 hK1
                go_big_quiet_op
                refine hK1 _ ?_
                clear hK1 K1
                intro K1 hK1
                go_big_quiet_op
                refine hK1 _ ?_
                clear hK1 K1
                intro K1 hK1
                go_big_quiet_op
                refine hK1 _ ?_
                clear hK1 K1
                intro K1 hK1
                go_big_quiet_op
                refine hK1 _ ?_
                clear hK1 K1
                intro K1 hK1
                go_big_quiet_op
                refine hK1 _ ?_
                clear hK1 K1
                intro K1 hK1
                go_big_quiet_op
                refine hK1 _ ?_
                clear hK1 K1
                intro K1 hK1
                go_big_quiet_op
                refine hK1 _ ?_
                clear hK1 K1
                intro K1 hK1
                go_big_quiet_op
                refine hK1 _ ?_
                clear hK1 K1
                intro K1 hK1
                go_big_quiet_op
                refine hK1 _ ?_
                clear hK1 K1
                refine hK _ ?_
                clear hK K
                refine wpLate_big (some 118) w rfl (.bool false) rfl (by kernel_rfl) (fun wk hwk => ?_) ?_
                · generalize hA : Act.eval _ = ρ
                  have s108 : ρ (.tmp 108) = .bool false := by rw [← hA]; kernel_rfl
                  have k1 : ρ (.const (.bool false)) = .bool false := by rw [← hA]; kernel_rfl
                  clear hA
                  go_simp
                go_big_quiet_op
                refine wpLate_nil (fun w9 hw9 => ?_)
                have H9 : Hid (GrL w B ⟨kind, by_, no, seen, at_, many, text⟩ (.slice (some ⟨b1, o1, none⟩) sa.size pc) pz (.slice (some ⟨b2, o2, none⟩) sb.size qc) qz w9) := hw9
                clear hw9
                go_wp2_with fail
                go_meet
                exact cut_no (.inr (.inr HNE.out)) H9.out
            · have h2b : decide ((i : Int) < (sb.size : Int)) = false := decide_eq_false (by omega)
              have h2n : sb.size ≤ i := by omega
              clear h2
              refine wp_region_late (fun wk => GrL w B ⟨kind, by_, no, seen, at_, many, text⟩ (.slice pa sa.size pc) pz (.slice qa sb.size qc) qz wk) (fun _ => false) (fun _ => false) (by kernel_rfl) (by kernel_rfl) (by kernel_rfl) (HW.out.after (Below.refl _ _).drew) ?_
              refine wpLate_big (some 89) w rfl (.int .i64 ((i : Int))) rfl (by kernel_rfl) (fun wk hwk => ?_) ?_
              · generalize hA : Act.eval _ = ρ
                have s17 : ρ (.tmp 17) = .int .i64 ((i : Int)) := by rw [← hA]; kernel_rfl
                clear hA
                go_simp
              go_big_quiet_op
              refine wpLate_big (some 90) w rfl (.string sa) rfl (by kernel_rfl) (fun wk hwk => ?_) ?_
              · generalize hA : Act.eval _ = ρ
                have s9 : ρ (.tmp 9) = .string sa := by rw [← hA]; kernel_rfl
                clear hA
                go_simp
              go_big_quiet_op
              refine wpLate_big (some 91) w rfl (.int .i64 ((sa.size : Int))) rfl (by kernel_rfl) (fun wk hwk => ?_) ?_
              · generalize hA : Act.eval _ = ρ
                have s90 : ρ (.tmp 90) = .string sa := by rw [← hA]; kernel_rfl
                clear hA
                go_simp
              go_big_quiet_op
              refine wpLate_big (some 92) w rfl (.bool true) rfl (by kernel_rfl) (fun wk hwk => ?_) ?_
              · generalize hA : Act.eval _ = ρ
                have s89 : ρ (.tmp 89) = .int .i64 ((i : Int)) := by rw [← hA]; kernel_rfl
                have s91 : ρ (.tmp 91) = .int .i64 ((sa.size : Int)) := by rw [← hA]; kernel_rfl
                clear hA
                go_simp
              go_big_quiet_op
              refine wpLate_big (some 93) w rfl (.bool true) rfl (by kernel_rfl) (fun wk hwk => ?_) ?_
              · generalize hA : Act.eval _ = ρ
                have s92 : ρ (.tmp 92) = .bool true := by rw [← hA]; kernel_rfl
                clear hA
                go_simp
              go_big_quiet_op
              refine wpLate_big (some 94) w rfl (.int .i64 ((i : Int))) rfl (by kernel_rfl) (fun wk hwk => ?_) ?_
              · generalize hA : Act.eval _ = ρ
                have s17 : ρ (.tmp 17) = .int .i64 ((i : Int)) := by rw [← hA]; kernel_rfl
                clear hA
                go_simp
              go_big_quiet_op
              refine wpLate_big (some 95) w rfl (.string sb) rfl (by kernel_rfl) (fun wk hwk => ?_) ?_
              · generalize hA : Act.eval _ = ρ
                have s11 : ρ (.tmp 11) = .string sb := by rw [← hA]; kernel_rfl
                clear hA
                go_simp
              go_big_quiet_op
              refine wpLate_big (some 96) w rfl (.int .i64 ((sb.size : Int))) rfl (by kernel_rfl) (fun wk hwk => ?_) ?_
              · generalize hA : Act.eval _ = ρ
                have s95 : ρ (.tmp 95) = .string sb := by rw [← hA]; kernel_rfl
                clear hA
                go_simp
              go_big_quiet_op
              refine wpLate_big (some 97) w rfl (.bool false) rfl (by kernel_rfl) (fun wk hwk => ?_) ?_
              · generalize hA : Act.eval _ = ρ
                have s94 : ρ (.tmp 94) = .int .i64 ((i : Int)) := by rw [← hA]; kernel_rfl
                have s96 : ρ (.tmp 96) = .int .i64 ((sb.size : Int)) := by rw [← hA]; kernel_rfl
                clear hA
                go_simp
              go_big_quiet_op
              refine wpLate_big (some 98) w rfl (.bool false) rfl (by kernel_rfl) (fun wk hwk => ?_) ?_
              · generalize hA : Act.eval _ = ρ
                have s93 : ρ (.tmp 93) = .bool true := by rw [← hA]; kernel_rfl
                have s97 : ρ (.tmp 97) = .bool false := by rw [← hA]; kernel_rfl
                have k2 : ρ (.const (.bool false)) = .bool false := by rw [← hA]; kernel_rfl
                clear hA
                go_simp
              go_big_quiet_op
              refine wpLate_bigPasses (some 99) [some 100, some 101, some 102, some 103, some 104, some 105, some 106] 7 w rfl (.bool false) rfl (by kernel_rfl) (fun wk hwk => ?_) (by decide) rfl (by kernel_rfl) (fun K hK K1 hK1 => ?_)
              · generalize hA : Act.eval _ = ρ
                have s98 : ρ (.tmp 98) = .bool false := by rw [← hA]; kernel_rfl
                clear hA
                go_simp
              go_big_quiet_op
              refine hK1 _ ?_
              clear hK1 K1
              intro K1 hK1
              go_big_quiet_op
              refine hK1 _ ?_
              clear hK1 K1
              intro K1 hK1
              go_big_quiet_op
              refine hK1 _ ?_
              clear hK1 K1
              intro K1 hK1
              go_big_quiet_op
              refine hK1 _ ?_
              clear hK1 K1
              intro K1 hK1
              go_big_quiet_op
              refine hK1 _ ?_
              clear hK1 K1
              intro K1 hK1
              go_big_quiet_op
              refine hK1 _ ?_
              clear hK1 K1
              intro K1 hK1
              go_big_quiet_op
              refine hK1 _ ?_
              clear hK1 K1
              intro K1 hK1
              go_big_quiet_op
              refine hK1 _ ?_
              clear hK1 K1
              refine hK _ ?_
              clear hK K
              refine wpLate_big (some 107) w rfl (.bool false) rfl (by kernel_rfl) (fun wk hwk => ?_) ?_
              · generalize hA : Act.eval _ = ρ
                have s99 : ρ (.tmp 99) = .bool false := by rw [← hA]; kernel_rfl
                have k1 : ρ (.const (.bool false)) = .bool false := by rw [← hA]; kernel_rfl
                clear hA
                go_simp
              go_big_quiet_op
              refine wpLate_bigPasses (some 108) [some 109, some 110, some 111, some 112, some 113, some 114, some 115, some 116, some 117] 9 w rfl (.bool false) rfl (by kernel_rfl) (fun wk hwk => ?_) (by decide) rfl (by kernel_rfl) (fun K hK K1 hK1 => ?_)
              · generalize hA : Act.eval _ = ρ
                have s107 : ρ (.tmp 107) = .bool false := by rw [← hA]; kernel_rfl
                clear hA
                go_simp
              go_big_quiet_op
              refine hK1 _ ?_
              clear hK1 K1
              intro K1 hK1
              go_big_quiet_op
              refine hK1 _ ?_
              clear hK1 K1
              intro K1 hK1
              go_big_quiet_op
              refine hK1 _ ?_
              clear hK1 K1
              intro K1 hK1
              go_big_quiet_op
              refine hK1 _ ?_
              clear hK1 K1
              intro K1 hK1
              go_big_quiet_op
              refine hK1 _ ?_
              clear hK1 K1
              intro K1 hK1
              go_big_quiet_op
              refine hK1 _ ?_
              clear hK1 K1
              intro K1 hK1
              go_big_quiet_op
              refine hK1 _ ?_
              clear hK1 K1
              intro K1 hK1
              go_big_quiet_op
              refine hK1 _ ?_
              clear hK1 K1
              intro K1 hK1
              go_big_quiet_op
              refine hK1 _ ?_
              clear hK1 K1
              intro K1 hK1
              go_big_quiet_op
              refine hK1 _ ?_
              clear hK1 K1
              refine hK _ ?_
              clear hK K
              refine wpLate_big (some 118) w rfl (.bool false) rfl (by kernel_rfl) (fun wk hwk => ?_) ?_
              · generalize hA : Act.eval _ = ρ
                have s108 : ρ (.tmp 108) = .bool false := by rw [← hA]; kernel_rfl
                have k1 : ρ (.const (.bool false)) = .bool false := by rw [← hA]; kernel_rfl
                clear hA
                go_simp
              go_big_quiet_op
              refine wpLate_nil (fun w9 hw9 => ?_)
              have H9 : Hid (GrL w B ⟨kind, by_, no, seen, at_, many, text⟩ (.slice pa sa.size pc) pz (.slice qa sb.size qc) qz w9) := hw9
              clear hw9
              go_wp2_with fail
              go_meet
              exact cut_no (.inr (.inl (by omega))) H9.out
          · have h1b : decide ((i : Int) < (sa.size : Int)) = false := decide_eq_false (by omega)
            have h1n : sa.size ≤ i := by omega
            clear h1
            refine wp_region_late (fun wk => GrL w B ⟨kind, by_, no, seen, at_, many, text⟩ (.slice pa sa.size pc) pz (.slice qa sb.size qc) qz wk) (fun _ => false) (fun _ => false) (by kernel_rfl) (by kernel_rfl) (by kernel_rfl) (HW.out.after (Below.refl _ _).drew) ?_
            refine wpLate_big (some 89) w rfl (.int .i64 ((i : Int))) rfl (by kernel_rfl) (fun wk hwk => ?_) ?_
            · generalize hA : Act.eval _ = ρ
              have s17 : ρ (.tmp 17) = .int .i64 ((i : Int)) := by rw [← hA]; kernel_rfl
              clear hA
              go_simp
            go_big_quiet_op
            refine wpLate_big (some 90) w rfl (.string sa) rfl (by kernel_rfl) (fun wk hwk => ?_) ?_
            · generalize hA : Act.eval _ = ρ
              have s9 : ρ (.tmp 9) = .string sa := by rw [← hA]; kernel_rfl
              clear hA
              go_simp
            go_big_quiet_op
            refine wpLate_big (some 91) w rfl (.int .i64 ((sa.size : Int))) rfl (by kernel_rfl) (fun wk hwk => ?_) ?_
            · generalize hA : Act.eval _ = ρ
              have s90 : ρ (.tmp 90) = .string sa := by rw [← hA]; kernel_rfl
              clear hA
              go_simp
            go_big_quiet_op
            refine wpLate_big (some 92) w rfl (.bool false) rfl (by kernel_rfl) (fun wk hwk => ?_) ?_
            · generalize hA : Act.eval _ = ρ
              have s89 : ρ (.tmp 89) = .int .i64 ((i : Int)) := by rw [← hA]; kernel_rfl
              have s91 : ρ (.tmp 91) = .int .i64 ((sa.size : Int)) := by rw [← hA]; kernel_rfl
              clear hA
              go_simp
            go_big_quiet_op
            refine wpLate_bigPasses (some 93) [some 94, some 95, some 96, some 97] 4 w rfl (.bool false) rfl (by kernel_rfl) (fun wk hwk => ?_) (by decide) rfl (by kernel_rfl) (fun K hK K1 hK1 => ?_)
            · generalize hA : Act.eval _ = ρ
              have s92 : ρ (.tmp 92) = .bool false := by rw [← hA]; kernel_rfl
              clear hA
              go_simp
            go_big_quiet_op
            refine hK1 _ ?_
            clear hK1 K1
            intro K1 hK1
            go_big_quiet_op
            refine hK1 _ ?_
            clear hK1 K1
            intro K1 hK1
            go_big_quiet_op
            refine hK1 _ ?_
            clear hK1 K1
            intro K1 hK1
            go_big_quiet_op
            refine hK1 _ ?_
            clear hK1 K1
            intro K1 hK1
            go_big_quiet_op
            refine hK1 _ ?_
            clear hK1 K1
            refine hK _ ?_
            clear hK K
            refine wpLate_big (some 98) w rfl (.bool false) rfl (by kernel_rfl) (fun wk hwk => ?_) ?_
            · generalize hA : Act.eval _ = ρ
              have s93 : ρ (.tmp 93) = .bool false := by rw [← hA]; kernel_rfl
              have k1 : ρ (.const (.bool false)) = .bool false := by rw [← hA]; kernel_rfl
              clear hA
              go_simp
            go_big_quiet_op
            refine wpLate_bigPasses (some 99) [some 100, some 101, some 102, some 103, some 104, some 105, some 106] 7 w rfl (.bool false) rfl (by kernel_rfl) (fun wk hwk => ?_) (by decide) rfl (by kernel_rfl) (fun K hK K1 hK1 => ?_)
            · generalize hA : Act.eval _ = ρ
              have s98 : ρ (.tmp 98) = .bool false := by rw [← hA]; kernel_rfl
              clear hA
              go_simp
            go_big_quiet_op
            refine hK1 _ ?_
            clear hK1 K1
            intro K1 hK1
            go_big_quiet_op
            refine hK1 _ ?_
            clear hK1 K1
            intro K1 hK1
            go_big_quiet_op
            refine hK1 _ ?_
            clear hK1 K1
            intro K1 hK1
            go_big_quiet_op
            refine hK1 _ ?_
            clear hK1 K1
            intro K1 hK1
            go_big_quiet_op
            refine hK1 _ ?_
            clear hK1 K1
            intro K1 hK1
            go_big_quiet_op
            refine hK1 _ ?_
            clear hK1 K1
            intro K1 hK1
            go_big_quiet_op
            refine hK1 _ ?_
            clear hK1 K1
            intro K1 hK1
            go_big_quiet_op
            refine hK1 _ ?_
            clear hK1 K1
            refine hK _ ?_
            clear hK K
            refine wpLate_big (some 107) w rfl (.bool false) rfl (by kernel_rfl) (fun wk hwk => ?_) ?_
            · generalize hA : Act.eval _ = ρ
              have s99 : ρ (.tmp 99) = .bool false := by rw [← hA]; kernel_rfl
              have k1 : ρ (.const (.bool false)) = .bool false := by rw [← hA]; kernel_rfl
              clear hA
              go_simp
            go_big_quiet_op
            refine wpLate_bigPasses (some 108) [some 109, some 110, some 111, some 112, some 113, some 114, some 115, some 116, some 117] 9 w rfl (.bool false) rfl (by kernel_rfl) (fun wk hwk => ?_) (by decide) rfl (by kernel_rfl) (fun K hK K1 hK1 => ?_)
            · generalize hA : Act.eval _ = ρ
              have s107 : ρ (.tmp 107) = .bool false := by rw [← hA]; kernel_rfl
              clear hA
              go_simp
            go_big_quiet_op
            refine hK1 _ ?_
            clear hK1 K1
            intro K1 hK1
            go_big_quiet_op
            refine hK1 _ ?_
            clear hK1 K1
            intro K1 hK1
            go_big_quiet_op
            refine hK1 _ ?_
            clear hK1 K1
            intro K1 hK1
            go_big_quiet_op
            refine hK1 _ ?_
            clear hK1 K1
            intro K1 hK1
            go_big_quiet_op
            refine hK1 _ ?_
            clear hK1 K1
            intro K1 hK1
            go_big_quiet_op
            refine hK1 _ ?_
            clear hK1 K1
            intro K1 hK1
            go_big_quiet_op
            refine hK1 _ ?_
            clear hK1 K1
            intro K1 hK1
            go_big_quiet_op
            refine hK1 _ ?_
            clear hK1 K1
            intro K1 hK1
            go_big_quiet_op
            refine hK1 _ ?_
            clear hK1 K1
            intro K1 hK1
            go_big_quiet_op
            refine hK1 _ ?_
            clear hK1 K1
            refine hK _ ?_
            clear hK K
            refine wpLate_big (some 118) w rfl (.bool false) rfl (by kernel_rfl) (fun wk hwk => ?_) ?_
            · generalize hA : Act.eval _ = ρ
              have s108 : ρ (.tmp 108) = .bool false := by rw [← hA]; kernel_rfl
              have k1 : ρ (.const (.bool false)) = .bool false := by rw [← hA]; kernel_rfl
              clear hA
              go_simp
            go_big_quiet_op
            refine wpLate_nil (fun w9 hw9 => ?_)
            have H9 : Hid (GrL w B ⟨kind, by_, no, seen, at_, many, text⟩ (.slice pa sa.size pc) pz (.slice qa sb.size qc) qz w9) := hw9
            clear hw9
            go_wp2_with fail
            go_meet
            exact cut_no (.inl (by omega)) H9.out
        case rest =>
          obtain ⟨g, rfl, hg1, hg2, hW⟩ := hcut
          have HW2 : Hid (GrL w B ⟨kind, by_, no, seen, at_, many, text⟩ (.slice pa sa.size pc) pz (.slice qa sb.size qc) qz wc) := hW
          clear hW HW
          cases g
          · have HST : Hid (i = sa.size ∨ i = sb.size ∨ ¬ E i i) := hg2 rfl
            clear hg1 hg2
            go_wp2_with fail
            go_loopw [18] (fun s wr => ∃ j : Nat, j ≤ sa.size - i ∧ j ≤ sb.size - i ∧ s = .int .i64 j ∧ Hid (GrL w B ⟨kind, by_, no, seen, at_, many, text⟩ (.slice pa sa.size pc) pz (.slice qa sb.size qc) qz wr)) (fun s _ => sa.size - (intOf s).toNat)
            case atStart => exact ⟨0, Nat.zero_le _, Nat.zero_le _, rfl, HW2.out⟩
            case round =>
              obtain ⟨j, hja, hjb, rfl, HW⟩ := hrel
              clear HW2
              go_upto_region 22 with fail
              go_cut [170] (CutI (j < sa.size - i ∧ j < sb.size - i) (j = sa.size - i ∨ j = sb.size - i ∨ ¬ E (sa.size - 1 - j) (sb.size - 1 - j)) (fun wx => GrL w B ⟨kind, by_, no, seen, at_, many, text⟩ (.slice pa sa.size pc) pz (.slice qa sb.size qc) qz wx))
              case first =>
                obtain ⟨ra, hra⟩ : ∃ ra : Nat, sa.size - i = ra := ⟨_, rfl⟩
                have HRA : Hid ((sa.size : Int) - (i : Int) = (ra : Int)) := by show _ = _; omega
                obtain ⟨rb, hrb⟩ : ∃ rb : Nat, sb.size - i = rb := ⟨_, rfl⟩
                have HRB : Hid ((sb.size : Int) - (i : Int) = (rb : Int)) := by show _ = _; omega
                have HRAN : Hid (sa.size - i = ra) := hra
                have HRBN : Hid (sb.size - i = rb) := hrb
                by_cases h1 : j < ra
                · have h1i : (j : Int) < (ra : Int) := by omega
                  by_cases h2 : j < rb
                  · have h2i : (j : Int) < (rb : Int) := by omega
                    obtain ⟨b1, o1, rfl, _, _, _⟩ := HW.out.p.row (by omega)
                    obtain ⟨b2, o2, rfl, _, _, _⟩ := HW.out.q.row (by omega)
                    obtain ⟨a1, ha1⟩ : ∃ a1 : Nat, (sa.size : Int) - 1 = (a1 : Int) := ⟨sa.size - 1, by omega⟩
                    obtain ⟨e1, he1⟩ : ∃ e1 : Nat, (sb.size : Int) - 1 = (e1 : Int) := ⟨sb.size - 1, by omega⟩
                    obtain ⟨pa, hpa⟩ : ∃ pa : Nat, (a1 : Int) - (j : Int) = (pa : Int) := ⟨sa.size - 1 - j, by omega⟩
                    obtain ⟨pb, hpb⟩ : ∃ pb : Nat, (e1 : Int) - (j : Int) = (pb : Int) := ⟨sb.size - 1 - j, by omega⟩
                    have HA1 : Hid ((sa.size : Int) - 1 = (a1 : Int)) := ha1
                    have HE1 : Hid ((sb.size : Int) - 1 = (e1 : Int)) := he1
                    have HPA : Hid ((a1 : Int) - (j : Int) = (pa : Int)) := hpa
                    have HPB : Hid ((e1 : Int) - (j : Int) = (pb : Int)) := hpb
                    have hpas : pa < sa.size := by omega
                    have hpbs : pb < sb.size := by omega
                    have hpai : (pa : Int) < (sa.size : Int) := by omega
                    have hpbi : (pb : Int) < (sb.size : Int) := by omega
                    have ha12 : (a1 : Int) ≤ 200 := by omega
                    have he12 : (e1 : Int) ≤ 200 := by omega
                    have HPAN : Hid (sa.size - 1 - j = pa) := by show _ = _; omega
                    have HPBN : Hid (sb.size - 1 - j = pb) := by show _ = _; omega
                    clear hra hrb ha1 he1 hpa hpb
                    by_cases h3 : (sa[pa].toNat : Int) = (sb[pb].toNat : Int)
                    · have hip : pa < pz.length := by rw [HF.out.lp]; exact hpas
                      have hiq : pb < qz.length := by rw [HF.out.lq]; exact hpbs
                      have HPC : Hid (∀ wk, GrL w B ⟨kind, by_, no, seen, at_, many, text⟩ (.slice (some ⟨b1, o1, none⟩) sa.size pc) pz (.slice (some ⟨b2, o2, none⟩) sb.size qc) qz wk → ∀ i (h : i < pz.length), wk.cell? ⟨b1, o1 + i, none⟩ = some (.int .i64 pz[i])) := fun wk hwk i hi => by
                        obtain ⟨b3, o3, e3, _, _, r3⟩ := hwk.p.row (by omega)
                        cases e3
                        exact r3 i hi
                      have HQC : Hid (∀ wk, GrL w B ⟨kind, by_, no, seen, at_, many, text⟩ (.slice (some ⟨b1, o1, none⟩) sa.size pc) pz (.slice (some ⟨b2, o2, none⟩) sb.size qc) qz wk → ∀ i (h : i < qz.length), wk.cell? ⟨b2, o2 + i, none⟩ = some (.int .i64 qz[i])) := fun wk hwk i hi => by
                        obtain ⟨b3, o3, e3, _, _, r3⟩ := hwk.q.row (by omega)
                        cases e3
                        exact r3 i hi
                      have HPL : Hid (∀ wk, GrL w B ⟨kind, by_, no, seen, at_, many, text⟩ (.slice (some ⟨b1, o1, none⟩) sa.size pc) pz (.slice (some ⟨b2, o2, none⟩) sb.size qc) qz wk → b1 < wk.heap.size) := fun wk hwk => by
                        obtain ⟨b3, o3, e3, l3, _, r3⟩ := hwk.p.row (by omega)
                        cases e3
                        exact l3
                      have HQL : Hid (∀ wk, GrL w B ⟨kind, by_, no, seen, at_, many, text⟩ (.slice (some ⟨b1, o1, none⟩) sa.size pc) pz (.slice (some ⟨b2, o2, none⟩) sb.size qc) qz wk → b2 < wk.heap.size) := fun wk hwk => by
                        obtain ⟨b3, o3, e3, l3, _, r3⟩ := hwk.q.row (by omega)
                        cases e3
                        exact l3
                      refine wp_region_late (fun wk => GrL w B ⟨kind, by_, no, seen, at_, many, text⟩ (.slice (some ⟨b1, o1, none⟩) sa.size pc) pz (.slice (some ⟨b2, o2, none⟩) sb.size qc) qz wk) (fun _ => false) (fun _ => false) (by kernel_rfl) (by kernel_rfl) (by kernel_rfl) (HW.out.after (Below.refl _ _).drew) ?_
                      refine wpLate_big (some 121) w rfl (.int .i64 ((j : Int))) rfl (by kernel_rfl) (fun wk hwk => ?_) ?_
                      · generalize hA : Act.eval _ = ρ
                        have s18 : ρ (.tmp 18) = .int .i64 ((j : Int)) := by rw [← hA]; kernel_rfl
                        clear hA
                        go_simp
                      go_big_quiet_op
                      refine wpLate_big (some 122) w rfl (.string sa) rfl (by kernel_rfl) (fun wk hwk => ?_) ?_
                      · generalize hA : Act.eval _ = ρ
                        have s9 : ρ (.tmp 9) = .string sa := by rw [← hA]; kernel_rfl
                        clear hA
                        go_simp
                      go_big_quiet_op
                      refine wpLate_big (some 123) w rfl (.int .i64 ((sa.size : Int))) rfl (by kernel_rfl) (fun wk hwk => ?_) ?_
                      · generalize hA : Act.eval _ = ρ
                        have s122 : ρ (.tmp 122) = .string sa := by rw [← hA]; kernel_rfl
                        clear hA
                        go_simp
                      go_big_quiet_op
                      refine wpLate_big (some 124) w rfl (.int .i64 ((i : Int))) rfl (by kernel_rfl) (fun wk hwk => ?_) ?_
                      · generalize hA : Act.eval _ = ρ
                        have s17 : ρ (.tmp 17) = .int .i64 ((i : Int)) := by rw [← hA]; kernel_rfl
                        clear hA
                        go_simp
                      go_big_quiet_op
                      refine wpLate_big (some 125) w rfl (.int .i64 ((ra : Int))) rfl (by kernel_rfl) (fun wk hwk => ?_) ?_
                      · generalize hA : Act.eval _ = ρ
                        have s123 : ρ (.tmp 123) = .int .i64 ((sa.size : Int)) := by rw [← hA]; kernel_rfl
                        have s124 : ρ (.tmp 124) = .int .i64 ((i : Int)) := by rw [← hA]; kernel_rfl
                        clear hA
                        have e1 := HRA.out
                        go_simp
                        rw [IntKind.wrap_i64]
                        omega
                      go_big_quiet_op
                      refine wpLate_big (some 126) w rfl (.bool true) rfl (by kernel_rfl) (fun wk hwk => ?_) ?_
                      · generalize hA : Act.eval _ = ρ
                        have s121 : ρ (.tmp 121) = .int .i64 ((j : Int)) := by rw [← hA]; kernel_rfl
                        have s125 : ρ (.tmp 125) = .int .i64 ((ra : Int)) := by rw [← hA]; kernel_rfl
                        clear hA
                        go_simp
                      go_big_quiet_op
                      refine wpLate_big (some 127) w rfl (.bool true) rfl (by kernel_rfl) (fun wk hwk => ?_) ?_
                      · generalize hA : Act.eval _ = ρ
                        have s126 : ρ (.tmp 126) = .bool true := by rw [← hA]; kernel_rfl
                        clear hA
                        go_simp
                      go_big_quiet_op
                      refine wpLate_big (some 128) w rfl (.int .i64 ((j : Int))) rfl (by kernel_rfl) (fun wk hwk => ?_) ?_
                      · generalize hA : Act.eval _ = ρ
                        have s18 : ρ (.tmp 18) = .int .i64 ((j : Int)) := by rw [← hA]; kernel_rfl
                        clear hA
                        go_simp
                      go_big_quiet_op
                      refine wpLate_big (some 129) w rfl (.string sb) rfl (by kernel_rfl) (fun wk hwk => ?_) ?_
                      · generalize hA : Act.eval _ = ρ
                        have s11 : ρ (.tmp 11) = .string sb := by rw [← hA]; kernel_rfl
                        clear hA
                        go_simp
                      go_big_quiet_op
                      refine wpLate_big (some 130) w rfl (.int .i64 ((sb.size : Int))) rfl (by kernel_rfl) (fun wk hwk => ?_) ?_
                      · generalize hA : Act.eval _ = ρ
                        have s129 : ρ (.tmp 129) = .string sb := by rw [← hA]; kernel_rfl
                        clear hA
                        go_simp
                      go_big_quiet_op
                      refine wpLate_big (some 131) w rfl (.int .i64 ((i : Int))) rfl (by kernel_rfl) (fun wk hwk => ?_) ?_
                      · generalize hA : Act.eval _ = ρ
                        have s17 : ρ (.tmp 17) = .int .i64 ((i : Int)) := by rw [← hA]; kernel_rfl
                        clear hA
                        go_simp
                      go_big_quiet_op
                      refine wpLate_big (some 132) w rfl (.int .i64 ((rb : Int))) rfl (by kernel_rfl) (fun wk hwk => ?_) ?_
                      · generalize hA : Act.eval _ = ρ
                        have s130 : ρ (.tmp 130) = .int .i64 ((sb.size : Int)) := by rw [← hA]; kernel_rfl
                        have s131 : ρ (.tmp 131) = .int .i64 ((i : Int)) := by rw [← hA]; kernel_rfl
                        clear hA
                        have e1 := HRB.out
                        go_simp
                        rw [IntKind.wrap_i64]
                        omega
                      go_big_quiet_op
                      refine wpLate_big (some 133) w rfl (.bool true) rfl (by kernel_rfl) (fun wk hwk => ?_) ?_
                      · generalize hA : Act.eval _ = ρ
                        have s128 : ρ (.tmp 128) = .int .i64 ((j : Int)) := by rw [← hA]; kernel_rfl
                        have s132 : ρ (.tmp 132) = .int .i64 ((rb : Int)) := by rw [← hA]; kernel_rfl
                        clear hA
                        go_simp
                      go_big_quiet_op
                      refine wpLate_big (some 134) w rfl (.bool true) rfl (by kernel_rfl) (fun wk hwk => ?_) ?_
                      · generalize hA : Act.eval _ = ρ
                        have s127 : ρ (.tmp 127) = .bool true := by rw [← hA]; kernel_rfl
                        have s133 : ρ (.tmp 133) = .bool true := by rw [← hA]; kernel_rfl
                        have k2 : ρ (.const (.bool false)) = .bool false := by rw [← hA]; kernel_rfl
                        clear hA
                        go_simp
                      go_big_quiet_op
                      refine wpLate_big (some 135) w rfl (.bool true) rfl (by kernel_rfl) (fun wk hwk => ?_) ?_
                      · generalize hA : Act.eval _ = ρ
                        have s134 : ρ (.tmp 134) = .bool true := by rw [← hA]; kernel_rfl
                        clear hA
                        go_simp
                      go_big_quiet_op
                      refine wpLate_big (some 136) w rfl (.string sa) rfl (by kernel_rfl) (fun wk hwk => ?_) ?_
                      · generalize hA : Act.eval _ = ρ
                        have s9 : ρ (.tmp 9) = .string sa := by rw [← hA]; kernel_rfl
                        clear hA
                        go_simp
                      go_big_quiet_op
                      refine wpLate_big (some 137) w rfl (.string sa) rfl (by kernel_rfl) (fun wk hwk => ?_) ?_
                      · generalize hA : Act.eval _ = ρ
                        have s9 : ρ (.tmp 9) = .string sa := by rw [← hA]; kernel_rfl
                        clear hA
                        go_simp
                      go_big_quiet_op
                      refine wpLate_big (some 138) w rfl (.int .i64 ((sa.size : Int))) rfl (by kernel_rfl) (fun wk hwk => ?_) ?_
                      · generalize hA : Act.eval _ = ρ
                        have s137 : ρ (.tmp 137) = .string sa := by rw [← hA]; kernel_rfl
                        clear hA
                        go_simp
                      go_big_quiet_op
                      refine wpLate_big (some 139) w rfl (.int .i64 ((a1 : Int))) rfl (by kernel_rfl) (fun wk hwk => ?_) ?_
                      · generalize hA : Act.eval _ = ρ
                        have s138 : ρ (.tmp 138) = .int .i64 ((sa.size : Int)) := by rw [← hA]; kernel_rfl
                        have k1 : ρ (.const (.int .i64 (1))) = .int .i64 (1) := by rw [← hA]; kernel_rfl
                        clear hA
                        have q1 := HA1.out
                        go_simp
                        rw [IntKind.wrap_i64]
                        omega
                      go_big_quiet_op
                      refine wpLate_big (some 140) w rfl (.int .i64 ((j : Int))) rfl (by kernel_rfl) (fun wk hwk => ?_) ?_
                      · generalize hA : Act.eval _ = ρ
                        have s18 : ρ (.tmp 18) = .int .i64 ((j : Int)) := by rw [← hA]; kernel_rfl
                        clear hA
                        go_simp
                      go_big_quiet_op
                      refine wpLate_big (some 141) w rfl (.int .i64 ((pa : Int))) rfl (by kernel_rfl) (fun wk hwk => ?_) ?_
                      · generalize hA : Act.eval _ = ρ
                        have s139 : ρ (.tmp 139) = .int .i64 ((a1 : Int)) := by rw [← hA]; kernel_rfl
                        have s140 : ρ (.tmp 140) = .int .i64 ((j : Int)) := by rw [← hA]; kernel_rfl
                        clear hA
                        have q1 := HPA.out
                        go_simp
                        rw [IntKind.wrap_i64]
                        omega
                      go_big_quiet_op
                      refine wpLate_big (some 142) w rfl (.int .u8 (sa[pa].toNat : Int)) rfl (by kernel_rfl) (fun wk hwk => ?_) ?_
                      · generalize hA : Act.eval _ = ρ
                        have s136 : ρ (.tmp 136) = .string sa := by rw [← hA]; kernel_rfl
                        have s141 : ρ (.tmp 141) = .int .i64 ((pa : Int)) := by rw [← hA]; kernel_rfl
                        clear hA
                        go_simp
                      go_big_quiet_op
                      refine wpLate_big (some 143) w rfl (.string sb) rfl (by kernel_rfl) (fun wk hwk => ?_) ?_
                      · generalize hA : Act.eval _ = ρ
                        have s11 : ρ (.tmp 11) = .string sb := by rw [← hA]; kernel_rfl
                        clear hA
                        go_simp
                      go_big_quiet_op
                      refine wpLate_big (some 144) w rfl (.string sb) rfl (by kernel_rfl) (fun wk hwk => ?_) ?_
                      · generalize hA : Act.eval _ = ρ
                        have s11 : ρ (.tmp 11) = .string sb := by rw [← hA]; kernel_rfl
                        clear hA
                        go_simp
                      go_big_quiet_op
                      refine wpLate_big (some 145) w rfl (.int .i64 ((sb.size : Int))) rfl (by kernel_rfl) (fun wk hwk => ?_) ?_
                      · generalize hA : Act.eval _ = ρ
                        have s144 : ρ (.tmp 144) = .string sb := by rw [← hA]; kernel_rfl
                        clear hA
                        go_simp
                      go_big_quiet_op
                      refine wpLate_big (some 146) w rfl (.int .i64 ((e1 : Int))) rfl (by kernel_rfl) (fun wk hwk => ?_) ?_
                      · generalize hA : Act.eval _ = ρ
                        have s145 : ρ (.tmp 145) = .int .i64 ((sb.size : Int)) := by rw [← hA]; kernel_rfl
                        have k1 : ρ (.const (.int .i64 (1))) = .int .i64 (1) := by rw [← hA]; kernel_rfl
                        clear hA
                        have q1 := HE1.out
                        go_simp
                        rw [IntKind.wrap_i64]
                        omega
                      go_big_quiet_op
                      refine wpLate_big (some 147) w rfl (.int .i64 ((j : Int))) rfl (by kernel_rfl) (fun wk hwk => ?_) ?_
                      · generalize hA : Act.eval _ = ρ
                        have s18 : ρ (.tmp 18) = .int .i64 ((j : Int)) := by rw [← hA]; kernel_rfl
                        clear hA
                        go_simp
                      go_big_quiet_op
                      refine wpLate_big (some 148) w rfl (.int .i64 ((pb : Int))) rfl (by kernel_rfl) (fun wk hwk => ?_) ?_
                      · generalize hA : Act.eval _ = ρ
                        have s146 : ρ (.tmp 146) = .int .i64 ((e1 : Int)) := by rw [← hA]; kernel_rfl
                        have s147 : ρ (.tmp 147) = .int .i64 ((j : Int)) := by rw [← hA]; kernel_rfl
                        clear hA
                        have q1 := HPB.out
                        go_simp
                        rw [IntKind.wrap_i64]
                        omega
                      go_big_quiet_op
                      refine wpLate_big (some 149) w rfl (.int .u8 (sb[pb].toNat : Int)) rfl (by kernel_rfl) (fun wk hwk => ?_) ?_
                      · generalize hA : Act.eval _ = ρ
                        have s143 : ρ (.tmp 143) = .string sb := by rw [← hA]; kernel_rfl
                        have s148 : ρ (.tmp 148) = .int .i64 ((pb : Int)) := by rw [← hA]; kernel_rfl
                        clear hA
                        go_simp
                      go_big_quiet_op
                      refine wpLate_big (some 150) w rfl (.bool true) rfl (by kernel_rfl) (fun wk hwk => ?_) ?_
                      · generalize hA : Act.eval _ = ρ
                        have s142 : ρ (.tmp 142) = .int .u8 (sa[pa].toNat : Int) := by rw [← hA]; kernel_rfl
                        have s149 : ρ (.tmp 149) = .int .u8 (sb[pb].toNat : Int) := by rw [← hA]; kernel_rfl
                        clear hA
                        go_simp
                      go_big_quiet_op
                      refine wpLate_big (some 151) w rfl (.bool true) rfl (by kernel_rfl) (fun wk hwk => ?_) ?_
                      · generalize hA : Act.eval _ = ρ
                        have s135 : ρ (.tmp 135) = .bool true := by rw [← hA]; kernel_rfl
                        have s150 : ρ (.tmp 150) = .bool true := by rw [← hA]; kernel_rfl
                        have k2 : ρ (.const (.bool false)) = .bool false := by rw [← hA]; kernel_rfl
                        clear hA
                        go_simp
                      go_big_quiet_op
                      refine wpLate_big (some 152) w rfl (.bool true) rfl (by kernel_rfl) (fun wk hwk => ?_) ?_
                      · generalize hA : Act.eval _ = ρ
                        have s151 : ρ (.tmp 151) = .bool true := by rw [← hA]; kernel_rfl
                        clear hA
                        go_simp
                      go_big_quiet_op
                      refine wpLate_big (some 153) w rfl (.slice (some ⟨b1, o1, none⟩) sa.size pc) rfl (by kernel_rfl) (fun wk hwk => ?_) ?_
                      · generalize hA : Act.eval _ = ρ
                        have s13 : ρ (.tmp 13) = .slice (some ⟨b1, o1, none⟩) sa.size pc := by rw [← hA]; kernel_rfl
                        clear hA
                        go_simp
                      go_big_quiet_op
                      refine wpLate_big (some 154) w rfl (.string sa) rfl (by kernel_rfl) (fun wk hwk => ?_) ?_
                      · generalize hA : Act.eval _ = ρ
                        have s9 : ρ (.tmp 9) = .string sa := by rw [← hA]; kernel_rfl
                        clear hA
                        go_simp
                      go_big_quiet_op
                      refine wpLate_big (some 155) w rfl (.int .i64 ((sa.size : Int))) rfl (by kernel_rfl) (fun wk hwk => ?_) ?_
                      · generalize hA : Act.eval _ = ρ
                        have s154 : ρ (.tmp 154) = .string sa := by rw [← hA]; kernel_rfl
                        clear hA
                        go_simp
                      go_big_quiet_op
                      refine wpLate_big (some 156) w rfl (.int .i64 ((a1 : Int))) rfl (by kernel_rfl) (fun wk hwk => ?_) ?_
                      · generalize hA : Act.eval _ = ρ
                        have s155 : ρ (.tmp 155) = .int .i64 ((sa.size : Int)) := by rw [← hA]; kernel_rfl
                        have k1 : ρ (.const (.int .i64 (1))) = .int .i64 (1) := by rw [← hA]; kernel_rfl
                        clear hA
                        have q1 := HA1.out
                        go_simp
                        rw [IntKind.wrap_i64]
                        omega
                      go_big_quiet_op
                      refine wpLate_big (some 157) w rfl (.int .i64 ((j : Int))) rfl (by kernel_rfl) (fun wk hwk => ?_) ?_
                      · generalize hA : Act.eval _ = ρ
                        have s18 : ρ (.tmp 18) = .int .i64 ((j : Int)) := by rw [← hA]; kernel_rfl
                        clear hA
                        go_simp
                      go_big_quiet_op
                      refine wpLate_big (some 158) w rfl (.int .i64 ((pa : Int))) rfl (by kernel_rfl) (fun wk hwk => ?_) ?_
                      · generalize hA : Act.eval _ = ρ
                        have s156 : ρ (.tmp 156) = .int .i64 ((a1 : Int)) := by rw [← hA]; kernel_rfl
                        have s157 : ρ (.tmp 157) = .int .i64 ((j : Int)) := by rw [← hA]; kernel_rfl
                        clear hA
                        have q1 := HPA.out
                        go_simp
                        rw [IntKind.wrap_i64]
                        omega
                      go_big_quiet_op
                      refine wpLate_big (some 159) w rfl (.pointer (some ⟨b1, o1 + pa, none⟩)) rfl (by kernel_rfl) (fun wk hwk => ?_) ?_
                      · generalize hA : Act.eval _ = ρ
                        have s153 : ρ (.tmp 153) = .slice (some ⟨b1, o1, none⟩) sa.size pc := by rw [← hA]; kernel_rfl
                        have s158 : ρ (.tmp 158) = .int .i64 ((pa : Int)) := by rw [← hA]; kernel_rfl
                        clear hA
                        go_simp
                      go_big_quiet_op
                      refine wpLate_big (some 160) w rfl (.int .i64 (pz[pa])) rfl (by kernel_rfl) (fun wk hwk => ?_) ?_
                      · generalize hA : Act.eval _ = ρ
                        have s159 : ρ (.tmp 159) = .pointer (some ⟨b1, o1 + pa, none⟩) := by rw [← hA]; kernel_rfl
                        clear hA
                        have c1 := HPC.out wk hwk pa hip
                        have hb1 := HPL.out wk hwk
                        go_simp
                      go_big_quiet_op
                      refine wpLate_big (some 161) w rfl (.slice (some ⟨b2, o2, none⟩) sb.size qc) rfl (by kernel_rfl) (fun wk hwk => ?_) ?_
                      · generalize hA : Act.eval _ = ρ
                        have s15 : ρ (.tmp 15) = .slice (some ⟨b2, o2, none⟩) sb.size qc := by rw [← hA]; kernel_rfl
                        clear hA
                        go_simp
                      go_big_quiet_op
                      refine wpLate_big (some 162) w rfl (.string sb) rfl (by kernel_rfl) (fun wk hwk => ?_) ?_
                      · generalize hA : Act.eval _ = ρ
                        have s11 : ρ (.tmp 11) = .string sb := by rw [← hA]; kernel_rfl
                        clear hA
                        go_simp
                      go_big_quiet_op
                      refine wpLate_big (some 163) w rfl (.int .i64 ((sb.size : Int))) rfl (by kernel_rfl) (fun wk hwk => ?_) ?_
                      · generalize hA : Act.eval _ = ρ
                        have s162 : ρ (.tmp 162) = .string sb := by rw [← hA]; kernel_rfl
                        clear hA
                        go_simp
                      go_big_quiet_op
                      refine wpLate_big (some 164) w rfl (.int .i64 ((e1 : Int))) rfl (by kernel_rfl) (fun wk hwk => ?_) ?_
                      · generalize hA : Act.eval _ = ρ
                        have s163 : ρ (.tmp 163) = .int .i64 ((sb.size : Int)) := by rw [← hA]; kernel_rfl
                        have k1 : ρ (.const (.int .i64 (1))) = .int .i64 (1) := by rw [← hA]; kernel_rfl
                        clear hA
                        have q1 := HE1.out
                        go_simp
                        rw [IntKind.wrap_i64]
                        omega
                      go_big_quiet_op
                      refine wpLate_big (some 165) w rfl (.int .i64 ((j : Int))) rfl (by kernel_rfl) (fun wk hwk => ?_) ?_
                      · generalize hA : Act.eval _ = ρ
                        have s18 : ρ (.tmp 18) = .int .i64 ((j : Int)) := by rw [← hA]; kernel_rfl
                        clear hA
                        go_simp
                      go_big_quiet_op
                      refine wpLate_big (some 166) w rfl (.int .i64 ((pb : Int))) rfl (by kernel_rfl) (fun wk hwk => ?_) ?_
                      · generalize hA : Act.eval _ = ρ
                        have s164 : ρ (.tmp 164) = .int .i64 ((e1 : Int)) := by rw [← hA]; kernel_rfl
                        have s165 : ρ (.tmp 165) = .int .i64 ((j : Int)) := by rw [← hA]; kernel_rfl
                        clear hA
                        have q1 := HPB.out
                        go_simp
                        rw [IntKind.wrap_i64]
                        omega
                      go_big_quiet_op
                      refine wpLate_big (some 167) w rfl (.pointer (some ⟨b2, o2 + pb, none⟩)) rfl (by kernel_rfl) (fun wk hwk => ?_) ?_
                      · generalize hA : Act.eval _ = ρ
                        have s161 : ρ (.tmp 161) = .slice (some ⟨b2, o2, none⟩) sb.size qc := by rw [← hA]; kernel_rfl
                        have s166 : ρ (.tmp 166) = .int .i64 ((pb : Int)) := by rw [← hA]; kernel_rfl
                        clear hA
                        go_simp
                      go_big_quiet_op
                      refine wpLate_big (some 168) w rfl (.int .i64 (qz[pb])) rfl (by kernel_rfl) (fun wk hwk => ?_) ?_
                      · generalize hA : Act.eval _ = ρ
                        have s167 : ρ (.tmp 167) = .pointer (some ⟨b2, o2 + pb, none⟩) := by rw [← hA]; kernel_rfl
                        clear hA
                        have c1 := HQC.out wk hwk pb hiq
                        have hb1 := HQL.out wk hwk
                        go_simp
                      go_big_quiet_op
                      refine wpLate_big (some 169) w rfl (.bool (pz[pa] == qz[pb])) rfl (by kernel_rfl) (fun wk hwk => ?_) ?_
                      · generalize hA : Act.eval _ = ρ
                        have s160 : ρ (.tmp 160) = .int .i64 (pz[pa]) := by rw [← hA]; kernel_rfl
                        have s168 : ρ (.tmp 168) = .int .i64 (qz[pb]) := by rw [← hA]; kernel_rfl
                        clear hA
                        go_simp
                      go_big_quiet_op
                      refine wpLate_big (some 170) w rfl (.bool (pz[pa] == qz[pb])) rfl (by kernel_rfl) (fun wk hwk => ?_) ?_
                      · generalize hA : Act.eval _ = ρ
                        have s152 : ρ (.tmp 152) = .bool true := by rw [← hA]; kernel_rfl
                        have s169 : ρ (.tmp 169) = .bool (pz[pa] == qz[pb]) := by rw [← hA]; kernel_rfl
                        have k2 : ρ (.const (.bool false)) = .bool false := by rw [← hA]; kernel_rfl
                        clear hA
                        go_simp
                      go_big_quiet_op
                      refine wpLate_nil (fun w9 hw9 => ?_)
                      have H9 : Hid (GrL w B ⟨kind, by_, no, seen, at_, many, text⟩ (.slice (some ⟨b1, o1, none⟩) sa.size pc) pz (.slice (some ⟨b2, o2, none⟩) sb.size qc) qz w9) := hw9
                      clear hw9
                      go_wp2_with fail
                      go_meet
                      exact cut_is (by rw [HRAN.out, HRBN.out]; exact ⟨h1, h2⟩) (fun hne => .inr (.inr (by rw [HPAN.out, HPBN.out]; exact fun e => hne (HF.out.by_ pa pb hip hiq e)))) H9.out
                    · have h3b : ((sa[pa].toNat : Int) == (sb[pb].toNat : Int)) = false := by simpa using h3
                      have HNE : Hid (¬ E pa pb) := fun e => h3 (by rw [HF.out.byte pa pb hpas hpbs e])
                      clear h3
                      refine wp_region_late (fun wk => GrL w B ⟨kind, by_, no, seen, at_, many, text⟩ (.slice (some ⟨b1, o1, none⟩) sa.size pc) pz (.slice (some ⟨b2, o2, none⟩) sb.size qc) qz wk) (fun _ => false) (fun _ => false) (by kernel_rfl) (by kernel_rfl) (by kernel_rfl) (HW.out.after (Below.refl _ _).drew) ?_
                      refine wpLate_big (some 121) w rfl (.int .i64 ((j : Int))) rfl (by kernel_rfl) (fun wk hwk => ?_) ?_
                      · generalize hA : Act.eval _ = ρ
                        have s18 : ρ (.tmp 18) = .int .i64 ((j : Int)) := by rw [← hA]; kernel_rfl
                        clear hA
                        go_simp
                      go_big_quiet_op
                      refine wpLate_big (some 122) w rfl (.string sa) rfl (by kernel_rfl) (fun wk hwk => ?_) ?_
                      · generalize hA : Act.eval _ = ρ
                        have s9 : ρ (.tmp 9) = .string sa := by rw [← hA]; kernel_rfl
                        clear hA
                        go_simp
                      go_big_quiet_op
                      refine wpLate_big (some 123) w rfl (.int .i64 ((sa.size : Int))) rfl (by kernel_rfl) (fun wk hwk => ?_) ?_
                      · generalize hA : Act.eval _ = ρ
                        have s122 : ρ (.tmp 122) = .string sa := by rw [← hA]; kernel_rfl
                        clear hA
                        go_simp
                      go_big_quiet_op
                      refine wpLate_big (some 124) w rfl (.int .i64 ((i : Int))) rfl (by kernel_rfl) (fun wk hwk => ?_) ?_
                      · generalize hA : Act.eval _ = ρ
                        have s17 : ρ (.tmp 17) = .int .i64 ((i : Int)) := by rw [← hA]; kernel_rfl
                        clear hA
                        go_simp
                      go_big_quiet_op
                      refine wpLate_big (some 125) w rfl (.int .i64 ((ra : Int))) rfl (by kernel_rfl) (fun wk hwk => ?_) ?_
                      · generalize hA : Act.eval _ = ρ
                        have s123 : ρ (.tmp 123) = .int .i64 ((sa.size : Int)) := by rw [← hA]; kernel_rfl
                        have s124 : ρ (.tmp 124) = .int .i64 ((i : Int)) := by rw [← hA]; kernel_rfl
                        clear hA
                        have e1 := HRA.out
                        go_simp
                        rw [IntKind.wrap_i64]
                        omega
                      go_big_quiet_op
                      refine wpLate_big (some 126) w rfl (.bool true) rfl (by kernel_rfl) (fun wk hwk => ?_) ?_
                      · generalize hA : Act.eval _ = ρ
                        have s121 : ρ (.tmp 121) = .int .i64 ((j : Int)) := by rw [← hA]; kernel_rfl
                        have s125 : ρ (.tmp 125) = .int .i64 ((ra : Int)) := by rw [← hA]; kernel_rfl
                        clear hA
                        go_simp
                      go_big_quiet_op
                      refine wpLate_big (some 127) w rfl (.bool true) rfl (by kernel_rfl) (fun wk hwk => ?_) ?_
                      · generalize hA : Act.eval _ = ρ
                        have s126 : ρ (.tmp 126) = .bool true := by rw [← hA]; kernel_rfl
                        clear hA
                        go_simp
                      go_big_quiet_op
                      refine wpLate_big (some 128) w rfl (.int .i64 ((j : Int))) rfl (by kernel_rfl) (fun wk hwk => ?_) ?_
                      · generalize hA : Act.eval _ = ρ
                        have s18 : ρ (.tmp 18) = .int .i64 ((j : Int)) := by rw [← hA]; kernel_rfl
                        clear hA
                        go_simp
                      go_big_quiet_op
                      refine wpLate_big (some 129) w rfl (.string sb) rfl (by kernel_rfl) (fun wk hwk => ?_) ?_
                      · generalize hA : Act.eval _ = ρ
                        have s11 : ρ (.tmp 11) = .string sb := by rw [← hA]; kernel_rfl
                        clear hA
                        go_simp
                      go_big_quiet_op
                      refine wpLate_big (some 130) w rfl (.int .i64 ((sb.size : Int))) rfl (by kernel_rfl) (fun wk hwk => ?_) ?_
                      · generalize hA : Act.eval _ = ρ
                        have s129 : ρ (.tmp 129) = .string sb := by rw [← hA]; kernel_rfl
                        clear hA
                        go_simp
                      go_big_quiet_op
                      refine wpLate_big (some 131) w rfl (.int .i64 ((i : Int))) rfl (by kernel_rfl) (fun wk hwk => ?_) ?_
                      · generalize hA : Act.eval _ = ρ
                        have s17 : ρ (.tmp 17) = .int .i64 ((i : Int)) := by rw [← hA]; kernel_rfl
                        clear hA
                        go_simp
                      go_big_quiet_op
                      refine wpLate_big (some 132) w rfl (.int .i64 ((rb : Int))) rfl (by kernel_rfl) (fun wk hwk => ?_) ?_
                      · generalize hA : Act.eval _ = ρ
                        have s130 : ρ (.tmp 130) = .int .i64 ((sb.size : Int)) := by rw [← hA]; kernel_rfl
                        have s131 : ρ (.tmp 131) = .int .i64 ((i : Int)) := by rw [← hA]; kernel_rfl
                        clear hA
                        have e1 := HRB.out
                        go_simp
                        rw [IntKind.wrap_i64]
                        omega
                      go_big_quiet_op
                      refine wpLate_big (some 133) w rfl (.bool true) rfl (by kernel_rfl) (fun wk hwk => ?_) ?_
                      · generalize hA : Act.eval _ = ρ
                        have s128 : ρ (.tmp 128) = .int .i64 ((j : Int)) := by rw [← hA]; kernel_rfl
                        have s132 : ρ (.tmp 132) = .int .i64 ((rb : Int)) := by rw [← hA]; kernel_rfl
                        clear hA
                        go_simp
                      go_big_quiet_op
                      refine wpLate_big (some 134) w rfl (.bool true) rfl (by kernel_rfl) (fun wk hwk => ?_) ?_
                      · generalize hA : Act.eval _ = ρ
                        have s127 : ρ (.tmp 127) = .bool true := by rw [← hA]; kernel_rfl
                        have s133 : ρ (.tmp 133) = .bool true := by rw [← hA]; kernel_rfl
                        have k2 : ρ (.const (.bool false)) = .bool false := by rw [← hA]; kernel_rfl
                        clear hA
                        go_simp
                      go_big_quiet_op
                      refine wpLate_big (some 135) w rfl (.bool true) rfl (by kernel_rfl) (fun wk hwk => ?_) ?_
                      · generalize hA : Act.eval _ = ρ
                        have s134 : ρ (.tmp 134) = .bool true := by rw [← hA]; kernel_rfl
                        clear hA
                        go_simp
                      go_big_quiet_op
                      refine wpLate_big (some 136) w rfl (.string sa) rfl (by kernel_rfl) (fun wk hwk => ?_) ?_
                      · generalize hA : Act.eval _ = ρ
                        have s9 : ρ (.tmp 9) = .string sa := by rw [← hA]; kernel_rfl
                        clear hA
                        go_simp
                      go_big_quiet_op
                      refine wpLate_big (some 137) w rfl (.string sa) rfl (by kernel_rfl) (fun wk hwk => ?_) ?_
                      · generalize hA : Act.eval _ = ρ
                        have s9 : ρ (.tmp 9) = .string sa := by rw [← hA]; kernel_rfl
                        clear hA
                        go_simp
                      go_big_quiet_op
                      refine wpLate_big (some 138) w rfl (.int .i64 ((sa.size : Int))) rfl (by kernel_rfl) (fun wk hwk => ?_) ?_
                      · generalize hA : Act.eval _ = ρ
                        have s137 : ρ (.tmp 137) = .string sa := by rw [← hA]; kernel_rfl
                        clear hA
                        go_simp
                      go_big_quiet_op
                      refine wpLate_big (some 139) w rfl (.int .i64 ((a1 : Int))) rfl (by kernel_rfl) (fun wk hwk => ?_) ?_
                      · generalize hA : Act.eval _ = ρ
                        have s138 : ρ (.tmp 138) = .int .i64 ((sa.size : Int)) := by rw [← hA]; kernel_rfl
                        have k1 : ρ (.const (.int .i64 (1))) = .int .i64 (1) := by rw [← hA]; kernel_rfl
                        clear hA
                        have q1 := HA1.out
                        go_simp
                        rw [IntKind.wrap_i64]
                        omega
                      go_big_quiet_op
                      refine wpLate_big (some 140) w rfl (.int .i64 ((j : Int))) rfl (by kernel_rfl) (fun wk hwk => ?_) ?_
                      · generalize hA : Act.eval _ = ρ
                        have s18 : ρ (.tmp 18) = .int .i64 ((j : Int)) := by rw [← hA]; kernel_rfl
                        clear hA
                        go_simp
                      go_big_quiet_op
                      refine wpLate_big (some 141) w rfl (.int .i64 ((pa : Int))) rfl (by kernel_rfl) (fun wk hwk => ?_) ?_
                      · generalize hA : Act.eval _ = ρ
                        have s139 : ρ (.tmp 139) = .int .i64 ((a1 : Int)) := by rw [← hA]; kernel_rfl
                        have s140 : ρ (.tmp 140) = .int .i64 ((j : Int)) := by rw [← hA]; kernel_rfl
                        clear hA
                        have q1 := HPA.out
                        go_simp
                        rw [IntKind.wrap_i64]
                        omega
                      go_big_quiet_op
                      refine wpLate_big (some 142) w rfl (.int .u8 (sa[pa].toNat : Int)) rfl (by kernel_rfl) (fun wk hwk => ?_) ?_
                      · generalize hA : Act.eval _ = ρ
                        have s136 : ρ (.tmp 136) = .string sa := by rw [← hA]; kernel_rfl
                        have s141 : ρ (.tmp 141) = .int .i64 ((pa : Int)) := by rw [← hA]; kernel_rfl
                        clear hA
                        go_simp
                      go_big_quiet_op
                      refine wpLate_big (some 143) w rfl (.string sb) rfl (by kernel_rfl) (fun wk hwk => ?_) ?_
                      · generalize hA : Act.eval _ = ρ
                        have s11 : ρ (.tmp 11) = .string sb := by rw [← hA]; kernel_rfl
                        clear hA
                        go_simp
                      go_big_quiet_op
                      refine wpLate_big (some 144) w rfl (.string sb) rfl (by kernel_rfl) (fun wk hwk => ?_) ?_
                      · generalize hA : Act.eval _ = ρ
                        have s11 : ρ (.tmp 11) = .string sb := by rw [← hA]; kernel_rfl
                        clear hA
                        go_simp
                      go_big_quiet_op
                      refine wpLate_big (some 145) w rfl (.int .i64 ((sb.size : Int))) rfl (by kernel_rfl) (fun wk hwk => ?_) ?_
                      · generalize hA : Act.eval _ = ρ
                        have s144 : ρ (.tmp 144) = .string sb := by rw [← hA]; kernel_rfl
                        clear hA
                        go_simp
                      go_big_quiet_op
                      refine wpLate_big (some 146) w rfl (.int .i64 ((e1 : Int))) rfl (by kernel_rfl) (fun wk hwk => ?_) ?_
                      · generalize hA : Act.eval _ = ρ
                        have s145 : ρ (.tmp 145) = .int .i64 ((sb.size : Int)) := by rw [← hA]; kernel_rfl
                        have k1 : ρ (.const (.int .i64 (1))) = .int .i64 (1) := by rw [← hA]; kernel_rfl
                        clear hA
                        have q1 := HE1.out
                        go_simp
                        rw [IntKind.wrap_i64]
                        omega
                      go_big_quiet_op
                      refine wpLate_big (some 147) w rfl (.int .i64 ((j : Int))) rfl (by kernel_rfl) (fun wk hwk => ?_) ?_
                      · generalize hA : Act.eval _ = ρ
                        have s18 : ρ (.tmp 18) = .int .i64 ((j : Int)) := by rw [← hA]; kernel_rfl
                        clear hA
                        go_simp
                      go_big_quiet_op
                      refine wpLate_big (some 148) w rfl (.int .i64 ((pb : Int))) rfl (by kernel_rfl) (fun wk hwk => ?_) ?_
                      · generalize hA : Act.eval _ = ρ
                        have s146 : ρ (.tmp 146) = .int .i64 ((e1 : Int)) := by rw [← hA]; kernel_rfl
                        have s147 : ρ (.tmp 147) = .int .i64 ((j : Int)) := by rw [← hA]; kernel_rfl
                        clear hA
                        have q1 := HPB.out
                        go_simp
                        rw [IntKind.wrap_i64]
                        omega
                      go_big_quiet_op
                      refine wpLate_big (some 149) w rfl (.int .u8 (sb[pb].toNat : Int)) rfl (by kernel_rfl) (fun wk hwk => ?_) ?_
                      · generalize hA : Act.eval _ = ρ
                        have s143 : ρ (.tmp 143) = .string sb := by rw [← hA]; kernel_rfl
                        have s148 : ρ (.tmp 148) = .int .i64 ((pb : Int)) := by rw [← hA]; kernel_rfl
                        clear hA
                        go_simp
                      go_big_quiet_op
                      refine wpLate_big (some 150) w rfl (.bool false) rfl (by kernel_rfl) (fun wk hwk => ?_) ?_
                      · generalize hA : Act.eval _ = ρ
                        have s142 : ρ (.tmp 142) = .int .u8 (sa[pa].toNat : Int) := by rw [← hA]; kernel_rfl
                        have s149 : ρ (.tmp 149) = .int .u8 (sb[pb].toNat : Int) := by rw [← hA]; kernel_rfl
                        clear hA
                        go_simp
                      go_big_quiet_op
                      refine wpLate_big (some 151) w rfl (.bool false) rfl (by kernel_rfl) (fun wk hwk => ?_) ?_
                      · generalize hA : Act.eval _ = ρ
                        have s135 : ρ (.tmp 135) = .bool true := by rw [← hA]; kernel_rfl
                        have s150 : ρ (.tmp 150) = .bool false := by rw [← hA]; kernel_rfl
                        have k2 : ρ (.const (.bool false)) = .bool false := by rw [← hA]; kernel_rfl
                        clear hA
                        go_simp
                      go_big_quiet_op
                      refine wpLate_bigPasses (some 152) [some 153, some 154, some 155, some 156, some 157, some 158, some 159, some 160, some 161, some 162, some 163, some 164, some 165, some 166, some 167, some 168, some 169] 17 w rfl (.bool false) rfl (by kernel_rfl) (fun wk hwk => ?_) (by decide) rfl (by kernel_rfl) (fun K hK K1 hK1 => ?_)
                      · generalize hA : Act.eval _ = ρ
                        have s151 : ρ (.tmp 151) = .bool false := by rw [← hA]; kernel_rfl
                        clear hA
                        go_simp
                      go_big_quiet_op
                      refine hK1 _ ?_
                      clear hK1 K1
                      intro K1 hK1
                      go_big_quiet_op
                      refine hK1 _ ?_
                      clear hK1 K1
                      intro K1 hK1
                      go_big_quiet_op
                      refine hK1 _ ?_
                      clear hK1 K1
                      intro K1 hK1
                      go_big_quiet_op
                      refine hK1 _ ?_
                      clear hK1 K1
                      intro K1 hK1
                      go_big_quiet_op
                      refine hK1 _ ?_
                      clear hK1 K1
                      intro K1 hK1
                      go_big_quiet_op
                      refine hK1 _ ?_
                      clear hK1 K1
                      intro K1 hK1
                      go_big_quiet_op
                      refine hK1 _ ?_
                      clear hK1 K1
                      intro K1 hK1
                      go_big_quiet_op
                      refine hK1 _ ?_
                      clear hK1 K1
                      intro K1 hK1
                      go_big_quiet_op
                      refine hK1 _ ?_
                      clear hK1 K1
                      intro K1 hK1
                      go_big_quiet_op
                      refine hK1 _ ?_
                      clear hK1 K1
                      intro K1 hK1
                      go_big_quiet_op
                      refine hK1 _ ?_
                      clear hK1 K1
                      intro K1 hK1
                      go_big_quiet_op
                      refine hK1 _ ?_
                      clear hK1 K1
                      intro K1 hK1
                      go_big_quiet_op
                      refine hK1 _ ?_
                      clear hK1 K1
                      intro K1 hK1
                      go_big_quiet_op
                      refine hK1 _ ?_
                      clear hK1 K1
                      intro K1 hK1
                      go_big_quiet_op
                      refine hK1 _ ?_
                      clear hK1 K1
                      intro K1 hK1
                      go_big_quiet_op
                      refine hK1 _ ?_
                      clear hK1 K1
                      intro K1 hK1
                      go_big_quiet_op
                      refine hK1 _ ?_
                      clear hK1 K1
                      intro K1 hK1
                      go_big_quiet_op
                      refine hK1 _ ?_
                      clear hK1 K1
                      refine hK _ ?_
                      clear hK K
                      refine wpLate_big (some 170) w rfl (.bool false) rfl (by kernel_rfl) (fun wk hwk => ?_) ?_
                      · generalize hA : Act.eval _ = ρ
                        have s152 : ρ (.tmp 152) = .bool false := by rw [← hA]; kernel_rfl
                        have k1 : ρ (.const (.bool false)) = .bool false := by rw [← hA]; kernel_rfl
                        clear hA
                        go_simp
                      go_big_quiet_op
                      refine wpLate_nil (fun w9 hw9 => ?_)
                      have H9 : Hid (GrL w B ⟨kind, by_, no, seen, at_, many, text⟩ (.slice (some ⟨b1, o1, none⟩) sa.size pc) pz (.slice (some ⟨b2, o2, none⟩) sb.size qc) qz w9) := hw9
                      clear hw9
                      go_wp2_with fail
                      go_meet
                      exact cut_no (.inr (.inr (by rw [HPAN.out, HPBN.out]; exact HNE.out))) H9.out
                  · have h2b : decide ((j : Int) < (rb : Int)) = false := decide_eq_false (by omega)
                    have HJ : Hid (j = rb) := by show _ = _; omega
                    have h2n : rb ≤ j := by omega
                    clear h2 hra hrb
                    refine wp_region_late (fun wk => GrL w B ⟨kind, by_, no, seen, at_, many, text⟩ (.slice pa sa.size pc) pz (.slice qa sb.size qc) qz wk) (fun _ => false) (fun _ => false) (by kernel_rfl) (by kernel_rfl) (by kernel_rfl) (HW.out.after (Below.refl _ _).drew) ?_
                    refine wpLate_big (some 121) w rfl (.int .i64 ((j : Int))) rfl (by kernel_rfl) (fun wk hwk => ?_) ?_
                    · generalize hA : Act.eval _ = ρ
                      have s18 : ρ (.tmp 18) = .int .i64 ((j : Int)) := by rw [← hA]; kernel_rfl
                      clear hA
                      go_simp
                    go_big_quiet_op
                    refine wpLate_big (some 122) w rfl (.string sa) rfl (by kernel_rfl) (fun wk hwk => ?_) ?_
                    · generalize hA : Act.eval _ = ρ
                      have s9 : ρ (.tmp 9) = .string sa := by rw [← hA]; kernel_rfl
                      clear hA
                      go_simp
                    go_big_quiet_op
                    refine wpLate_big (some 123) w rfl (.int .i64 ((sa.size : Int))) rfl (by kernel_rfl) (fun wk hwk => ?_) ?_
                    · generalize hA : Act.eval _ = ρ
                      have s122 : ρ (.tmp 122) = .string sa := by rw [← hA]; kernel_rfl
                      clear hA
                      go_simp
                    go_big_quiet_op
                    refine wpLate_big (some 124) w rfl (.int .i64 ((i : Int))) rfl (by kernel_rfl) (fun wk hwk => ?_) ?_
                    · generalize hA : Act.eval _ = ρ
                      have s17 : ρ (.tmp 17) = .int .i64 ((i : Int)) := by rw [← hA]; kernel_rfl
                      clear hA
                      go_simp
                    go_big_quiet_op
                    refine wpLate_big (some 125) w rfl (.int .i64 ((ra : Int))) rfl (by kernel_rfl) (fun wk hwk => ?_) ?_
                    · generalize hA : Act.eval _ = ρ
                      have s123 : ρ (.tmp 123) = .int .i64 ((sa.size : Int)) := by rw [← hA]; kernel_rfl
                      have s124 : ρ (.tmp 124) = .int .i64 ((i : Int)) := by rw [← hA]; kernel_rfl
                      clear hA
                      have e1 := HRA.out
                      go_simp
                      rw [IntKind.wrap_i64]
                      omega
                    go_big_quiet_op
                    refine wpLate_big (some 126) w rfl (.bool true) rfl (by kernel_rfl) (fun wk hwk => ?_) ?_
                    · generalize hA : Act.eval _ = ρ
                      have s121 : ρ (.tmp 121) = .int .i64 ((j : Int)) := by rw [← hA]; kernel_rfl
                      have s125 : ρ (.tmp 125) = .int .i64 ((ra : Int)) := by rw [← hA]; kernel_rfl
                      clear hA
                      go_simp
                    go_big_quiet_op
                    refine wpLate_big (some 127) w rfl (.bool true) rfl (by kernel_rfl) (fun wk hwk => ?_) ?_
                    · generalize hA : Act.eval _ = ρ
                      have s126 : ρ (.tmp 126) = .bool true := by rw [← hA]; kernel_rfl
                      clear hA
                      go_simp
                    go_big_quiet_op
                    refine wpLate_big (some 128) w rfl (.int .i64 ((j : Int))) rfl (by kernel_rfl) (fun wk hwk => ?_) ?_
                    · generalize hA : Act.eval _ = ρ
                      have s18 : ρ (.tmp 18) = .int .i64 ((j : Int)) := by rw [← hA]; kernel_rfl
                      clear hA
                      go_simp
                    go_big_quiet_op
                    refine wpLate_big (some 129) w rfl (.string sb) rfl (by kernel_rfl) (fun wk hwk => ?_) ?_
                    · generalize hA : Act.eval _ = ρ
                      have s11 : ρ (.tmp 11) = .string sb := by rw [← hA]; kernel_rfl
                      clear hA
                      go_simp
                    go_big_quiet_op
                    refine wpLate_big (some 130) w rfl (.int .i64 ((sb.size : Int))) rfl (by kernel_rfl) (fun wk hwk => ?_) ?_
                    · generalize hA : Act.eval _ = ρ
                      have s129 : ρ (.tmp 129) = .string sb := by rw [← hA]; kernel_rfl
                      clear hA
                      go_simp
                    go_big_quiet_op
                    refine wpLate_big (some 131) w rfl (.int .i64 ((i : Int))) rfl (by kernel_rfl) (fun wk hwk => ?_) ?_
                    · generalize hA : Act.eval _ = ρ
                      have s17 : ρ (.tmp 17) = .int .i64 ((i : Int)) := by rw [← hA]; kernel_rfl
                      clear hA
                      go_simp
                    go_big_quiet_op
                    refine wpLate_big (some 132) w rfl (.int .i64 ((rb : Int))) rfl (by kernel_rfl) (fun wk hwk => ?_) ?_
                    · generalize hA : Act.eval _ = ρ
                      have s130 : ρ (.tmp 130) = .int .i64 ((sb.size : Int)) := by rw [← hA]; kernel_rfl
                      have s131 : ρ (.tmp 131) = .int .i64 ((i : Int)) := by rw [← hA]; kernel_rfl
                      clear hA
                      have e1 := HRB.out
                      go_simp
                      rw [IntKind.wrap_i64]
                      omega
                    go_big_quiet_op
                    refine wpLate_big (some 133) w rfl (.bool false) rfl (by kernel_rfl) (fun wk hwk => ?_) ?_
                    · generalize hA : Act.eval _ = ρ
                      have s128 : ρ (.tmp 128) = .int .i64 ((j : Int)) := by rw [← hA]; kernel_rfl
                      have s132 : ρ (.tmp 132) = .int .i64 ((rb : Int)) := by rw [← hA]; kernel_rfl
                      clear hA
                      go_simp
                    go_big_quiet_op
                    refine wpLate_big (some 134) w rfl (.bool false) rfl (by kernel_rfl) (fun wk hwk => ?_) ?_
                    · generalize hA : Act.eval _ = ρ
                      have s127 : ρ (.tmp 127) = .bool true := by rw [← hA]; kernel_rfl
                      have s133 : ρ (.tmp 133) = .bool false := by rw [← hA]; kernel_rfl
                      have k2 : ρ (.const (.bool false)) = .bool false := by rw [← hA]; kernel_rfl
                      clear hA
                      go_simp
                    go_big_quiet_op
                    refine wpLate_bigPasses (some 135) [some 136, some 137, some 138, some 139, some 140, some 141, some 142, some 143, some 144, some 145, some 146, some 147, some 148, some 149, some 150] 15 w rfl (.bool false) rfl (by kernel_rfl) (fun wk hwk => ?_) (by decide) rfl (by kernel_rfl) (fun K hK K1 hK1 => ?_)
                    · generalize hA : Act.eval _ = ρ
                      have s134 : ρ (.tmp 134) = .bool false := by rw [← hA]; kernel_rfl
                      clear hA
                      go_simp
                    go_big_quiet_op
                    refine hK1 _ ?_
                    clear hK1 K1
                    intro K1 hK1
                    go_big_quiet_op
                    refine hK1 _ ?_
                    clear hK1 K1
                    intro K1 hK1
                    go_big_quiet_op
                    refine hK1 _ ?_
                    clear hK1 K1
                    intro K1 hK1
                    go_big_quiet_op
                    refine hK1 _ ?_
                    clear hK1 K1
                    intro K1 hK1
                    go_big_quiet_op
                    refine hK1 _ ?_
                    clear hK1 K1
                    intro K1 hK1
                    go_big_quiet_op
                    refine hK1 _ ?_
                    clear hK1 K1
                    intro K1 hK1
                    go_big_quiet_op
                    refine hK1 _ ?_
                    clear hK1 K1
                    intro K1 hK1
                    go_big_quiet_op
                    refine hK1 _ ?_
                    clear hK1 K1
                    intro K1 hK1
                    go_big_quiet_op
                    refine hK1 _ ?_
                    clear hK1 K1
                    intro K1 hK1
                    go_big_quiet_op
                    refine hK1 _ ?_
                    clear hK1 K1
                    intro K1 hK1
                    go_big_quiet_op
                    refine hK1 _ ?_
                    clear hK1 K1
                    intro K1 hK1
                    go_big_quiet_op
                    refine hK1 _ ?_
                    clear hK1 K1
                    intro K1 hK1
                    go_big_quiet_op
                    refine hK1 _ ?_
                    clear hK1 K1
                    intro K1 hK1
                    go_big_quiet_op
                    refine hK1 _ ?_
                    clear hK1 K1
                    intro K1 hK1
                    go_big_quiet_op
                    refine hK1 _ ?_
                    clear hK1 K1
                    intro K1 hK1
                    go_big_quiet_op
                    refine hK1 _ ?_
                    clear hK1 K1
                    refine hK _ ?_
                    clear hK K
                    refine wpLate_big (some 151) w rfl (.bool false) rfl (by kernel_rfl) (fun wk hwk => ?_) ?_
                    · generalize hA : Act.eval _ = ρ
                      have s135 : ρ (.tmp 135) = .bool false := by rw [← hA]; kernel_rfl
                      have k1 : ρ (.const (.bool false)) = .bool false := by rw [← hA]; kernel_rfl
                      clear hA
                      go_simp
                    go_big_quiet_op
                    refine wpLate_bigPasses (some 152) [some 153, some 154, some 155, some 156, some 157, some 158, some 159, some 160, some 161, some 162, some 163, some 164, some 165, some 166, some 167, some 168, some 169] 17 w rfl (.bool false) rfl (by kernel_rfl) (fun wk hwk => ?_) (by decide) rfl (by kernel_rfl) (fun K hK K1 hK1 => ?_)
                    · generalize hA : Act.eval _ = ρ
                      have s151 : ρ (.tmp 151) = .bool false := by rw [← hA]; kernel_rfl
                      clear hA
                      go_simp
                    go_big_quiet_op
                    refine hK1 _ ?_
                    clear hK1 K1
                    intro K1 hK1
                    go_big_quiet_op
                    refine hK1 _ ?_
                    clear hK1 K1
                    intro K1 hK1
                    go_big_quiet_op
                    refine hK1 _ ?_
                    clear hK1 K1
                    intro K1 hK1
                    go_big_quiet_op
                    refine hK1 _ ?_
                    clear hK1 K1
                    intro K1 hK1
                    go_big_quiet_op
                    refine hK1 _ ?_
                    clear hK1 K1
                    intro K1 hK1
                    go_big_quiet_op
                    refine hK1 _ ?_
                    clear hK1 K1
                    intro K1 hK1
                    go_big_quiet_op
                    refine hK1 _ ?_
                    clear hK1 K1
                    intro K1 hK1
                    go_big_quiet_op
                    refine hK1 _ ?_
                    clear hK1 K1
                    intro K1 hK1
                    go_big_quiet_op
                    refine hK1 _ ?_
                    clear hK1 K1
                    intro K1 hK1
                    go_big_quiet_op
                    refine hK1 _ ?_
                    clear hK1 K1
                    intro K1 hK1
                    go_big_quiet_op
                    refine hK1 _ ?_
                    clear hK1 K1
                    intro K1 hK1
                    go_big_quiet_op
                    refine hK1 _ ?_
                    clear hK1 K1
                    intro K1 hK1
                    go_big_quiet_op
                    refine hK1 _ ?_
                    clear hK1 K1
                    intro K1 hK1
                    go_big_quiet_op
                    refine hK1 _ ?_
                    clear hK1 K1
                    intro K1 hK1
                    go_big_quiet_op
                    refine hK1 _ ?_
                    clear hK1 K1
                    intro K1 hK1
                    go_big_quiet_op
                    refine hK1 _ ?_
                    clear hK1 K1
                    intro K1 hK1
                    go_big_quiet_op
                    refine hK1 _ ?_
                    clear hK1 K1
                    intro K1 hK1
                    go_big_quiet_op
                    refine hK1 _ ?_
                    clear hK1 K1
                    refine hK _ ?_
                    clear hK K
                    refine wpLate_big (some 170) w rfl (.bool false) rfl (by kernel_rfl) (fun wk hwk => ?_) ?_
                    · generalize hA : Act.eval _ = ρ
                      have s152 : ρ (.tmp 152) = .bool false := by rw [← hA]; kernel_rfl
                      have k1 : ρ (.const (.bool false)) = .bool false := by rw [← hA]; kernel_rfl
                      clear hA
                      go_simp
                    go_big_quiet_op
                    refine wpLate_nil (fun w9 hw9 => ?_)
                    have H9 : Hid (GrL w B ⟨kind, by_, no, seen, at_, many, text⟩ (.slice pa sa.size pc) pz (.slice qa sb.size qc) qz w9) := hw9
                    clear hw9
                    go_wp2_with fail
                    go_meet
                    exact cut_no (.inr (.inl (by rw [HRBN.out]; exact HJ.out))) H9.out
                · have h1b : decide ((j : Int) < (ra : Int)) = false := decide_eq_false (by omega)
                  have HJ : Hid (j = ra) := by show _ = _; omega
                  have h1n : ra ≤ j := by omega
                  clear h1 hra hrb
                  refine wp_region_late (fun wk => GrL w B ⟨kind, by_, no, seen, at_, many, text⟩ (.slice pa sa.size pc) pz (.slice qa sb.size qc) qz wk) (fun _ => false) (fun _ => false) (by kernel_rfl) (by kernel_rfl) (by kernel_rfl) (HW.out.after (Below.refl _ _).drew) ?_
                  refine wpLate_big (some 121) w rfl (.int .i64 ((j : Int))) rfl (by kernel_rfl) (fun wk hwk => ?_) ?_
                  · generalize hA : Act.eval _ = ρ
                    have s18 : ρ (.tmp 18) = .int .i64 ((j : Int)) := by rw [← hA]; kernel_rfl
                    clear hA
                    go_simp
                  go_big_quiet_op
                  refine wpLate_big (some 122) w rfl (.string sa) rfl (by kernel_rfl) (fun wk hwk => ?_) ?_
                  · generalize hA : Act.eval _ = ρ
                    have s9 : ρ (.tmp 9) = .string sa := by rw [← hA]; kernel_rfl
                    clear hA
                    go_simp
                  go_big_quiet_op
                  refine wpLate_big (some 123) w rfl (.int .i64 ((sa.size : Int))) rfl (by kernel_rfl) (fun wk hwk => ?_) ?_
                  · generalize hA : Act.eval _ = ρ
                    have s122 : ρ (.tmp 122) = .string sa := by rw [← hA]; kernel_rfl
                    clear hA
                    go_simp
                  go_big_quiet_op
                  refine wpLate_big (some 124) w rfl (.int .i64 ((i : Int))) rfl (by kernel_rfl) (fun wk hwk => ?_) ?_
                  · generalize hA : Act.eval _ = ρ
                    have s17 : ρ (.tmp 17) = .int .i64 ((i : Int)) := by rw [← hA]; kernel_rfl
                    clear hA
                    go_simp
                  go_big_quiet_op
                  refine wpLate_big (some 125) w rfl (.int .i64 ((ra : Int))) rfl (by kernel_rfl) (fun wk hwk => ?_) ?_
                  · generalize hA : Act.eval _ = ρ
                    have s123 : ρ (.tmp 123) = .int .i64 ((sa.size : Int)) := by rw [← hA]; kernel_rfl
                    have s124 : ρ (.tmp 124) = .int .i64 ((i : Int)) := by rw [← hA]; kernel_rfl
                    clear hA
                    have e1 := HRA.out
                    go_simp
                    rw [IntKind.wrap_i64]
                    omega
                  go_big_quiet_op
                  refine wpLate_big (some 126) w rfl (.bool false) rfl (by kernel_rfl) (fun wk hwk => ?_) ?_
                  · generalize hA : Act.eval _ = ρ
                    have s121 : ρ (.tmp 121) = .int .i64 ((j : Int)) := by rw [← hA]; kernel_rfl
                    have s125 : ρ (.tmp 125) = .int .i64 ((ra : Int)) := by rw [← hA]; kernel_rfl
                    clear hA
                    go_simp
                  go_big_quiet_op
                  refine wpLate_bigPasses (some 127) [some 128, some 129, some 130, some 131, some 132, some 133] 6 w rfl (.bool false) rfl (by kernel_rfl) (fun wk hwk => ?_) (by decide) rfl (by kernel_rfl) (fun K hK K1 hK1 => ?_)
                  · generalize hA : Act.eval _ = ρ
                    have s126 : ρ (.tmp 126) = .bool false := by rw [← hA]; kernel_rfl
                    clear hA
                    go_simp
                  go_big_quiet_op
                  refine hK1 _ ?_
                  clear hK1 K1
                  intro K1 hK1
                  go_big_quiet_op
                  refine hK1 _ ?_
                  clear hK1 K1
                  intro K1 hK1
                  go_big_quiet_op
                  refine hK1 _ ?_
                  clear hK1 K1
                  intro K1 hK1
                  go_big_quiet_op
                  refine hK1 _ ?_
                  clear hK1 K1
                  intro K1 hK1
                  go_big_quiet_op
                  refine hK1 _ ?_
                  clear hK1 K1
                  intro K1 hK1
                  go_big_quiet_op
                  refine hK1 _ ?_
                  clear hK1 K1
                  intro K1 hK1
                  go_big_quiet_op
                  refine hK1 _ ?_
                  clear hK1 K1
                  refine hK _ ?_
                  clear hK K
                  refine wpLate_big (some 134) w rfl (.bool false) rfl (by kernel_rfl) (fun wk hwk => ?_) ?_
                  · generalize hA : Act.eval _ = ρ
                    have s127 : ρ (.tmp 127) = .bool false := by rw [← hA]; kernel_rfl
                    have k1 : ρ (.const (.bool false)) = .bool false := by rw [← hA]; kernel_rfl
                    clear hA
                    go_simp
                  go_big_quiet_op
                  refine wpLate_bigPasses (some 135) [some 136, some 137, some 138, some 139, some 140, some 141, some 142, some 143, some 144, some 145, some 146, some 147, some 148, some 149, some 150] 15 w rfl (.bool false) rfl (by kernel_rfl) (fun wk hwk => ?_) (by decide) rfl (by kernel_rfl) (fun K hK K1 hK1 => ?_)
                  · generalize hA : Act.eval _ = ρ
                    have s134 : ρ (.tmp 134) = .bool false := by rw [← hA]; kernel_rfl
                    clear hA
                    go_simp
                  go_big_quiet_op
                  refine hK1 _ ?_
                  clear hK1 K1
                  intro K1 hK1
                  go_big_quiet_op
                  refine hK1 _ ?_
                  clear hK1 K1
                  intro K1 hK1
                  go_big_quiet_op
                  refine hK1 _ ?_
                  clear hK1 K1
                  intro K1 hK1
                  go_big_quiet_op
                  refine hK1 _ ?_
                  clear hK1 K1
                  intro K1 hK1
                  go_big_quiet_op
                  refine hK1 _ ?_
                  clear hK1 K1
                  intro K1 hK1
                  go_big_quiet_op
                  refine hK1 _ ?_
                  clear hK1 K1
                  intro K1 hK1
                  go_big_quiet_op
                  refine hK1 _ ?_
                  clear hK1 K1
                  intro K1 hK1
                  go_big_quiet_op
                  refine hK1 _ ?_
                  clear hK1 K1
                  intro K1 hK1
                  go_big_quiet_op
                  refine hK1 _ ?_
                  clear hK1 K1
                  intro K1 hK1
                  go_big_quiet_op
                  refine hK1 _ ?_
                  clear hK1 K1
                  intro K1 hK1
                  go_big_quiet_op
                  refine hK1 _ ?_
                  clear hK1 K1
                  intro K1 hK1
                  go_big_quiet_op
                  refine hK1 _ ?_
                  clear hK1 K1
                  intro K1 hK1
                  go_big_quiet_op
                  refine hK1 _ ?_
                  clear hK1 K1
                  intro K1 hK1
                  go_big_quiet_op
                  refine hK1 _ ?_
                  clear hK1 K1
                  intro K1 hK1
                  go_big_quiet_op
                  refine hK1 _ ?_
                  clear hK1 K1
                  intro K1 hK1
                  go_big_quiet_op
                  refine hK1 _ ?_
                  clear hK1 K1
                  refine hK _ ?_
                  clear hK K
                  refine wpLate_big (some 151) w rfl (.bool false) rfl (by kernel_rfl) (fun wk hwk => ?_) ?_
                  · generalize hA : Act.eval _ = ρ
                    have s135 : ρ (.tmp 135) = .bool false := by rw [← hA]; kernel_rfl
                    have k1 : ρ (.const (.bool false)) = .bool false := by rw [← hA]; kernel_rfl
                    clear hA
                    go_simp
                  go_big_quiet_op
                  refine wpLate_bigPasses (some 152) [some 153, some 154, some 155, some 156, some 157, some 158, some 159, some 160, some 161, some 162, some 163, some 164, some 165, some 166, some 167, some 168, some 169] 17 w rfl (.bool false) rfl (by kernel_rfl) (fun wk hwk => ?_) (by decide) rfl (by kernel_rfl) (fun K hK K1 hK1 => ?_)
                  · generalize hA : Act.eval _ = ρ
                    have s151 : ρ (.tmp 151) = .bool false := by rw [← hA]; kernel_rfl
                    clear hA
                    go_simp
                  go_big_quiet_op
                  refine hK1 _ ?_
                  clear hK1 K1
                  intro K1 hK1
                  go_big_quiet_op
                  refine hK1 _ ?_
                  clear hK1 K1
                  intro K1 hK1
                  go_big_quiet_op
                  refine hK1 _ ?_
                  clear hK1 K1
                  intro K1 hK1
                  go_big_quiet_op
                  refine hK1 _ ?_
                  clear hK1 K1
                  intro K1 hK1
                  go_big_quiet_op
                  refine hK1 _ ?_
                  clear hK1 K1
                  intro K1 hK1
                  go_big_quiet_op
                  refine hK1 _ ?_
                  clear hK1 K1
                  intro K1 hK1
                  go_big_quiet_op
                  refine hK1 _ ?_
                  clear hK1 K1
                  intro K1 hK1
                  go_big_quiet_op
                  refine hK1 _ ?_
                  clear hK1 K1
                  intro K1 hK1
                  go_big_quiet_op
                  refine hK1 _ ?_
                  clear hK1 K1
                  intro K1 hK1
                  go_big_quiet_op
                  refine hK1 _ ?_
                  clear hK1 K1
                  intro K1 hK1
                  go_big_quiet_op
                  refine hK1 _ ?_
                  clear hK1 K1
                  intro K1 hK1
                  go_big_quiet_op
                  refine hK1 _ ?_
                  clear hK1 K1
                  intro K1 hK1
                  go_big_quiet_op
                  refine hK1 _ ?_
                  clear hK1 K1
                  intro K1 hK1
                  go_big_quiet_op
                  refine hK1 _ ?_
                  clear hK1 K1
                  intro K1 hK1
                  go_big_quiet_op
                  refine hK1 _ ?_
                  clear hK1 K1
                  intro K1 hK1
                  go_big_quiet_op
                  refine hK1 _ ?_
                  clear hK1 K1
                  intro K1 hK1
                  go_big_quiet_op
                  refine hK1 _ ?_
                  clear hK1 K1
                  intro K1 hK1
                  go_big_quiet_op
                  refine hK1 _ ?_
                  clear hK1 K1
                  refine hK _ ?_
                  clear hK K
                  refine wpLate_big (some 170) w rfl (.bool false) rfl (by kernel_rfl) (fun wk hwk => ?_) ?_
                  · generalize hA : Act.eval _ = ρ
                    have s152 : ρ (.tmp 152) = .bool false := by rw [← hA]; kernel_rfl
                    have k1 : ρ (.const (.bool false)) = .bool false := by rw [← hA]; kernel_rfl
                    clear hA
                    go_simp
                  go_big_quiet_op
                  refine wpLate_nil (fun w9 hw9 => ?_)
                  have H9 : Hid (GrL w B ⟨kind, by_, no, seen, at_, many, text⟩ (.slice pa sa.size pc) pz (.slice qa sb.size qc) qz w9) := hw9
                  clear hw9
                  go_wp2_with fail
                  go_meet
                  exact cut_no (.inl (by rw [HRAN.out]; exact HJ.out)) H9.out
              case rest =>
                obtain ⟨g, rfl, hg1, hg2, hW⟩ := hcut
                have HW2 : Hid (GrL w B ⟨kind, by_, no, seen, at_, many, text⟩ (.slice pa sa.size pc) pz (.slice qa sb.size qc) qz wc) := hW
                clear hW HW
                cases g
                · have HSJ := hg2 rfl
                  clear hg1 hg2
                  obtain ⟨_, c0, c1, c2, c3, c4, c5, c6⟩ := HW2.out.deed
                  simp only [Nat.zero_add] at c0 c1 c2 c3 c4 c5 c6
                  obtain ⟨hm0, hm1⟩ := HF.out.ml
                  by_cases hk : kind = 1
                  · obtain ⟨f1, f2⟩ := HF.out.put hk i j hia hib HST.out hja HSJ
                    have ht2 : text.size ≤ 200 := by omega
                    have f3 : ((sb.size : Int) == (sa.size : Int) + (text.size : Int)) = true := by simp; omega
                    have f4 : ((i : Int) + (j : Int) == (sa.size : Int)) = true := by simp; omega
                    have hjz : (j : Int) ≤ 200 := by omega
                    have hiz : (i : Int) ≤ 200 := by omega
                    have HBE : Hid (Below w.heap.size w wc) := HW2.out.below
                    subst hk
                    clear f1 f2 HSJ
                    go_wp2_with fail
                    go_ret
                    exact ⟨rfl, HBE.out⟩
                  · obtain ⟨f1, f2⟩ := HF.out.take hk
                    have hkb : (kind == 1) = false := by simpa using hk
                    have f3 : decide ((sb.size : Int) ≤ (sa.size : Int)) = true := decide_eq_true (by omega)
                    have f4 : decide ((sa.size : Int) - many ≤ (sb.size : Int)) = true := decide_eq_true f2
                    have HBE : Hid (Below w.heap.size w wc) := HW2.out.below
                    clear f2 HSJ
                    go_wp2_with fail
                    go_ret
                    exact ⟨rfl, HBE.out⟩
                · obtain ⟨hj2, hj3⟩ := hg1 rfl
                  clear hg1 hg2
                  go_wp2_with fail
                  go_roundw
                  case rel => exact ⟨j + 1, by omega, by omega, by go_num, HW2.out⟩
                  case measure => simp [intOf]; omega
          · obtain ⟨hi1, hi2⟩ := hg1 rfl
            clear hg1 hg2
            go_wp2_with fail
            go_roundw
            case rel => exact ⟨i + 1, by omega, by omega, by go_num, HW2.out⟩
            case measure => simp [intOf]; omega
    · have hnd : isD t.b n = false := by unfold isD; exact decide_eq_false hn
      rw [hnd]
      clear hnd hn
      obtain ⟨d, hd⟩ : ∃ d, nthD t.b n = d := ⟨_, rfl⟩
      rw [hd]
      clear hd
      obtain ⟨kind, by_, no, seen, at_, many, text⟩ := d
      have HB5 : Hid (Below w.heap.size w (w4.alloc (.cells #[.int .i64 kind, .int .i64 by_, .int .i64 no, .int .i64 seen, .int .i64 at_, .int .i64 many, .string text] 39))) := below_after HB4.out (below1 _ _)
      clear HB4
      go_wp2_with fail
      go_ret
      exact ⟨rfl, HB5.out⟩
  · go_wp2_with fail
    go_ret
    exact ⟨rfl, HB0.out⟩

theorem law_storygrows (w : World) {v : Value} {xs : List Tst} (h : TLst w v xs) (n : Int) :
    Calls Try.prog 11 #[v, .int .i64 n] w fun e w' => e = .returned (.bool true) ∧ Below w.heap.size w w' := storyGrows_any v xs n w h

end Go.Proofs.Ytfpemdbiplfkgac
