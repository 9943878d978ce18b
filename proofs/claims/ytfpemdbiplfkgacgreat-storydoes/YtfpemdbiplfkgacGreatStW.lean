/-
  The law's own example of a story (storyBegun).
-/
import Derived.Test.YtfpemdbiplfkgacGreatStB
import Derived.Test.YtfpemdbiplfkgacGreatBkW
import Derived.Test.YtfpemdbiplfkgacGreatFSame
namespace Go.Proofs.YtfpemdbiplfkgacGreat
open Go Go.RowKit

def stS : List Tst := [⟨1, 0, 0, 0, ⟨#[]⟩⟩, ⟨2, 0, 0, 0, ⟨#[97, 98]⟩⟩, ⟨4, 0, 0, 0, ⟨#[]⟩⟩]
def stT : Twn := playT twn0 stS
theorem stL : stT.b.ds.length = 1 := by decide +kernel
theorem stX : (thS stT.b 1).map (·.c) = [97, 98] := by decide +kernel
theorem stY : (thS stT.b 1).map (·.by_) = [0, 0] := by decide +kernel
theorem stI : inS stT.b 1 = true := by decide +kernel
theorem stW : whS (thS stT.b 1) ⟨0, 0, 1, 1, 0, 0, 0⟩ = 1 := by decide +kernel
theorem stStr : strOfNums [97, 98] = ⟨#[97, 98]⟩ := by rfl

abbrev stObj : Obj := .cells #[.int .i64 1, .int .i64 0, .int .i64 0, .int .i64 0, .string ⟨#[]⟩, .int .i64 2, .int .i64 0, .int .i64 0, .int .i64 0, .string ⟨#[97, 98]⟩, .int .i64 4, .int .i64 0, .int .i64 0, .int .i64 0, .string ⟨#[]⟩] 68

theorem stS_lst (w : World) : TLst (w.alloc stObj) (.slice (some ⟨w.heap.size, 0, none⟩) 3 3) stS := by
  refine ⟨_, 3, 3, rfl, rfl, Nat.le_refl _, .inr ⟨_, 0, rfl, by simp, fun i hi => ?_⟩⟩
  have hi3 : i < 3 := hi
  rcases (show i = 0 ∨ i = 1 ∨ i = 2 by omega) with rfl | rfl | rfl
  · refine ⟨by simp, ?_, ?_, ?_, ?_, ?_⟩ <;> simp [go_sem, stS]
  · refine ⟨by simp, ?_, ?_, ?_, ?_, ?_⟩ <;> simp [go_sem, stS]
  · refine ⟨by simp, ?_, ?_, ?_, ?_, ?_⟩ <;> simp [go_sem, stS]

theorem stI_lst (w : World) : ILst (w.alloc (.cells #[.int .i64 0, .int .i64 0] 3)) (.slice (some ⟨w.heap.size, 0, none⟩) 2 2) [0, 0] := by
  refine ⟨_, 2, 2, rfl, rfl, Nat.le_refl _, .inr ⟨_, 0, rfl, by simp, fun i hi => ?_⟩⟩
  have hi3 : i < 2 := hi
  rcases (show i = 0 ∨ i = 1 by omega) with rfl | rfl <;> simp [go_sem]

set_option maxRecDepth 20000 in
set_option maxHeartbeats 3200000 in
theorem sbegun_any (w : World) : Calls Tryz.prog 31 #[] w fun e w' => e = .returned (.bool true) ∧ Below w.heap.size w w' := by
  go_enter Tryz.func31, Tryz.ntmps31
  go_wp2_with fail
  refine (tbegun_any _).mono ?_
  rintro e w0 ⟨rfl, hb0⟩
  have HB0 : Hid (Below w.heap.size w w0) := hb0
  clear hb0
  go_wp2_with fail
  refine (played_at _ stS _ (stS_lst w0) (by decide)).mono ?_
  rintro e w1 ⟨D, G, pw, rfl, hd⟩
  have HB1 : Hid (Below w.heap.size w w1) := below_after (below_after HB0.out (below1 _ _)) hd.below
  have H1 : Hid (∃ base w0 S, DkAny base w0 S D G pw stT w1) := ⟨_, _, _, hd⟩
  have g0 := hd.cells.book
  have hlt0 := hd.cells.lt
  clear hd HB0
  go_wp2_with fail
  clear g0 hlt0
  obtain ⟨base, wz, S, hd⟩ := H1.out
  refine (of_dk hd).mono ?_
  rintro e w2 ⟨P, rfl, hs, hb⟩
  have H2 : Hid (StTo w2 w1.heap.size P stT.b) := hs
  have HB2 : Hid (Below w.heap.size w w2) := below_after HB1.out hb
  clear hs hb hd H1 HB1
  generalize w1.heap.size = lo at *
  go_wp2_with fail
  refine (text_st H2.out 1).mono ?_
  rintro e w3 ⟨rfl, hb⟩
  rw [stX, stI, stStr]
  have H3 : Hid (StTo w3 lo P stT.b) := H2.out.below hb
  have HB3 : Hid (Below w.heap.size w w3) := below_after HB2.out hb
  clear hb H2 HB2
  go_wp2_with fail
  refine (by_st H3.out 1).mono ?_
  rintro e w4 ⟨v4, rfl, hi, hb⟩
  rw [stI]
  rw [stY] at hi
  have H4 : Hid (StTo w4 lo P stT.b) := H3.out.below hb
  have HB4 : Hid (Below w.heap.size w w4) := below_after HB3.out hb
  have HI : Hid (ILst w4 v4 [0, 0]) := hi
  obtain ⟨a4, c4, rfl⟩ := hi.len
  clear hb hi H3 HB3
  go_wp2_with fail
  refine (sameInts_eq (HI.out.below (below1 _ _)) (stI_lst w4) (by decide)).mono ?_
  rintro e w5 ⟨rfl, hb⟩
  have H5 : Hid (StTo w5 lo P stT.b) := (H4.out.below (below1 _ _)).below hb
  have HB5 : Hid (Below w.heap.size w w5) := below_after (below_after HB4.out (below1 _ _)) hb
  clear hb HI H4 HB4
  go_wp2_with fail
  refine (len_st H5.out (by rw [stL]; decide)).mono ?_
  rintro e w6 ⟨rfl, hw6⟩
  rw [hw6, stL]
  clear hw6 w6
  go_wp2_with fail
  refine (where_st H5.out 1 ⟨0, 0, 1, 1, 0, 0, 0⟩).mono ?_
  rintro e w7 ⟨rfl, hb⟩
  rw [stW]
  have HB7 : Hid (Below w.heap.size w w7) := below_after HB5.out hb
  clear hb H5 HB5
  go_wp2_with fail
  go_ret
  exact ⟨rfl, HB7.out⟩

end Go.Proofs.YtfpemdbiplfkgacGreat

/-
  The document's own answers: the reference's Told and WhereIs.
-/
namespace Go.Proofs.YtfpemdbiplfkgacGreat
open Go Go.RowKit

/-! Mathematics. -/

theorem all_part {b : Bk} (h : Good b) {i : Nat} (hi : i ≤ b.ds.length) : (allL [] 0 (b.ds.take i)).2.1 = 0 := by
  by_cases hl : i < b.ds.length
  · have e : b.ds = b.ds.take i ++ b.ds[i] :: b.ds.drop (i + 1) := by
      rw [← List.drop_eq_getElem_cons hl, List.take_append_drop]
    have h0 := h.all0
    rw [e] at h0
    exact (allL_cut _ [] 0 h0).1
  · rw [List.take_of_length_le (by omega)]; exact h.all0

/-- What the document tells is what the story tells. -/
theorem told_text {b : Bk} (hg : Good b) {n : Nat} (hn : n ≤ b.ds.length) : vw (charsTo b.ds n) 1073741823 (-1) = (thS b (n : Int)).map (·.c) := by
  rw [thS_in hn]
  have e := story_tx hg hn
  unfold txS at e
  rw [e]
  unfold vw visL
  rw [List.filter_congr (fun x hx => sees_text hg hn (by have := hg.small; omega) hx)]
theorem told_vis {b : Bk} (hg : Good b) {n : Nat} (hn : n ≤ b.ds.length) : thenL (charsTo b.ds n) (n : Int) = visL b.ds n := by
  unfold thenL visL
  exact List.filter_congr (fun x hx => sees_text hg hn (Int.le_refl _) hx)
theorem told_by {b : Bk} (hg : Good b) {n : Nat} (hn : n ≤ b.ds.length) : (thenL (charsTo b.ds n) (n : Int)).map (·.by_) = (thS b (n : Int)).map (·.by_) := by
  rw [thS_in hn, told_vis hg hn]
  exact (story_by hg hn).symm
theorem told_where {b : Bk} (hg : Good b) {n : Nat} (hn : n ≤ b.ds.length) (x : Ch) : whS (thenL (charsTo b.ds n) (n : Int)) x = whS (thS b (n : Int)) x := by
  rw [thS_in hn, told_vis hg hn]
  exact (story_where hg hn x).symm

theorem wh_at {a r : List Ch} {x y : Ch} (h1 : ∀ z ∈ a, sameB z x = false) (h2 : sameB y x = true) : whS (a ++ y :: r) x = a.length := by
  refine wh_some (by simp) (by simpa using h2) (fun j hj => ?_)
  rw [List.getElem_append_left hj]
  exact h1 _ (List.getElem_mem hj)

theorem then_split {l : List Ch} {i : Nat} (hi : i < l.length) {n : Int} (h : seesC n (-1) l[i] = true) : thenL l n = thenL (l.take i) n ++ l[i] :: thenL (l.drop (i + 1)) n := by
  have e : l = l.take i ++ l[i] :: l.drop (i + 1) := by
    rw [← List.drop_eq_getElem_cons hi, List.take_append_drop]
  unfold thenL
  conv => lhs; rw [e]
  rw [List.filter_append, List.filter_cons, if_pos h]

/-! A slice of deeds. -/

theorem elem_deeds : Tryz.prog.elem 38 = 41 := by kernel_rfl
theorem und_deeds : Tryz.prog.underlying 38 = some (.slice (Tryz.prog.elem 38)) := by kernel_rfl
theorem size_deed (w : World) : (sizeOf 41).run Tryz.prog w = .ok 7 w := by
  obtain ⟨i0, hi, _, hz1, _⟩ := info_parts Tryz.infoDeed
  simp [sizeOf, typeInfo, hi, hz1]

theorem run_take_deeds (a : Option Addr) (len cap k : Nat) (hk : k ≤ cap) (w : World) : (Instr.sliceAt 38 (.slice a len cap) none (some (.int .i64 k)) none).run Tryz.prog w = .ok (sliced a 0 k cap 7) w := by
  rw [run_sliceAt_slice _ _ _ _ _ _ und_deeds, run_slice_h _ _ _ _ _ und_deeds _ _ (by omega) (by omega), elem_deeds, size_deed]
  rfl

theorem dlst_take {w : World} {a : Option Addr} {cap : Nat} {ds : List Dd} (h : DLst w (.slice a ds.length cap) ds) {k : Nat} (hk : k ≤ ds.length) : DLst w (sliced a 0 k cap 7) (ds.take k) := by
  obtain ⟨a', len, cap', he, h1, h2, h3⟩ := h
  simp only [Value.slice.injEq] at he
  obtain ⟨rfl, rfl, rfl⟩ := he
  have e : (if cap = 0 then a else a.map (·.add (0 * 7))) = a := by
    split
    · rfl
    · cases a with
      | none => rfl
      | some ad => rcases h3 with h3 | ⟨b, off, h3, _⟩
                   · obtain ⟨b, off, spot⟩ := ad
                     cases spot <;> simp [Addr.add]
                   · cases h3
                     simp [addr_add]
  refine ⟨a, k, cap, ?_, by rw [List.length_take]; omega, by omega, ?_⟩
  · unfold sliced
    rw [e]
    rfl
  · rcases h3 with h3 | ⟨b, off, rfl, hr⟩
    · exact .inl (by omega)
    · exact .inr ⟨b, off, rfl, hr.lt, fun i hi => by
        rw [List.getElem_take]
        exact hr.at_ i (by rw [List.length_take] at hi; omega)⟩

theorem dtaken_val {ad : Option Addr} {cap k : Nat} {ds : List Dd} (hk : k ≤ ds.length) (hc : ds.length ≤ cap) : ∃ aa na ca, (∀ w, (Instr.sliceAt 38 (.slice ad ds.length cap) none (some (.int .i64 k)) none).run Tryz.prog w = .ok (.slice aa na ca) w) ∧ ∀ wk, DLst wk (.slice ad ds.length cap) ds → DLst wk (.slice aa na ca) (ds.take k) :=
  ⟨_, _, _, run_take_deeds _ ds.length cap k (by omega), fun _ h => dlst_take h hk⟩

theorem dlst_len {w : World} {v : Value} {ds : List Dd} (h : DLst w v ds) : ∃ a cap, v = .slice a ds.length cap ∧ ds.length ≤ cap := by
  obtain ⟨a, len, cap, rfl, rfl, h2, _⟩ := h
  exact ⟨a, cap, rfl, h2⟩

/-! Told. -/

/-- In the middle of Told: the bytes, and who put them in. -/
structure ToI (w w2 : World) (lv : Value) (L : List Ch) (v : Value) (zs : List Int) (wk : World) : Prop where
  by_ : ByI w w2 v zs wk
  lst : Lst w2 lv L
theorem ToI.after {w w2 wk w' : World} {lv v : Value} {L : List Ch} {zs : List Int} (h : ToI w w2 lv L v zs wk) (hb : Below wk.heap.size wk w') : ToI w w2 lv L v zs w' := ⟨h.by_.after hb, h.lst⟩

set_option maxRecDepth 20000 in
set_option maxHeartbeats 3200000 in
theorem told_any {w : World} {v : Value} {b : Bk} (h : DLst w v b.ds) (hg : Good b) (n : Int) :
    Calls Tryz.prog 37 #[v, .int .i64 n] w fun e w' => ∃ u, e = .returned (.tuple #[.string (strOfNums ((thS b n).map (·.c))), u, .bool (inS b n)]) ∧ ILst w' u ((thS b n).map (·.by_)) ∧ Below w.heap.size w w' := by
  have HD : Hid (DLst w v b.ds) := h
  have HG : Hid (Good b) := hg
  have hsm : b.ds.length ≤ 120 := hg.small
  obtain ⟨a, cap, rfl, hcap⟩ := dlst_len h
  obtain ⟨i0, hi, hz0, hz1, hz2⟩ := info_parts infoInt
  by_cases hn : 0 ≤ n ∧ n ≤ b.ds.length
  · obtain ⟨m, rfl⟩ : ∃ m : Nat, n = (m : Int) := ⟨n.toNat, by omega⟩
    have hm : m ≤ b.ds.length := by omega
    have HIN : Hid (inS b (m : Int) = true) := inS_in hm
    have HTX : Hid (vw (charsTo b.ds m) 1073741823 (-1) = (thS b (m : Int)).map (·.c)) := told_text hg hm
    have HBY : Hid ((thenL (charsTo b.ds m) (m : Int)).map (·.by_) = (thS b (m : Int)).map (·.by_)) := told_by hg hm
    have HAL : Hid ((allL [] 0 (b.ds.take m)).2.1 = 0) := all_part hg hm
    have HTM : Hid (Tame (charsTo b.ds m)) := made_tame (chars_made hg m hm).1 (by omega)
    have hcl : (charsTo b.ds m).length ≤ 200 := (chars_made hg m hm).2
    obtain ⟨aa, na, ca, hva, hvl⟩ := dtaken_val (ad := a) hm hcap
    have HVL : Hid (∀ wk, DLst wk (.slice a b.ds.length cap) b.ds → DLst wk (.slice aa na ca) (b.ds.take m)) := hvl
    have HTK : Hid ((b.ds.take m).length ≤ 1000) := by show _ ≤ _; rw [List.length_take]; omega
    have hmi : (m : Int) ≤ (b.ds.length : Int) := by omega
    clear h hg hvl hn
    go_enter Tryz.func37, Tryz.ntmps37
    go_wp2_with fail
    refine (refAll_lst (HVL.out _ HD.out) HTK.out HAL.out).mono ?_
    rintro e w1 ⟨v1, rfl, ho0, hb⟩
    have ho : Own w1 w.heap.size v1 (charsTo b.ds m) := ho0
    have HO1 : Hid (Lst w1 v1 (charsTo b.ds m)) := ho.lst
    have HB1 : Hid (Below w.heap.size w w1) := hb
    obtain ⟨a1, c1, rfl, hcap1⟩ := ho.lst.len
    clear ho ho0 hb hva HVL HAL HTK
    obtain ⟨L, hL⟩ : ∃ L, charsTo b.ds m = L := ⟨_, rfl⟩
    rw [hL] at HTX HBY HTM HO1 hcl hcap1 ⊢
    clear hL
    have H2 : Hid (ToI w (w1.alloc (.cells #[.int .i64 0, .int .i64 0] 46)) (.slice a1 L.length c1) L (.slice none 0 0) [] (w1.alloc (.cells #[.int .i64 0, .int .i64 0] 46))) := ⟨⟨Below.refl _ _, ownI_nil _ _⟩, HO1.out.below (below1 _ _)⟩
    have HB2 : Hid (Below w.heap.size w (w1.alloc (.cells #[.int .i64 0, .int .i64 0] 46))) := below_after HB1.out (below1 _ _)
    clear HO1 HB1
    go_wp2_with fail
    generalize hw2 : World.alloc _ _ = w2 at *
    clear hw2
    go_loopw [9, 10] (fun u i wr => ∃ k : Nat, k ≤ L.length ∧ i = .int .i64 k ∧ Hid (ToI w w2 (.slice a1 L.length c1) L u ((thenL (L.take k) (m : Int)).map (·.by_)) wr)) (fun _ i _ => L.length - (intOf i).toNat)
    case atStart => exact ⟨0, Nat.zero_le _, rfl, H2.out⟩
    case round =>
      obtain ⟨k, hk, rfl, HK⟩ := hrel
      clear H2
      by_cases hkl : k < L.length
      · have hki : (k : Int) < (L.length : Int) := by omega
        have HN : Hid ((thenL (L.take (k + 1)) (m : Int)).map (·.by_) = (thenL (L.take k) (m : Int)).map (·.by_) ++ if seesC (m : Int) (-1) L[k] = true then [L[k].by_] else []) := by
          show List.map _ _ = _
          rw [take_snoc L k hkl, thenL_snoc, List.map_append]
          by_cases c : seesC (m : Int) (-1) L[k] = true <;> simp [c]
        have hzl : ((thenL (L.take k) (m : Int)).map (·.by_)).length ≤ 200 := by
          rw [List.length_map]
          have := thenL_le (L.take k) (m : Int)
          rw [List.length_take] at this
          omega
        obtain ⟨bb, off, rfl, hr⟩ : ∃ b off, a1 = some ⟨b, off, none⟩ ∧ Row wr b off L := by
          obtain ⟨b1, o1, e1, _, r1⟩ := (HK.out.lst.below HK.out.by_.below).row (by omega)
          exact ⟨b1, o1, e1, r1⟩
        have hbl := hr.lt
        have hat := hr.at_ k hkl
        obtain ⟨t1, _, t2, t3⟩ := tame_get HTM.out k hkl
        generalize L[k] = x at *
        have HT : Hid (0 ≤ x.out ∧ 0 ≤ x.gone ∧ x.gone ≤ 15) := ⟨t1, t2, t3⟩
        have HAT : Hid (At wr bb (off + k * 7) x) := hat
        generalize (thenL (L.take k) (m : Int)).map (·.by_) = zs at *
        have HZ : Hid (zs.length ≤ 200) := hzl
        obtain ⟨h0, h1, h2, h3, h4, h5, h6⟩ := hat
        clear hr hzl t1 t2 t3
        go_wp2_with fail
        refine (refSees_any x _ _ _ HT.out.1 (by have := HT.out.2; omega) (by have := HT.out.2; omega)).mono ?_
        rintro e w4 ⟨rfl, hb4⟩
        have H4 : Hid (ToI w w2 (.slice (some ⟨bb, off, none⟩) L.length c1) L u9 zs w4) := HK.out.after hb4
        have hat4 : At w4 bb (off + k * 7) x := by
          have hx := HAT.out
          obtain ⟨hc, hf⟩ := bcell hb4
          unfold At at hx ⊢
          simp only [hc _ _ hbl]
          exact hx
        have hbl4 : bb < w4.heap.size := by have := hb4.size; omega
        clear h0 h1 h2 h3 h4 h5 h6 hb4 HK HAT hbl
        cases hs : seesC (m : Int) (-1) x
        · rw [hs] at HN
          clear hat4 hbl4
          go_wp2
          go_roundw
          case rel => exact ⟨k + 1, by omega, by go_num, by show ToI _ _ _ _ _ _ _; rw [HN.out]; simpa using H4.out⟩
          case measure => simp [intOf]; omega
        · rw [hs] at HN
          obtain ⟨h0, h1, h2, h3, h4, h5, h6⟩ := hat4
          have H5 : Hid (ToI w w2 (.slice (some ⟨bb, off, none⟩) L.length c1) L u9 zs (w4.alloc (.cells #[.int .i64 x.by_] 3))) := H4.out.after (below1 _ _)
          go_wp2_with (at_builtin; refine wpList_append_own _ rfl (.tmp 38) (.tmp 44) 80 rfl w2.heap.size 3 i0 (.int .i64 0) 1 8 Tryz.underlying80 hi hz0 hz1 hz2 rfl (by decide) u9 zs.length (cellsI zs) rfl H5.out.by_.own ⟨w4.heap.size, 0, none⟩ 1 1 [.int .i64 x.by_] (by simp [go_sem]) rfl (src_newI _ _) ?c2 ?c3 ?c4 ?c5 ?_)
          case c2 => intro u hu; simp at hu; subst hu; rfl
          case c3 => have := HZ.out; unfold maxLen; omega
          case c4 => have := HZ.out; omega
          case c5 => exact H5.out.by_.below.size
          · intro v' w6 hown' hgrow _
            have H6 : Hid (ToI w w2 (.slice (some ⟨bb, off, none⟩) L.length c1) L v' ((thenL (L.take (k + 1)) (m : Int)).map (·.by_)) w6) := by
              show ToI _ _ _ _ _ _ _
              rw [HN.out]
              exact ⟨by simpa using H5.out.by_.grown hown' hgrow, H5.out.lst⟩
            clear hgrow hown' h0 h1 h2 h3 h4 h5 h6 H4 H5 hbl4
            go_wp2
            go_roundw
            case rel => exact ⟨k + 1, by omega, by go_num, H6.out⟩
            case measure => simp [intOf]; omega
      · obtain rfl : k = L.length := by omega
        have HE : Hid (L.take L.length = L) := List.take_length
        rw [HE.out] at HK
        go_wp2_with fail
        refine (textOf_any (HK.out.lst.below HK.out.by_.below) (by omega) HTM.out).mono ?_
        rintro e w5 ⟨rfl, hb5⟩
        rw [HTX.out]
        have HK5 : Hid (ToI w w2 (.slice a1 L.length c1) L u9 ((thenL L (m : Int)).map (·.by_)) w5) := HK.out.after hb5
        clear hb5 HK
        obtain ⟨s, hs⟩ : ∃ s, strOfNums ((thS b (m : Int)).map (·.c)) = s := ⟨_, rfl⟩
        have HSS : Hid (strOfNums ((thS b (m : Int)).map (·.c)) = s) := hs
        rw [hs]
        clear hs
        go_wp2_with fail
        go_ret3
        refine ⟨u9, by rw [HSS.out, HIN.out]; rfl, ?_, below_after HB2.out HK5.out.by_.below⟩
        rw [← HBY.out]
        exact HK5.out.by_.own.ilst
  · have HIN : Hid (inS b n = false) := by show inS b n = false; unfold inS; exact decide_eq_false hn
    have HTH : Hid (thS b n = []) := by show thS b n = _; unfold thS; rw [if_neg hn]
    clear h
    by_cases h0 : n < 0
    · go_enter Tryz.func37, Tryz.ntmps37
      go_wp2
      go_ret3
      refine ⟨.slice none 0 0, by rw [HTH.out, HIN.out]; rfl, ?_, Below.refl _ _⟩
      rw [HTH.out]
      exact (ownI_nil w 0).ilst
    · have h1 : (b.ds.length : Int) < n := by
        have : ¬ n ≤ (b.ds.length : Int) := fun e => hn ⟨by omega, e⟩
        omega
      go_enter Tryz.func37, Tryz.ntmps37
      go_wp2
      go_ret3
      refine ⟨.slice none 0 0, by rw [HTH.out, HIN.out]; rfl, ?_, Below.refl _ _⟩
      rw [HTH.out]
      exact (ownI_nil w 0).ilst

end Go.Proofs.YtfpemdbiplfkgacGreat

/-
  The document's own answer: the reference's WhereIs.
-/
namespace Go.Proofs.YtfpemdbiplfkgacGreat
open Go Go.RowKit

/-- A list and a byte in a box. -/
structure WsI (w : World) (v : Value) (l : List Ch) (y : Ch) (wk : World) : Prop where
  box : FInv w y wk
  lst : Lst wk v l
theorem WsI.after {w wk w' : World} {v : Value} {l : List Ch} {y : Ch} (h : WsI w v l y wk) (hb : Below wk.heap.size wk w') : WsI w v l y w' := ⟨h.box.after hb, h.lst.below hb⟩

/-- So far it is not there. -/
structure NotYet (L : List Ch) (n : Int) (x : Ch) (k c : Nat) : Prop where
  cnt : c = (thenL (L.take k) n).length
  no : ∀ y ∈ thenL (L.take k) n, sameB y x = false

theorem notYet_miss {L : List Ch} {n : Int} {x : Ch} {k c : Nat} (h : NotYet L n x k c) (hk : k < L.length) (hs : seesC n (-1) L[k] = false) : NotYet L n x (k + 1) c := by
  have e : thenL (L.take (k + 1)) n = thenL (L.take k) n := by rw [take_snoc L k hk, thenL_snoc, hs]; simp
  exact ⟨by rw [e]; exact h.cnt, by rw [e]; exact h.no⟩
theorem notYet_other {L : List Ch} {n : Int} {x : Ch} {k c : Nat} (h : NotYet L n x k c) (hk : k < L.length) (hs : seesC n (-1) L[k] = true) (hx : sameB L[k] x = false) : NotYet L n x (k + 1) (c + 1) := by
  have e : thenL (L.take (k + 1)) n = thenL (L.take k) n ++ [L[k]] := by rw [take_snoc L k hk, thenL_snoc, hs]; simp
  refine ⟨by rw [e, List.length_append, ← h.cnt]; rfl, fun y hy => ?_⟩
  rw [e, List.mem_append] at hy
  rcases hy with hy | hy
  · exact h.no y hy
  · rw [List.mem_singleton] at hy
    rw [hy]
    exact hx
theorem notYet_is {L : List Ch} {n : Int} {x : Ch} {k c : Nat} (h : NotYet L n x k c) (hk : k < L.length) (hs : seesC n (-1) L[k] = true) (hx : sameB L[k] x = true) : whS (thenL L n) x = c := by
  rw [then_split hk hs, wh_at h.no hx, h.cnt]
theorem notYet_end {L : List Ch} {n : Int} {x : Ch} {c : Nat} (h : NotYet L n x L.length c) : whS (thenL L n) x = -1 := by
  have := h.no
  rw [List.take_length] at this
  exact wh_none this

set_option maxRecDepth 20000 in
set_option maxHeartbeats 3200000 in
theorem whereIs_any {w : World} {v : Value} {b : Bk} (h : DLst w v b.ds) (hg : Good b) (n : Int) (x : Ch) :
    Calls Tryz.prog 41 #[v, .int .i64 n, chV x] w fun e w' => e = .returned (.int .i64 (whS (thS b n) x)) ∧ Below w.heap.size w w' := by
  have hsm : b.ds.length ≤ 120 := hg.small
  obtain ⟨a, cap, rfl, hcap⟩ := dlst_len h
  obtain ⟨c, by_, no, k_, inn, out, gone⟩ := x
  have HF : Hid (FInv w ⟨c, by_, no, k_, inn, out, gone⟩ (w.alloc (.cells #[.int .u8 c, .int .i64 by_, .int .i64 no, .int .i64 k_, .int .i64 inn, .int .i64 out, .int .i64 gone] 71))) := finv_start w ⟨c, by_, no, k_, inn, out, gone⟩
  by_cases hn : 0 ≤ n ∧ n ≤ b.ds.length
  · obtain ⟨m, rfl⟩ : ∃ m : Nat, n = (m : Int) := ⟨n.toNat, by omega⟩
    have hm : m ≤ b.ds.length := by omega
    have HWH : Hid (whS (thenL (charsTo b.ds m) (m : Int)) ⟨c, by_, no, k_, inn, out, gone⟩ = whS (thS b (m : Int)) ⟨c, by_, no, k_, inn, out, gone⟩) := told_where hg hm ⟨c, by_, no, k_, inn, out, gone⟩
    have HAL : Hid ((allL [] 0 (b.ds.take m)).2.1 = 0) := all_part hg hm
    have HTM : Hid (Tame (charsTo b.ds m)) := made_tame (chars_made hg m hm).1 (by omega)
    have hcl : (charsTo b.ds m).length ≤ 200 := (chars_made hg m hm).2
    obtain ⟨aa, na, ca, hva, hvl⟩ := dtaken_val (ad := a) hm hcap
    have HVD : Hid (DLst (w.alloc (.cells #[.int .u8 c, .int .i64 by_, .int .i64 no, .int .i64 k_, .int .i64 inn, .int .i64 out, .int .i64 gone] 71)) (.slice aa na ca) (b.ds.take m)) := hvl _ (h.below (below1 _ _))
    have HTK : Hid ((b.ds.take m).length ≤ 1000) := by show _ ≤ _; rw [List.length_take]; omega
    have hmi : (m : Int) ≤ (b.ds.length : Int) := by omega
    clear h hg hvl hn
    go_enter Tryz.func41, Tryz.ntmps41
    go_wp2_with fail
    refine (refAll_lst HVD.out HTK.out HAL.out).mono ?_
    rintro e w1 ⟨v1, rfl, ho0, hb⟩
    have ho : Own w1 (w.alloc (.cells #[.int .u8 c, .int .i64 by_, .int .i64 no, .int .i64 k_, .int .i64 inn, .int .i64 out, .int .i64 gone] 71)).heap.size v1 (charsTo b.ds m) := ho0
    have H1 : Hid (WsI w v1 (charsTo b.ds m) ⟨c, by_, no, k_, inn, out, gone⟩ w1) := ⟨HF.out.after hb, ho.lst⟩
    obtain ⟨a1, c1, rfl, hcap1⟩ := ho.lst.len
    clear ho ho0 hb hva HVD HAL HTK HF
    obtain ⟨L, hL⟩ : ∃ L, charsTo b.ds m = L := ⟨_, rfl⟩
    rw [hL] at HWH HTM H1 hcl hcap1 ⊢
    clear hL
    have H2 : Hid (WsI w (.slice a1 L.length c1) L ⟨c, by_, no, k_, inn, out, gone⟩ (w1.alloc (.cells #[.int .i64 0, .int .i64 0] 46))) := H1.out.after (below1 _ _)
    clear H1
    go_wp2_with fail
    generalize hw2 : World.alloc _ _ = w2 at *
    clear hw2
    go_loopw [9, 10] (fun u i wr => ∃ k q : Nat, k ≤ L.length ∧ q ≤ k ∧ u = .int .i64 q ∧ i = .int .i64 k ∧ Hid (NotYet L (m : Int) ⟨c, by_, no, k_, inn, out, gone⟩ k q) ∧ Hid (WsI w (.slice a1 L.length c1) L ⟨c, by_, no, k_, inn, out, gone⟩ wr)) (fun _ i _ => L.length - (intOf i).toNat)
    case atStart => exact ⟨0, 0, Nat.zero_le _, Nat.le_refl _, rfl, rfl, ⟨rfl, fun y hy => by simp [thenL] at hy⟩, H2.out⟩
    case round =>
      obtain ⟨k, q, hk, hqk, rfl, rfl, HNY, HK⟩ := hrel
      clear H2
      by_cases hkl : k < L.length
      · have hki : (k : Int) < (L.length : Int) := by omega
        obtain ⟨bb, off, rfl, _, hr⟩ := HK.out.lst.row (by omega)
        have hbl := hr.lt
        have hat := hr.at_ k hkl
        obtain ⟨t1, _, t2, t3⟩ := tame_get HTM.out k hkl
        obtain ⟨y, hy⟩ : ∃ y, L[k] = y := ⟨_, rfl⟩
        have HY : Hid (L[k] = y) := hy
        have HAT : Hid (∀ wk, Lst wk (.slice (some ⟨bb, off, none⟩) L.length c1) L → At wk bb (off + k * 7) y) := fun wk hh => by
          obtain ⟨b2, o2, e2, _, r2⟩ := hh.row (by omega)
          cases e2
          rw [← hy]
          exact r2.at_ k hkl
        rw [hy] at hat t1 t2 t3
        have HT : Hid (0 ≤ y.out ∧ 0 ≤ y.gone ∧ y.gone ≤ 15) := ⟨t1, t2, t3⟩
        obtain ⟨h0, h1, h2, h3, h4, h5, h6⟩ := hat
        clear hr t1 t2 t3 hy
        go_wp2_with fail
        refine (refSees_any y _ _ _ HT.out.1 (by have := HT.out.2; omega) (by have := HT.out.2; omega)).mono ?_
        rintro e w4 ⟨rfl, hb4⟩
        have H4 : Hid (WsI w (.slice (some ⟨bb, off, none⟩) L.length c1) L ⟨c, by_, no, k_, inn, out, gone⟩ w4) := HK.out.after hb4
        clear h0 h1 h2 h3 h4 h5 h6 hb4 HK hbl
        cases hs : seesC (m : Int) (-1) y
        · have HN : Hid (NotYet L (m : Int) ⟨c, by_, no, k_, inn, out, gone⟩ (k + 1) q) := notYet_miss HNY.out hkl (by rw [HY.out]; exact hs)
          clear hs
          go_wp2
          go_roundw
          case rel => exact ⟨k + 1, q, by omega, by omega, rfl, by go_num, HN.out, H4.out⟩
          case measure => simp [intOf]; omega
        · have HS : Hid (seesC (m : Int) (-1) L[k] = true) := by show _ = _; rw [HY.out]; exact hs
          clear hs
          go_wp2_with fail
          refine wp_region_quiet (C := fun wk => WsI w (.slice (some ⟨bb, off, none⟩) L.length c1) L ⟨c, by_, no, k_, inn, out, gone⟩ wk) (by kernel_rfl) (by kernel_rfl) (H4.out.after (Below.refl _ _).drew) ?_
          refine wpQuiet_step (fun K hK => ?_)
          go_simp
          refine ⟨_, fun _ _ => rfl, hK _ ?_⟩
          clear hK K
          refine wpQuiet_step (fun K hK => ?_)
          go_simp
          refine ⟨_, fun _ _ => rfl, hK _ ?_⟩
          clear hK K
          refine wpQuiet_step (fun K hK => ?_)
          go_simp
          refine ⟨.pointer (some ⟨bb, off + k * 7, none⟩), fun wk hwk => ?_, hK _ ?_⟩
          · go_simp
          clear hK K
          refine wpQuiet_step (fun K hK => ?_)
          go_simp
          refine ⟨chV y, fun wk hwk => ?_, hK _ ?_⟩
          · obtain ⟨g0, g1, g2, g3, g4, g5, g6⟩ := HAT.out wk hwk.lst
            go_simp
          clear hK K
          refine wpQuiet_step (fun K hK => ?_)
          go_simp
          refine ⟨chV ⟨c, by_, no, k_, inn, out, gone⟩, fun wk hwk => ?_, hK _ ?_⟩
          · obtain ⟨g0, g1, g2, g3, g4, g5, g6⟩ := hwk.box.at_
            simp only [Nat.zero_add] at g1 g2 g3 g4 g5 g6
            have hbs := hwk.box.size
            go_simp
          clear hK K
          refine wpQuiet_step (fun K hK => ?_)
          go_simp
          refine ⟨_, fun wk hwk => (refSame_any y ⟨c, by_, no, k_, inn, out, gone⟩ wk).mono (fun _ _ ⟨he, hb⟩ => ⟨he, hwk.after hb⟩), hK _ ?_⟩
          clear hK K
          refine wpQuiet_nil ?_
          intro w9 hw9
          have H9 : Hid (WsI w (.slice (some ⟨bb, off, none⟩) L.length c1) L ⟨c, by_, no, k_, inn, out, gone⟩ w9) := hw9
          clear hw9 H4
          cases hx : sameB y ⟨c, by_, no, k_, inn, out, gone⟩
          · have HN : Hid (NotYet L (m : Int) ⟨c, by_, no, k_, inn, out, gone⟩ (k + 1) (q + 1)) := notYet_other HNY.out hkl HS.out (by rw [HY.out]; exact hx)
            clear hx
            go_wp2
            go_roundw
            case rel => exact ⟨k + 1, q + 1, by omega, by omega, by go_num, by go_num, HN.out, H9.out⟩
            case measure => simp [intOf]; omega
          · have HE : Hid (whS (thenL L (m : Int)) ⟨c, by_, no, k_, inn, out, gone⟩ = q) := notYet_is HNY.out hkl HS.out (by rw [HY.out]; exact hx)
            clear hx
            go_wp2
            go_ret
            exact ⟨by rw [← HWH.out, HE.out]; rfl, H9.out.box.below⟩
      · obtain rfl : k = L.length := by omega
        have HE : Hid (whS (thenL L (m : Int)) ⟨c, by_, no, k_, inn, out, gone⟩ = -1) := notYet_end HNY.out
        go_wp2
        go_ret
        exact ⟨by rw [← HWH.out, HE.out]; rfl, HK.out.box.below⟩
  · have HTH : Hid (thS b n = []) := by show thS b n = _; unfold thS; rw [if_neg hn]
    clear h
    by_cases h0 : n < 0
    · go_enter Tryz.func41, Tryz.ntmps41
      go_wp2
      go_ret
      exact ⟨by rw [HTH.out]; rfl, below1 _ _⟩
    · have h1 : (b.ds.length : Int) < n := by
        have : ¬ n ≤ (b.ds.length : Int) := fun e => hn ⟨by omega, e⟩
        omega
      go_enter Tryz.func41, Tryz.ntmps41
      go_wp2
      go_ret
      exact ⟨by rw [HTH.out]; rfl, below1 _ _⟩

end Go.Proofs.YtfpemdbiplfkgacGreat
