/-
  The contracts of package story: Of, Len, then, Text, By, Where; SameInts of two that are the same.
-/
import Derived.Test.YtfpemdbiplfkgadStMem
import Derived.Test.YtfpemdbiplfkgadFPut
namespace Go.Proofs.Ytfpemdbiplfkgad
open Go Go.RowKit

/-! What a story tells. -/

def inS (b : Bk) (n : Int) : Bool := decide (0 ≤ n ∧ n ≤ b.ds.length)
def thS (b : Bk) (n : Int) : List Ch := if 0 ≤ n ∧ n ≤ b.ds.length then thenL b.chars n else []

theorem thS_le (b : Bk) (n : Int) : (thS b n).length ≤ b.chars.length := by
  unfold thS
  split
  · exact thenL_le _ _
  · exact Nat.zero_le _
theorem thS_in {b : Bk} {n : Nat} (h : n ≤ b.ds.length) : thS b n = thenL b.chars n := by
  unfold thS
  rw [if_pos ⟨by omega, by omega⟩]
theorem inS_in {b : Bk} {n : Nat} (h : n ≤ b.ds.length) : inS b n = true := by
  unfold inS
  rw [decide_eq_true_eq]
  exact ⟨by omega, by omega⟩

theorem stC_start (w : World) (n : Nat) (lv : Value) : StC (w.alloc (.cells #[.int .i64 n, lv] 52)) w.heap.size n lv := by
  refine ⟨by simp, ?_, ?_⟩ <;> simp [go_sem]

set_option maxRecDepth 20000 in
set_option maxHeartbeats 800000 in
theorem of_dk {base : Nat} {S : Nat → Prop} {w0 w : World} {D G : Nat} {pw : Nat → Nat} {t : Twn} (h : DkAny base w0 S D G pw t w) :
    Calls Try.prog 8 #[.pointer (some ⟨G, 0, none⟩)] w fun e w' => ∃ P, e = .returned (.pointer (some ⟨P, 0, none⟩)) ∧ StTo w' w.heap.size P t.b ∧ Below w.heap.size w w' := by
  have HA : Hid (DkAny base w0 S D G pw t w) := h
  clear h
  go_enter Try.func8, Try.ntmps8
  go_wp2_with fail
  refine HA.out.len.mono ?_
  rintro e w1 ⟨rfl, hw1⟩
  rw [hw1]
  clear hw1 w1
  go_wp2_with fail
  refine HA.out.chars.mono ?_
  rintro e w2 ⟨v2, rfl, ho, hb⟩
  have HO : Hid (Own w2 w.heap.size v2 t.b.chars) := ho
  have HB : Hid (Below w.heap.size w w2) := hb
  obtain ⟨a2, c2, rfl, -⟩ := ho.lst.len
  clear ho hb
  go_wp2
  go_ret
  refine ⟨w2.heap.size, rfl, ⟨_, HB.out.size, stC_start w2 _ _, HO.out.below (below1 _ _)⟩, HB.out.alloc HB.out.size _⟩

theorem ret_vb {v : Value} {x y : Bool} (h : x = y) : Ending.returned (.tuple #[v, .bool x]) = .returned (.tuple #[v, .bool y]) := by rw [h]

section
variable {w : World} {lo P : Nat} {b : Bk}

theorem len_st (h : StTo w lo P b) (hl : b.ds.length ≤ 120) :
    Calls Try.prog 9 #[.pointer (some ⟨P, 0, none⟩)] w fun e w' => e = .returned (.int .i64 ((b.ds.length : Int) + 1)) ∧ w' = w := by
  obtain ⟨lv, h⟩ := h
  have c0 := h.cells.deeds
  have hlt := h.cells.lt
  clear h
  go_enter Try.func9, Try.ntmps9
  go_wp2
  go_ret
  exact ⟨by first | rfl | (congr 2; go_num), rfl⟩

theorem src_newC (w : World) (x : Ch) {n : Nat} (hn : n = w.heap.size) : ∀ j u, (cells7 [x])[j]? = some u → (w.alloc (.cells #[.int .u8 x.c, .int .i64 x.by_, .int .i64 x.no, .int .i64 x.k, .int .i64 x.inn, .int .i64 x.out, .int .i64 x.gone] 24)).cell? ((⟨n, 0, none⟩ : Addr).add j) = some u := by
  subst hn
  refine src_cells [x] 0 ?_
  intro i hi
  obtain rfl : i = 0 := by simpa using hi
  unfold At
  simp [go_sem]

theorem lst_newC (w : World) (x : Ch) : Lst (w.alloc (.cells #[.int .u8 x.c, .int .i64 x.by_, .int .i64 x.no, .int .i64 x.k, .int .i64 x.inn, .int .i64 x.out, .int .i64 x.gone] 24)) (.slice (some ⟨w.heap.size, 0, none⟩) 1 1) [x] := by
  refine ⟨_, 1, 1, rfl, rfl, Nat.le_refl _, .inr ⟨_, 0, rfl, by simp, ?_⟩⟩
  intro i hi
  obtain rfl : i = 0 := by simpa using hi
  unfold At
  simp [go_sem]

theorem below_grownC {w wr w2 : World} {v : Value} {l : List Ch} (hb : Below w.heap.size w wr) (ho : Own wr w.heap.size v l) (hg : wr.grownBy w2 v.ownBlock) : Below w.heap.size w w2 :=
  hb.grown hg (by have := hb.size; omega) (fun j hj => (World.ownsRow.lt ho j hj).1)

/-- In the middle of it. -/
structure ThI (w : World) (v : Value) (l : List Ch) (wk : World) : Prop where
  below : Below w.heap.size w wk
  own : Own wk w.heap.size v l
theorem ThI.after {w wk w' : World} {v : Value} {l : List Ch} (h : ThI w v l wk) (hb : Below wk.heap.size wk w') : ThI w v l w' := ⟨below_after h.below hb, h.own.below hb⟩

set_option maxRecDepth 20000 in
set_option maxHeartbeats 3200000 in
theorem then_st (h : StTo w lo P b) (n : Int) :
    Calls Try.prog 19 #[.pointer (some ⟨P, 0, none⟩), .int .i64 n] w fun e w' => ∃ v, e = .returned (.tuple #[v, .bool (inS b n)]) ∧ Own w' w.heap.size v (thS b n) ∧ Below w.heap.size w w' := by
  obtain ⟨lv, h⟩ := h
  have c0 := h.cells.deeds
  have c1 := h.cells.list
  have hlt := h.cells.lt
  have HL : Hid (Lst w lv b.chars) := h.own.lst
  have hcl := small_chars (b := b)
  obtain ⟨a, cap, rfl, hcap⟩ := h.own.lst.len
  by_cases hn : 0 ≤ n ∧ n ≤ b.ds.length
  · have HIN : Hid (inS b n = true) := by show inS b n = true; unfold inS; exact decide_eq_true hn
    have HTH : Hid (thS b n = thenL b.chars n) := by show thS b n = _; unfold thS; rw [if_pos hn]
    obtain ⟨hn0, hn1⟩ := hn
    clear h
    generalize b.chars = l at *
    go_enter Try.func19, Try.ntmps19
    go_wp2
    go_loopw [6, 24] (fun v i wr => ∃ k : Nat, k ≤ l.length ∧ i = .int .i64 k ∧ Hid (ThI w v (thenL (l.take k) n) wr)) (fun _ i _ => l.length - (intOf i).toNat)
    case atStart => exact ⟨0, Nat.zero_le _, rfl, Below.refl _ _, own_nil _ _⟩
    case round =>
      obtain ⟨k, hk, rfl, HI⟩ := hrel
      clear c0 c1
      by_cases hkl : k < l.length
      · have hki : (k : Int) < (l.length : Int) := by omega
        have HN : Hid (thenL (l.take (k + 1)) n = thenL (l.take k) n ++ if seesC n (-1) l[k] = true then [l[k]] else []) := by
          show thenL _ _ = _
          rw [take_snoc l k hkl]
          exact thenL_snoc _ _ _
        have HZ : Hid ((thenL (l.take k) n).length ≤ 200) := by
          show _ ≤ _
          have := thenL_le (l.take k) n
          rw [List.length_take] at this
          omega
        obtain ⟨bb, off, rfl, hr⟩ : ∃ b off, a = some ⟨b, off, none⟩ ∧ Row wr b off l := by
          obtain ⟨b1, o1, e1, _, r1⟩ := (HL.out.below HI.out.below).row (by omega)
          exact ⟨b1, o1, e1, r1⟩
        have hbl := hr.lt
        obtain ⟨h0, h1, h2, h3, h4, h5, h6⟩ := hr.at_ k hkl
        generalize l[k] = x at *
        generalize thenL (l.take k) n = zs at *
        clear hr
        go_wp2_with fail
        refine (sees_any x _ _ _).mono ?_
        rintro e w1 ⟨rfl, hb1⟩
        have HI0 : Hid (ThI w u6 zs (wr.alloc (.cells #[.int .u8 x.c, .int .i64 x.by_, .int .i64 x.no, .int .i64 x.k, .int .i64 x.inn, .int .i64 x.out, .int .i64 x.gone] 24))) := HI.out.after (below1 _ _)
        have HI1 : Hid (ThI w u6 zs w1) := HI0.out.after hb1
        have HN' : Hid (thenL (l.take (k + 1)) n = zs ++ if seesB x.by_ x.inn x.out x.gone n (-1) = true then [x] else []) := HN
        have HA1 : Hid (At w1 wr.heap.size 0 x) := by
          obtain ⟨hc, hf⟩ := bcell hb1
          show At _ _ _ _
          unfold At
          simp only [hc _ _ (show wr.heap.size < (wr.alloc _).heap.size by simp)]
          simp [go_sem]
        have hs1 : wr.heap.size < w1.heap.size := by have := hb1.size; simp at this; omega
        clear h0 h1 h2 h3 h4 h5 h6 HN HI HI0 hb1
        cases hs : seesB x.by_ x.inn x.out x.gone n (-1)
        · rw [hs] at HN'
          clear HA1 hs1
          go_wp2
          go_roundw
          case rel => exact ⟨k + 1, by omega, by go_num, by show ThI _ _ _ _; rw [HN'.out]; simpa using HI1.out⟩
          case measure => simp [intOf]; omega
        · rw [hs] at HN'
          obtain ⟨h0, h1, h2, h3, h4, h5, h6⟩ := HA1.out
          simp only [Nat.zero_add] at h1 h2 h3 h4 h5 h6
          go_wp2_with (at_builtin; refine append_lst _ (by rfl) (.tmp 31) (.tmp 33) (by rfl) w.heap.size (v := u6) (u := .slice (some ⟨w1.heap.size, 0, none⟩) 1 1) (a := zs) (b := [x]) (by rfl) (by rfl) (HI1.out.after (below1 _ _)).own (lst_newC w1 x) (by have := HZ.out; show _ + 1 ≤ 100000; omega) (HI1.out.after (below1 _ _)).below.size ?_)
          intro v' w2 ho hg
          have H2 : Hid (ThI w v' (thenL (l.take (k + 1)) n) w2) := by
            show ThI _ _ _ _
            rw [HN'.out]
            exact ⟨below_grownC (HI1.out.after (below1 _ _)).below (HI1.out.after (below1 _ _)).own hg, by simpa using ho⟩
          clear ho hg h0 h1 h2 h3 h4 h5 h6 hs1 HA1 HI1
          go_wp2
          go_roundw
          case rel => exact ⟨k + 1, by omega, by go_num, H2.out⟩
          case measure => simp [intOf]; omega
      · obtain rfl : k = l.length := by omega
        have HE : Hid (thenL (l.take l.length) n = thenL l n) := by show thenL _ _ = _; rw [List.take_length]
        go_wp2
        go_ret2
        refine ⟨_, ret_vb HIN.out.symm, ?_, HI.out.below⟩
        rw [HTH.out, ← HE.out]
        exact HI.out.own
  · have HIN : Hid (inS b n = false) := by show inS b n = false; unfold inS; exact decide_eq_false hn
    have HTH : Hid (thS b n = []) := by show thS b n = _; unfold thS; rw [if_neg hn]
    clear h
    by_cases h0 : n < 0
    · go_enter Try.func19, Try.ntmps19
      go_wp2
      go_ret2
      refine ⟨.slice none 0 0, ret_vb HIN.out.symm, ?_, Below.refl _ _⟩
      rw [HTH.out]
      exact own_nil _ _
    · have h1 : (b.ds.length : Int) < n := by
        have : ¬ n ≤ (b.ds.length : Int) := fun e => hn ⟨by omega, e⟩
        omega
      go_enter Try.func19, Try.ntmps19
      go_wp2
      go_ret2
      refine ⟨.slice none 0 0, ret_vb HIN.out.symm, ?_, Below.refl _ _⟩
      rw [HTH.out]
      exact own_nil _ _

end

end Go.Proofs.Ytfpemdbiplfkgad

/-
  The contracts of the story's Text, By and Where; SameInts of two that are the same.
-/
namespace Go.Proofs.Ytfpemdbiplfkgad
open Go Go.RowKit

theorem run_makeBytes (n : Nat) (hn : n ≤ 100000) (w : World) : (Instr.makeSlice 56 (.int .i64 n) (.int .i64 n)).run Try.prog w = .ok (.slice (some ⟨w.heap.size, 0, none⟩) n n) (w.alloc (.cells (madeCells (Value.int .u8 0).cells (n * 1)) 5)) := by
  obtain ⟨i0, hi, hz0, hz1, hz2⟩ := info_parts Try.infoByte
  have := run_make (P := Try.prog) w 56 5 i0 (.int .u8 0) Try.underlying56 hi hz0 .i64 .i64 n n (by omega) (Int.le_refl _) (by rw [hz2]; omega) (by omega)
  simp only [Int.toNat_natCast, hz1] at this
  exact this

/-- In the middle of Text: k bytes are there. -/
structure TxI (w1 : World) (l : List Ch) (k : Nat) (wr : World) : Prop where
  below : Below w1.heap.size w1 wr
  own : ∃ r, wr.ownsRow w1.heap.size 5 1 (.slice (some ⟨w1.heap.size, 0, none⟩) l.length l.length) l.length (cells8 ((l.map (·.c)).take k) ++ r)

theorem txI_start (w1 : World) (l : List Ch) (hl : l.length ≤ 100000) : TxI w1 l 0 (w1.alloc (.cells (madeCells #[Value.int .u8 0] l.length) 5)) := by
  have e0 : (madeCells #[Value.int .u8 0] l.length) = madeCells (Value.int .u8 0).cells (l.length * 1) := by rw [Nat.mul_one]; rfl
  rw [e0]
  refine ⟨below1 _ _, (madeCells (Value.int .u8 0).cells (l.length * 1)).toList, ?_⟩
  rw [List.take_zero]
  have := World.ownsRow_lit (base := w1.heap.size) (e := 5) (size := 1) w1 (madeCells (Value.int .u8 0).cells (l.length * 1)) l.length (Nat.le_refl _) (by unfold maxLen; omega) (size_madeCells _ _)
  simpa [cells8] using this

theorem TxI.after {w1 wr w' : World} {l : List Ch} {k : Nat} (h : TxI w1 l k wr) (hb : Below wr.heap.size wr w') : TxI w1 l k w' := by
  obtain ⟨h1, r, h2⟩ := h
  exact ⟨below_after h1 hb, r, owns_below h2 hb⟩

theorem TxI.step {w1 wr : World} {l : List Ch} {k : Nat} (h : TxI w1 l k wr) (hk : k < l.length) {c : Int} (hc : c = l[k].c) : TxI w1 l (k + 1) (wr.setCell ⟨w1.heap.size, k, none⟩ (.int .u8 c)) := by
  obtain ⟨hb, r, ho⟩ := h
  refine ⟨hb.setCell (by simp) _, r.drop 1, ?_⟩
  have hlm : (l.map (·.c)).length = l.length := List.length_map ..
  have hlen := ho.1
  have hl8 : (cells8 ((l.map (·.c)).take k)).length = k := by
    unfold cells8
    rw [List.length_map, List.length_take, hlm]
    omega
  rw [List.length_append, hl8] at hlen
  have e : cells8 ((l.map (·.c)).take (k + 1)) ++ r.drop 1 = (cells8 ((l.map (·.c)).take k) ++ r).set k (.int .u8 c) := by
    match r, (show 1 ≤ r.length by omega) with
    | r0 :: r, _ =>
      rw [List.take_succ_eq_append_getElem (by omega), List.getElem_map, ← hc]
      have : ∀ (p : List Value) (m : Nat) (x y : Value), p.length = m → (p ++ y :: r).set m x = p ++ x :: r := by
        intro p m x y hm
        subst hm
        simp
      rw [this _ _ _ _ hl8]
      simp [cells8]
  rw [e]
  exact (ho.stored _ _).1

theorem tx_spot {w : World} {base g n cap : Nat} {xs : List Value} (h : w.ownsRow base 5 1 (.slice (some ⟨g, 0, none⟩) n cap) n xs) {j : Nat} (hj : j < n) : (∃ u, w.cell? ⟨g, j, none⟩ = some u) ∧ w.frozen? ⟨g, j, none⟩ = false := by
  refine ⟨?_, h.frozenAt j⟩
  rw [h.cellAt j (by omega)]
  exact ⟨_, List.getElem?_eq_getElem (by rw [h.1]; omega)⟩

theorem txI_end {w1 wr : World} {l : List Ch} (h : TxI w1 l l.length wr) : (convert 56 9 (.slice (some ⟨w1.heap.size, 0, none⟩) l.length l.length)).run Try.prog wr = .ok (.string (strOfNums (l.map (·.c)))) wr := by
  obtain ⟨hb, r, ho⟩ := h
  have hlm : (l.map (·.c)).length = l.length := List.length_map ..
  rw [show (l.map (·.c)).take l.length = l.map (·.c) by rw [← hlm]; exact List.take_length] at ho
  have hr : r = [] := by
    have := ho.1
    unfold cells8 at this
    rw [List.length_append, List.length_map, hlm] at this
    exact List.length_eq_zero_iff.1 (by omega)
  rw [hr, List.append_nil] at ho
  have ho' : wr.ownsRow w1.heap.size 5 1 (.slice (some ⟨w1.heap.size, 0, none⟩) l.length l.length) (l.map (·.c)).length (cells8 (l.map (·.c))) := by rw [hlm]; exact ho
  exact own_string ho'

section
variable {w : World} {lo P : Nat} {b : Bk}

set_option maxRecDepth 20000 in
set_option maxHeartbeats 3200000 in
theorem text_st (h : StTo w lo P b) (n : Int) :
    Calls Try.prog 10 #[.pointer (some ⟨P, 0, none⟩), .int .i64 n] w fun e w' => e = .returned (.tuple #[.string (strOfNums ((thS b n).map (·.c))), .bool (inS b n)]) ∧ Below w.heap.size w w' := by
  have HA : Hid (StTo w lo P b) := h
  have hcl : (thS b n).length ≤ 200 := by
    have := thS_le b n
    have := small_chars (b := b)
    omega
  clear h
  go_enter Try.func10, Try.ntmps10
  go_wp2_with fail
  refine (then_st HA.out n).mono ?_
  rintro e w1 ⟨v1, rfl, ho, hb⟩
  have HL : Hid (Lst w1 v1 (thS b n)) := ho.lst
  have HB : Hid (Below w.heap.size w w1) := hb
  obtain ⟨a, cap, rfl, hcap⟩ := ho.lst.len
  obtain ⟨l, hl⟩ : ∃ l, thS b n = l := ⟨_, rfl⟩
  obtain ⟨ok, hok⟩ : ∃ ok, inS b n = ok := ⟨_, rfl⟩
  have HTH : Hid (thS b n = l) := hl
  have HOK : Hid (inS b n = ok) := hok
  rw [hl] at hcl hcap HL ⊢
  rw [hok]
  clear hl hok
  clear ho hb HA
  have hmk := run_makeBytes l.length (by omega)
  have HI : Hid (TxI w1 l 0 _) := txI_start w1 l (by omega)
  go_wp2
  go_loopw [22] (fun i wr => ∃ k : Nat, k ≤ l.length ∧ i = .int .i64 k ∧ Hid (TxI w1 l k wr)) (fun i _ => l.length - (intOf i).toNat)
  case atStart => exact ⟨0, Nat.zero_le _, rfl, HI⟩
  case round =>
    obtain ⟨k, hk, rfl, HK⟩ := hrel
    clear HI hmk
    by_cases hkl : k < l.length
    · have hki : (k : Int) < (l.length : Int) := by omega
      obtain ⟨bb, off, rfl, hr⟩ : ∃ b off, a = some ⟨b, off, none⟩ ∧ Row wr b off l := by
        obtain ⟨b1, o1, e1, _, r1⟩ := (HL.out.below HK.out.below).row (by omega)
        exact ⟨b1, o1, e1, r1⟩
      have hbl := hr.lt
      obtain ⟨h0, h1, h2, h3, h4, h5, h6⟩ := hr.at_ k hkl
      obtain ⟨x, hx⟩ : ∃ x, l[k] = x := ⟨_, rfl⟩
      have HX : Hid (l[k] = x) := hx
      rw [hx] at h0 h1 h2 h3 h4 h5 h6
      have HK2 : Hid (TxI w1 l k (wr.alloc (.cells #[.int .u8 x.c, .int .i64 x.by_, .int .i64 x.no, .int .i64 x.k, .int .i64 x.inn, .int .i64 x.out, .int .i64 x.gone] 24))) := HK.out.after (below1 _ _)
      obtain ⟨r, ho⟩ := HK2.out.own
      obtain ⟨⟨q0, e0⟩, f0⟩ := tx_spot ho (j := k) hkl
      have hw1 : w1.heap.size < wr.heap.size := by
        obtain ⟨_, ho'⟩ := HK.out.own
        exact (World.ownsRow.lt ho' _ rfl).2
      have HN : Hid (TxI w1 l (k + 1) ((wr.setCell ⟨w1.heap.size, k, none⟩ (.int .u8 x.c)).alloc (.cells #[.int .u8 x.c, .int .i64 x.by_, .int .i64 x.no, .int .i64 x.k, .int .i64 x.inn, .int .i64 x.out, .int .i64 x.gone] 24))) := (HK.out.step hkl (by rw [HX.out])).after (below1 _ _)
      clear hr ho hx HX HK HK2
      go_wp2
      go_roundw
      case rel => exact ⟨k + 1, by omega, by go_num, HN⟩
      case measure => simp [intOf]; omega
    · obtain rfl : k = l.length := by omega
      have hcv := txI_end HK.out
      go_wp2
      go_ret2
      exact ⟨by rw [HTH.out, HOK.out]; rfl, below_after HB.out HK.out.below⟩

theorem cellsI_app (a b : List Int) : cellsI (a ++ b) = cellsI a ++ cellsI b := List.map_append ..

/-- In the middle of By. -/
structure ByI (w w1 : World) (v : Value) (zs : List Int) (wk : World) : Prop where
  below : Below w1.heap.size w1 wk
  own : OwnI wk w1.heap.size v zs
theorem ByI.after {w w1 wk w' : World} {v : Value} {zs : List Int} (h : ByI w w1 v zs wk) (hb : Below wk.heap.size wk w') : ByI w w1 v zs w' := ⟨below_after h.below hb, h.own.below hb⟩

theorem src_newI (w : World) (z : Int) : ∀ j u, ([Value.int .i64 z])[j]? = some u → (w.alloc (.cells #[.int .i64 z] 3)).cell? ((⟨w.heap.size, 0, none⟩ : Addr).add j) = some u := by
  intro j u hj
  match j, hj with
  | 0, hj => simp at hj; subst hj; simp [Addr.add, go_sem]

theorem ByI.grown {w w1 wr w2 : World} {v v' : Value} {zs : List Int} {z : Int} (h : ByI w w1 v zs wr) (ho : w2.ownsRow w1.heap.size 3 1 v' (zs.length + 1) (cellsI zs ++ [.int .i64 z])) (hg : wr.grownBy w2 v.ownBlock) : ByI w w1 v' (zs ++ [z]) w2 := by
  refine ⟨h.below.grown hg (by have := h.below.size; omega) (fun j hj => (World.ownsRow.lt h.own j hj).1), ?_⟩
  unfold OwnI
  rw [cellsI_app, List.length_append]
  exact ho

set_option maxRecDepth 20000 in
set_option maxHeartbeats 3200000 in
theorem by_st (h : StTo w lo P b) (n : Int) :
    Calls Try.prog 11 #[.pointer (some ⟨P, 0, none⟩), .int .i64 n] w fun e w' => ∃ v, e = .returned (.tuple #[v, .bool (inS b n)]) ∧ ILst w' v ((thS b n).map (·.by_)) ∧ Below w.heap.size w w' := by
  have HA : Hid (StTo w lo P b) := h
  have hcl : (thS b n).length ≤ 200 := by
    have := thS_le b n
    have := small_chars (b := b)
    omega
  clear h
  obtain ⟨i0, hi, hz0, hz1, hz2⟩ := info_parts infoInt
  go_enter Try.func11, Try.ntmps11
  go_wp2_with fail
  refine (then_st HA.out n).mono ?_
  rintro e w1 ⟨v1, rfl, ho, hb⟩
  have HL : Hid (Lst w1 v1 (thS b n)) := ho.lst
  have HB : Hid (Below w.heap.size w w1) := hb
  obtain ⟨a, cap, rfl, hcap⟩ := ho.lst.len
  obtain ⟨l, hl⟩ : ∃ l, thS b n = l := ⟨_, rfl⟩
  obtain ⟨ok, hok⟩ : ∃ ok, inS b n = ok := ⟨_, rfl⟩
  have HTH : Hid (thS b n = l) := hl
  have HOK : Hid (inS b n = ok) := hok
  rw [hl] at hcl hcap HL ⊢
  rw [hok]
  clear hl hok
  clear ho hb HA
  go_wp2
  go_loopw [8, 19] (fun v i wr => ∃ k : Nat, k ≤ l.length ∧ i = .int .i64 k ∧ Hid (ByI w w1 v ((l.map (·.by_)).take k) wr)) (fun _ i _ => l.length - (intOf i).toNat)
  case atStart => exact ⟨0, Nat.zero_le _, rfl, Below.refl _ _, ownI_nil _ _⟩
  case round =>
    obtain ⟨k, hk, rfl, HK⟩ := hrel
    have hlm : (l.map (·.by_)).length = l.length := List.length_map ..
    by_cases hkl : k < l.length
    · have hki : (k : Int) < (l.length : Int) := by omega
      have HN : Hid ((l.map (·.by_)).take (k + 1) = (l.map (·.by_)).take k ++ [l[k].by_]) := by
        show List.take _ _ = _
        rw [List.take_succ_eq_append_getElem (by omega), List.getElem_map]
      have hzl : ((l.map (·.by_)).take k).length ≤ 200 := by rw [List.length_take]; omega
      obtain ⟨bb, off, rfl, hr⟩ : ∃ b off, a = some ⟨b, off, none⟩ ∧ Row wr b off l := by
        obtain ⟨b1, o1, e1, _, r1⟩ := (HL.out.below HK.out.below).row (by omega)
        exact ⟨b1, o1, e1, r1⟩
      have hbl := hr.lt
      obtain ⟨h0, h1, h2, h3, h4, h5, h6⟩ := hr.at_ k hkl
      generalize l[k] = x at *
      generalize (l.map (·.by_)).take k = zs at *
      have HZ : Hid (zs.length ≤ 200) := hzl
      have HK2 : Hid (ByI w w1 u8 zs ((wr.alloc (.cells #[.int .u8 x.c, .int .i64 x.by_, .int .i64 x.no, .int .i64 x.k, .int .i64 x.inn, .int .i64 x.out, .int .i64 x.gone] 24)).alloc (.cells #[.int .i64 x.by_] 3))) := (HK.out.after (below1 _ _)).after (below1 _ _)
      clear hr hlm hzl
      go_wp2_with (at_builtin; refine wpList_append_own _ rfl (.tmp 23) (.tmp 26) 39 rfl w1.heap.size 3 i0 (.int .i64 0) 1 8 Try.underlying39 hi hz0 hz1 hz2 rfl (by decide) u8 zs.length (cellsI zs) rfl HK2.out.own ⟨(wr.alloc (.cells #[.int .u8 x.c, .int .i64 x.by_, .int .i64 x.no, .int .i64 x.k, .int .i64 x.inn, .int .i64 x.out, .int .i64 x.gone] 24)).heap.size, 0, none⟩ 1 1 [.int .i64 x.by_] (by simp [go_sem]) rfl (src_newI _ _) ?c2 ?c3 ?c4 ?c5 ?_)
      case c2 => intro u hu; simp at hu; subst hu; rfl
      case c3 => have := HZ.out; unfold maxLen; omega
      case c4 => have := HZ.out; omega
      case c5 => exact HK2.out.below.size
      · intro v' w2 hown' hgrow _
        have H2 : Hid (ByI w w1 v' ((l.map (·.by_)).take (k + 1)) w2) := by
          show ByI _ _ _ _ _
          rw [HN.out]
          exact HK2.out.grown hown' hgrow
        clear hgrow hown' h0 h1 h2 h3 h4 h5 h6 HK HK2
        go_wp2
        go_roundw
        case rel => exact ⟨k + 1, by omega, by go_num, H2.out⟩
        case measure => simp [intOf]; omega
    · obtain rfl : k = l.length := by omega
      have HE : Hid ((l.map (·.by_)).take l.length = l.map (·.by_)) := by show List.take _ _ = _; rw [← hlm]; exact List.take_length
      go_wp2
      go_ret2
      refine ⟨u8, by rw [HOK.out]; rfl, ?_, below_after HB.out HK.out.below⟩
      rw [HTH.out, ← HE.out]
      exact HK.out.own.ilst

set_option maxRecDepth 20000 in
set_option maxHeartbeats 400000 in
theorem find_empty (a : Option Addr) (cap : Nat) (y : Ch) (w : World) :
    Calls Try.prog 20 #[.slice a 0 cap, chV y] w fun e w' => e = .returned (.int .i64 (-1)) ∧ Below w.heap.size w w' := by
  have hmf : ∀ (fn : Fn) (first cap : Array Value) (w : World), (Instr.makeFunc fn first cap).run Try.prog w = .ok (.func fn first cap) w := fun _ _ _ _ => rfl
  go_enter Try.func20, Try.ntmps20
  go_wp2_with fail
  refine (indexFunc_empty _ _ _ _).mono ?_
  rintro e w1 ⟨rfl, hb⟩
  have HB : Hid (Below w.heap.size w w1) := below_after (below1 _ _) hb
  clear hb
  go_wp2
  go_ret
  exact ⟨rfl, HB.out⟩

theorem findIs_wh {l : List Ch} {y : Ch} {r : Int} (h : FindIs l y r) : r = whS l y := by
  rcases h with ⟨k, hk, hno, hyes, rfl⟩ | ⟨hno, rfl⟩
  · refine (wh_some hk ?_ (fun j hj => ?_)).symm
    · have := hyes
      unfold sameAt at this
      rwa [List.getElem?_eq_getElem hk] at this
    · have := hno j hj
      unfold sameAt at this
      rwa [List.getElem?_eq_getElem (by omega)] at this
  · refine (wh_none (fun y' hy => ?_)).symm
    obtain ⟨j, hj, rfl⟩ := List.mem_iff_getElem.1 hy
    have := hno j hj
    unfold sameAt at this
    rwa [List.getElem?_eq_getElem hj] at this

theorem find_wh {w : World} {v : Value} {l : List Ch} (h : Lst w v l) (hl : l.length ≤ 1000) (y : Ch) :
    Calls Try.prog 20 #[v, chV y] w fun e w' => e = .returned (.int .i64 (whS l y)) ∧ Below w.heap.size w w' := by
  obtain ⟨a, len, cap, rfl, h1, h2, h3⟩ := h
  rcases h3 with rfl | ⟨b, off, rfl, hr⟩
  · obtain rfl : l = [] := List.length_eq_zero_iff.1 h1
    exact find_empty a cap y w
  · refine (find_some b off len cap l y w h1 (by omega) hr).mono ?_
    rintro e w' ⟨r, rfl, hf, hb⟩
    exact ⟨by rw [findIs_wh hf], hb⟩

set_option maxRecDepth 20000 in
set_option maxHeartbeats 3200000 in
theorem where_st (h : StTo w lo P b) (n : Int) (x : Ch) :
    Calls Try.prog 12 #[.pointer (some ⟨P, 0, none⟩), .int .i64 n, chV x] w fun e w' => e = .returned (.int .i64 (whS (thS b n) x)) ∧ Below w.heap.size w w' := by
  have hcl : (thS b n).length ≤ 200 := by
    have := thS_le b n
    have := small_chars (b := b)
    omega
  obtain ⟨c, by_, no, k, inn, out, gone⟩ := x
  have HA : Hid (StTo (w.alloc (.cells #[.int .u8 c, .int .i64 by_, .int .i64 no, .int .i64 k, .int .i64 inn, .int .i64 out, .int .i64 gone] 24)) lo P b) := h.below (below1 _ _)
  clear h
  go_enter Try.func12, Try.ntmps12
  go_wp2_with fail
  refine (then_st HA.out n).mono ?_
  rintro e w1 ⟨v1, rfl, ho, hb⟩
  have HL : Hid (Lst w1 v1 (thS b n)) := ho.lst
  have HB : Hid (Below w.heap.size w w1) := below_after (below1 _ _) hb
  have hlt : w.heap.size < w1.heap.size := by have := hb.size; simp at this; omega
  obtain ⟨hc, hf⟩ := bcell hb
  have g : ∀ o, o < 7 → w1.cell? ⟨w.heap.size, o, none⟩ = (#[Value.int .u8 c, .int .i64 by_, .int .i64 no, .int .i64 k, .int .i64 inn, .int .i64 out, .int .i64 gone])[o]? := fun o ho => by
    rw [hc _ _ (by simp)]
    simp [go_sem]
  have g0 := g 0 (by omega)
  have g1 := g 1 (by omega)
  have g2 := g 2 (by omega)
  have g3 := g 3 (by omega)
  have g4 := g 4 (by omega)
  have g5 := g 5 (by omega)
  have g6 := g 6 (by omega)
  simp at g0 g1 g2 g3 g4 g5 g6
  obtain ⟨a, cap, rfl, hcap⟩ := ho.lst.len
  obtain ⟨l, hl⟩ : ∃ l, thS b n = l := ⟨_, rfl⟩
  obtain ⟨ok, hok⟩ : ∃ ok, inS b n = ok := ⟨_, rfl⟩
  have HTH : Hid (thS b n = l) := hl
  have HOK : Hid (inS b n = ok) := hok
  rw [hl] at hcl hcap HL ⊢
  rw [hok]
  clear hl hok
  clear ho hb hc hf g HA
  go_wp2_with fail
  refine (find_wh HL.out (by omega) ⟨c, by_, no, k, inn, out, gone⟩).mono ?_
  rintro e w2 ⟨rfl, hb2⟩
  have HB2 : Hid (Below w.heap.size w w2) := below_after HB.out hb2
  clear hb2 g0 g1 g2 g3 g4 g5 g6
  go_wp2
  go_ret
  exact ⟨by rw [HTH.out]; rfl, HB2.out⟩

end

set_option maxRecDepth 20000 in
set_option maxHeartbeats 800000 in
theorem sameInts_eq {w : World} {va vb : Value} {zs : List Int} (ha : ILst w va zs) (hb : ILst w vb zs) (hl : zs.length ≤ 1000) :
    Calls Try.prog 14 #[va, vb] w fun e w' => e = .returned (.bool true) ∧ Below w.heap.size w w' := by
  have HA : Hid (ILst w va zs) := ha
  have HB : Hid (ILst w vb zs) := hb
  obtain ⟨aa, ca, rfl⟩ := ha.len
  obtain ⟨ab, cb, rfl⟩ := hb.len
  clear ha hb
  go_enter Try.func14, Try.ntmps14
  go_wp2
  go_loopw [5] (fun i wr => ∃ k : Nat, k ≤ zs.length ∧ i = .int .i64 k ∧ Hid (Below w.heap.size w wr)) (fun i _ => zs.length - (intOf i).toNat)
  case atStart => exact ⟨0, Nat.zero_le _, rfl, Below.refl _ _⟩
  case round =>
    obtain ⟨k, hk, rfl, HW⟩ := hrel
    by_cases hlt : k < zs.length
    · obtain ⟨b1, o1, rfl, l1, m1, r1⟩ := (HA.out.below HW.out).row (by omega)
      obtain ⟨b2, o2, rfl, l2, m2, r2⟩ := (HB.out.below HW.out).row (by omega)
      have g1 := r1 k hlt
      have g2 := r2 k hlt
      generalize zs[k] = z at *
      clear r1 r2
      go_wp2
      go_region
      go_wp2
      go_roundw
      case rel => exact ⟨k + 1, by omega, by go_num, below_drewN HW.out _⟩
      case measure => simp [intOf]; omega
    · go_wp2
      go_ret
      exact ⟨rfl, HW.out⟩

end Go.Proofs.Ytfpemdbiplfkgad

/-
  The law's own example of a story (storyBegun).
-/
namespace Go.Proofs.Ytfpemdbiplfkgad
open Go Go.RowKit

def stS : List Tst := [⟨1, 0, 0, 0, ⟨#[]⟩⟩, ⟨2, 0, 0, 0, ⟨#[97, 98]⟩⟩, ⟨4, 0, 0, 0, ⟨#[]⟩⟩]
def stT : Twn := playT twn0 stS
theorem stL : stT.b.ds.length = 1 := by decide +kernel
theorem stX : (thS stT.b 1).map (·.c) = [97, 98] := by decide +kernel
theorem stY : (thS stT.b 1).map (·.by_) = [0, 0] := by decide +kernel
theorem stI : inS stT.b 1 = true := by decide +kernel
theorem stW : whS (thS stT.b 1) ⟨0, 0, 1, 1, 0, 0, 0⟩ = 1 := by decide +kernel
theorem stStr : strOfNums [97, 98] = ⟨#[97, 98]⟩ := by rfl

abbrev stObj : Obj := .cells #[.int .i64 1, .int .i64 0, .int .i64 0, .int .i64 0, .string ⟨#[]⟩, .int .i64 2, .int .i64 0, .int .i64 0, .int .i64 0, .string ⟨#[97, 98]⟩, .int .i64 4, .int .i64 0, .int .i64 0, .int .i64 0, .string ⟨#[]⟩] 46

theorem stS_lst (w : World) : TLst (w.alloc stObj) (.slice (some ⟨w.heap.size, 0, none⟩) 3 3) stS := by
  refine ⟨_, 3, 3, rfl, rfl, Nat.le_refl _, .inr ⟨_, 0, rfl, by simp, fun i hi => ?_⟩⟩
  have hi3 : i < 3 := hi
  rcases (show i = 0 ∨ i = 1 ∨ i = 2 by omega) with rfl | rfl | rfl
  · refine ⟨by simp, ?_, ?_, ?_, ?_, ?_⟩ <;> simp [go_sem, stS]
  · refine ⟨by simp, ?_, ?_, ?_, ?_, ?_⟩ <;> simp [go_sem, stS]
  · refine ⟨by simp, ?_, ?_, ?_, ?_, ?_⟩ <;> simp [go_sem, stS]

theorem stI_lst (w : World) : ILst (w.alloc (.cells #[.int .i64 0, .int .i64 0] 3)) (.slice (some ⟨w.heap.size, 0, none⟩) 2 2) [0, 0] := by
  refine ⟨_, 2, 2, rfl, rfl, Nat.le_refl _, .inr ⟨_, 0, rfl, by simp, fun i hi => ?_⟩⟩
  have hi3 : i < 2 := hi
  rcases (show i = 0 ∨ i = 1 by omega) with rfl | rfl <;> simp [go_sem]

set_option maxRecDepth 20000 in
set_option maxHeartbeats 3200000 in
theorem sbegun_any (w : World) : Calls Try.prog 5 #[] w fun e w' => e = .returned (.bool true) ∧ Below w.heap.size w w' := by
  go_enter Try.func5, Try.ntmps5
  go_wp2_with fail
  refine (tbegun_any _).mono ?_
  rintro e w0 ⟨rfl, hb0⟩
  have HB0 : Hid (Below w.heap.size w w0) := hb0
  clear hb0
  go_wp2_with fail
  refine (played_at _ stS _ (stS_lst w0) (by decide)).mono ?_
  rintro e w1 ⟨D, G, pw, rfl, hd⟩
  have HB1 : Hid (Below w.heap.size w w1) := below_after (below_after HB0.out (below1 _ _)) hd.below
  have H1 : Hid (∃ base w0 S, DkAny base w0 S D G pw stT w1) := ⟨_, _, _, hd⟩
  have g0 := hd.cells.book
  have hlt0 := hd.cells.lt
  clear hd HB0
  go_wp2_with fail
  clear g0 hlt0
  obtain ⟨base, wz, S, hd⟩ := H1.out
  refine (of_dk hd).mono ?_
  rintro e w2 ⟨P, rfl, hs, hb⟩
  have H2 : Hid (StTo w2 w1.heap.size P stT.b) := hs
  have HB2 : Hid (Below w.heap.size w w2) := below_after HB1.out hb
  clear hs hb hd H1 HB1
  generalize w1.heap.size = lo at *
  go_wp2_with fail
  refine (text_st H2.out 1).mono ?_
  rintro e w3 ⟨rfl, hb⟩
  rw [stX, stI, stStr]
  have H3 : Hid (StTo w3 lo P stT.b) := H2.out.below hb
  have HB3 : Hid (Below w.heap.size w w3) := below_after HB2.out hb
  clear hb H2 HB2
  go_wp2_with fail
  refine (by_st H3.out 1).mono ?_
  rintro e w4 ⟨v4, rfl, hi, hb⟩
  rw [stI]
  rw [stY] at hi
  have H4 : Hid (StTo w4 lo P stT.b) := H3.out.below hb
  have HB4 : Hid (Below w.heap.size w w4) := below_after HB3.out hb
  have HI : Hid (ILst w4 v4 [0, 0]) := hi
  obtain ⟨a4, c4, rfl⟩ := hi.len
  clear hb hi H3 HB3
  go_wp2_with fail
  refine (sameInts_eq (HI.out.below (below1 _ _)) (stI_lst w4) (by decide)).mono ?_
  rintro e w5 ⟨rfl, hb⟩
  have H5 : Hid (StTo w5 lo P stT.b) := (H4.out.below (below1 _ _)).below hb
  have HB5 : Hid (Below w.heap.size w w5) := below_after (below_after HB4.out (below1 _ _)) hb
  clear hb HI H4 HB4
  go_wp2_with fail
  refine (len_st H5.out (by rw [stL]; decide)).mono ?_
  rintro e w6 ⟨rfl, hw6⟩
  rw [hw6, stL]
  clear hw6 w6
  go_wp2_with fail
  refine (where_st H5.out 1 ⟨0, 0, 1, 1, 0, 0, 0⟩).mono ?_
  rintro e w7 ⟨rfl, hb⟩
  rw [stW]
  have HB7 : Hid (Below w.heap.size w w7) := below_after HB5.out hb
  clear hb H5 HB5
  go_wp2_with fail
  go_ret
  exact ⟨rfl, HB7.out⟩

end Go.Proofs.Ytfpemdbiplfkgad
