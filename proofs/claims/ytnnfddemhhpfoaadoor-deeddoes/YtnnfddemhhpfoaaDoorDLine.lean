/-
  The contracts of told and Line (package deed), and of the document's num and LineOf.
-/
import Derived.Test.YtnnfddemhhpfoaaDoorDReady
import Derived.Test.YtnnfddemhhpfoaaDoorDLeaf
import Derived.Lib.ItoaLen
import Derived.Deep.RegionWith
namespace Go.Proofs.YtnnfddemhhpfoaaDoor
open Go.RowKit

def toldB (zs : List Int) : ByteArray := zs.foldl (fun acc z => acc ++ (⟨#[32]⟩ ++ strI z)) ⟨#[]⟩

theorem told_snoc (zs : List Int) (z : Int) : toldB (zs ++ [z]) = toldB zs ++ (⟨#[32]⟩ ++ strI z) := by
  unfold toldB
  rw [List.foldl_append]
  rfl

theorem ret_str {a b : ByteArray} (h : a = b) : Ending.returned (.string a) = .returned (.string b) := by rw [h]

theorem strI_size {n : Int} (h : inI n) : (strI n).size ≤ 21 := by
  show ((Lib.itoa n).toArray).size ≤ 21
  rw [List.size_toArray]
  exact Lib.itoa_length_le n h.1 h.2

theorem told_fold : ∀ (zs : List Int) (acc : ByteArray), (∀ z ∈ zs, inI z) → (zs.foldl (fun acc z => acc ++ (⟨#[32]⟩ ++ strI z)) acc).size ≤ acc.size + 22 * zs.length
  | [], acc, _ => by simp
  | z :: l, acc, h => by
    have h1 := told_fold l (acc ++ (⟨#[32]⟩ ++ strI z)) (fun x hx => h x (by simp [hx]))
    have h2 := strI_size (h z (by simp))
    rw [ByteArray.size_append, ByteArray.size_append] at h1
    have : (⟨#[32]⟩ : ByteArray).size = 1 := rfl
    rw [List.foldl_cons, List.length_cons]
    omega

theorem told_size (zs : List Int) (h : ∀ z ∈ zs, inI z) : (toldB zs).size ≤ 22 * zs.length := by
  have := told_fold zs ⟨#[]⟩ h
  have e : (⟨#[]⟩ : ByteArray).size = 0 := rfl
  unfold toldB
  omega

/-- A row of ints in memory. -/
structure Ints (w : World) (b off : Nat) (zs : List Int) : Prop where
  lt : b < w.heap.size
  cell : ∀ (i : Nat) (h : i < zs.length), w.cell? ⟨b, off + i, none⟩ = some (.int .i64 (zs[i]'h))

theorem Ints.below {w w' : World} {b off : Nat} {zs : List Int} (h : Ints w b off zs) (hb : Below w.heap.size w w') : Ints w' b off zs :=
  ⟨by have := hb.size; have := h.lt; omega, fun i hi => cell_on (h.cell i hi) hb⟩

theorem take_snocI (l : List Int) (k : Nat) (h : k < l.length) : l.take (k + 1) = l.take k ++ [l[k]] := by
  rw [List.take_add_one, List.getElem?_eq_getElem h]; rfl

set_option maxHeartbeats 400000 in
theorem told_any (b off n cap : Nat) (zs : List Int) (w : World) (hw : Ready w) (hn : zs.length = n) (hm : n ≤ 5) (hz : ∀ z ∈ zs, inI z) (hr : Ints w b off zs) :
    Calls Tryd.prog 13 #[.slice (some ⟨b, off, none⟩) n cap] w fun e w' => e = .returned (.string (toldB zs)) ∧ Below w.heap.size w w' := by
  have HR : Hid (Ints w b off zs) := hr
  have HL : Hid (zs.length = n) := hn
  have HZ : Hid _ := hz
  have HW : Hid _ := hw
  have hb := hr.lt
  have HT : Hid (toldB (zs.take n) = toldB zs) := by show toldB (zs.take n) = toldB zs; rw [← hn, List.take_length]
  clear hr hn hz hw
  go_enter Tryd.func13, Tryd.ntmps13
  go_wp2
  go_loopw [3, 8] (fun t i wr => ∃ k : Nat, k ≤ n ∧ i = .int .i64 k ∧ t = .string (toldB (zs.take k)) ∧ Below w.heap.size w wr) (fun _ i _ => n - (intOf i).toNat)
  case atStart => exact ⟨0, Nat.zero_le _, rfl, rfl, Below.refl _ _⟩
  case round =>
    obtain ⟨k, hk, rfl, rfl, hbel⟩ := hrel
    by_cases hlt : k < n
    · have hkl : k < zs.length := by rw [HL.out]; exact hlt
      have HN : Hid (toldB (zs.take (k + 1)) = toldB (zs.take k) ++ (⟨#[32]⟩ ++ strI zs[k])) := by rw [take_snocI zs k hkl]; exact told_snoc _ _
      have HI : Hid (inI zs[k]) := HZ.out _ (List.getElem_mem _)
      have hs1 : (strI zs[k]).size ≤ 21 := strI_size HI.out
      have hs2 : (toldB (zs.take k)).size ≤ 22 * 5 := by
        have h := told_size (zs.take k) (fun z hz => HZ.out z (List.mem_of_mem_take hz))
        have := List.length_take_le k zs
        omega
      have h0 := (HR.out.below hbel).cell k hkl
      generalize zs[k] = z at h0 HN HI hs1
      go_wp2_with fail
      refine (itoa_any z HI.out _ (HW.out.below hbel)).mono ?_
      rintro e w1 ⟨rfl, hb1⟩
      have hb2 : Below w.heap.size w w1 := below_after hbel hb1
      clear h0 hb1 hbel
      go_wp2
      go_roundw
      case rel => exact ⟨k + 1, by omega, by go_num, by rw [HN.out], hb2⟩
      case measure => simp [intOf]; omega
    · go_wp2
      go_ret
      obtain rfl : k = n := by omega
      exact ⟨ret_str HT.out, hbel⟩

/-- A deed in memory. -/
structure At7 (w : World) (B : Nat) (d : Dd) : Prop where
  lt : B < w.heap.size
  c0 : w.cell? ⟨B, 0, none⟩ = some (.int .i64 d.kind)
  c1 : w.cell? ⟨B, 1, none⟩ = some (.int .i64 d.by_)
  c2 : w.cell? ⟨B, 2, none⟩ = some (.int .i64 d.no)
  c3 : w.cell? ⟨B, 3, none⟩ = some (.int .i64 d.seen)
  c4 : w.cell? ⟨B, 4, none⟩ = some (.int .i64 d.at_)
  c5 : w.cell? ⟨B, 5, none⟩ = some (.int .i64 d.many)
  c6 : w.cell? ⟨B, 6, none⟩ = some (.string d.text)

abbrev ddObj (d : Dd) : Obj := .cells #[.int .i64 d.kind, .int .i64 d.by_, .int .i64 d.no, .int .i64 d.seen, .int .i64 d.at_, .int .i64 d.many, .string d.text] 23

theorem at7_start (w : World) (d : Dd) : At7 (w.alloc (ddObj d)) w.heap.size d := by
  refine ⟨by simp, ?_, ?_, ?_, ?_, ?_, ?_, ?_⟩ <;> simp [go_sem]

theorem At7.below {w w' : World} {B : Nat} {d : Dd} (h : At7 w B d) (hb : Below w.heap.size w w') : At7 w' B d :=
  ⟨by have := hb.size; have := h.lt; omega, cell_on h.c0 hb, cell_on h.c1 hb, cell_on h.c2 hb, cell_on h.c3 hb, cell_on h.c4 hb, cell_on h.c5 hb, cell_on h.c6 hb⟩

theorem At7.alloc {w : World} {B : Nat} {d : Dd} (h : At7 w B d) (o : Obj) : At7 (w.alloc o) B d := h.below ((Below.refl _ _).alloc (Nat.le_refl _) _)

/-- What holds of a world in the middle of Line: nothing old has turned, the deed lies in block B1, the numbers in block B2. -/
structure LInv (w : World) (B1 B2 : Nat) (d : Dd) (zs : List Int) (wk : World) : Prop where
  below : Below w.heap.size w wk
  ready : Ready wk
  at_ : At7 wk B1 d
  ints : Ints wk B2 0 zs

theorem LInv.after {w wk w' : World} {B1 B2 : Nat} {d : Dd} {zs : List Int} (h : LInv w B1 B2 d zs wk) (hb : Below wk.heap.size wk w') : LInv w B1 B2 d zs w' :=
  ⟨below_after h.below hb, h.ready.below hb, h.at_.below hb, h.ints.below hb⟩

theorem LInv.drew {w wk : World} {B1 B2 : Nat} {d : Dd} {zs : List Int} (h : LInv w B1 B2 d zs wk) : LInv w B1 B2 d zs wk.drew := h.after (Below.refl _ _).drew

theorem told_q {w wk : World} {B1 B2 : Nat} {d : Dd} {zs : List Int} (h : LInv w B1 B2 d zs wk) (n cap : Nat) (hn : zs.length = n) (hm : n ≤ 5) (hz : ∀ z ∈ zs, inI z) :
    Calls Tryd.prog 13 #[.slice (some ⟨B2, 0, none⟩) n cap] wk fun e w' => e = .returned (.string (toldB zs)) ∧ LInv w B1 B2 d zs w' :=
  (told_any B2 0 n cap zs wk h.ready hn hm hz h.ints).mono fun _ _ ⟨he, hb⟩ => ⟨he, h.after hb⟩

theorem ints_four (w : World) (a b c d e : Int) : Ints (w.alloc (.cells #[.int .i64 a, .int .i64 b, .int .i64 c, .int .i64 d, .int .i64 e] 34)) w.heap.size 0 [a, b, c, d] := by
  refine ⟨by simp, fun i hi => ?_⟩
  have h4 : i < 4 := hi
  rcases (show i = 0 ∨ i = 1 ∨ i = 2 ∨ i = 3 by omega) with rfl | rfl | rfl | rfl <;> simp [go_sem]

theorem ints_five (w : World) (a b c d e : Int) : Ints (w.alloc (.cells #[.int .i64 a, .int .i64 b, .int .i64 c, .int .i64 d, .int .i64 e] 34)) w.heap.size 0 [a, b, c, d, e] := by
  refine ⟨by simp, fun i hi => ?_⟩
  have h4 : i < 5 := hi
  rcases (show i = 0 ∨ i = 1 ∨ i = 2 ∨ i = 3 ∨ i = 4 by omega) with rfl | rfl | rfl | rfl | rfl <;> simp [go_sem]

theorem line_start {w w1 : World} {d : Dd} {zs : List Int} (hw : Ready w) (hb : Below (w.alloc (ddObj d)).heap.size (w.alloc (ddObj d)) w1) (o : Obj) (hi : Ints (w1.alloc o) w1.heap.size 0 zs) : LInv w w.heap.size w1.heap.size d zs (w1.alloc o) :=
  have h1 : Below w.heap.size w w1 := below_after ((Below.refl _ _).alloc (Nat.le_refl _) _) hb
  have h2 : Below w1.heap.size w1 (w1.alloc o) := (Below.refl _ _).alloc (Nat.le_refl _) _
  ⟨below_after h1 h2, (hw.below h1).below h2, ((at7_start w d).below hb).below h2, hi⟩

theorem check_ok {d : Dd} (h : checkC d = 0) : (d.kind = 1 ∨ d.kind = 2) ∧ placedB d = true := by
  by_cases hk : d.kind = 1 ∨ d.kind = 2
  · cases hp : placedB d
    · rw [checkC, if_neg (by omega), if_pos hp] at h; cases h
    · exact ⟨hk, rfl⟩
  · rw [checkC, if_pos (by omega)] at h; cases h

theorem inI_of {d : Dd} (h : checkC d = 0) : inI d.by_ ∧ inI d.no ∧ inI d.seen ∧ inI d.at_ := by
  have hp := (check_ok h).2
  simp [placedB, withinB, wrB] at hp
  unfold inI
  omega

theorem put_ok {d : Dd} (h : checkC d = 0) (hk : d.kind = 1) : d.many = 0 ∧ printedB d.text = true := by
  have hp := (check_ok h).2
  rw [checkC, if_neg (by omega), if_neg (by simp [hp]), if_pos hk, putC] at h
  by_cases hm : d.many = 0
  · rw [if_neg (by omega)] at h
    cases hs : printedB d.text
    · rw [hs] at h; cases h
    · exact ⟨hm, rfl⟩
  · rw [if_pos hm] at h; cases h

theorem take_ok {d : Dd} (h : checkC d = 0) (hk : d.kind ≠ 1) : d.kind = 2 ∧ d.text.size = 0 ∧ 1 ≤ d.many ∧ d.many ≤ 200 := by
  obtain ⟨hk', hp⟩ := check_ok h
  rw [checkC, if_neg (by omega), if_neg (by simp [hp]), if_neg hk, takeC] at h
  by_cases hm : d.text.size = 0
  · rw [if_neg (by omega)] at h
    cases hs : withinB d.many 1 200
    · rw [hs] at h; cases h
    · simp [withinB] at hs; exact ⟨by omega, hm, hs⟩
  · rw [if_pos hm] at h; cases h

theorem printed_size {s : ByteArray} (h : printedB s = true) : 1 ≤ s.size ∧ s.size ≤ 20 := by
  simp [printedB] at h; exact h.1

theorem four_in {a b c d : Int} (h : inI a ∧ inI b ∧ inI c ∧ inI d) : ∀ z ∈ [a, b, c, d], inI z := by
  intro z hz
  simp at hz
  rcases hz with rfl | rfl | rfl | rfl
  · exact h.1
  · exact h.2.1
  · exact h.2.2.1
  · exact h.2.2.2

theorem five_in {a b c d e : Int} (h : inI a ∧ inI b ∧ inI c ∧ inI d) (h' : inI e) : ∀ z ∈ [a, b, c, d, e], inI z := by
  intro z hz
  simp at hz
  rcases hz with rfl | rfl | rfl | rfl | rfl
  · exact h.1
  · exact h.2.1
  · exact h.2.2.1
  · exact h.2.2.2
  · exact h'

def lineB (d : Dd) : ByteArray := if d.kind = 1 then (⟨#[112, 117, 116]⟩ ++ toldB [d.by_, d.no, d.seen, d.at_]) ++ ⟨#[32]⟩ ++ d.text else ⟨#[116, 97, 107, 101]⟩ ++ toldB [d.by_, d.no, d.seen, d.at_, d.many]
def lineS (d : Dd) : ByteArray := if checkC d = 0 then lineB d else ⟨#[]⟩

theorem ret_line {d : Dd} {a : ByteArray} {c : Int} (h1 : a = lineS d) (h2 : c = checkC d) : Ending.returned (.tuple #[.string a, .int .i64 c]) = .returned (.tuple #[.string (lineS d), .int .i64 (checkC d)]) := by rw [h1, h2]

set_option maxHeartbeats 400000 in
theorem line_no (d : Dd) (w : World) (h : checkC d ≠ 0) :
    Calls Tryd.prog 7 #[ddV d] w fun e w' => e = .returned (.tuple #[.string (lineS d), .int .i64 (checkC d)]) ∧ Below w.heap.size w w' := by
  have HS : Hid (lineS d = ⟨#[]⟩) := by show lineS d = _; rw [lineS, if_neg h]
  have hne : (checkC d != 0) = true := by simp [h]
  clear h
  obtain ⟨kind, by_, no, seen, at_, many, text⟩ := d
  go_enter Tryd.func7, Tryd.ntmps7
  go_wp2_with fail
  refine (check_any ⟨kind, by_, no, seen, at_, many, text⟩ _).mono ?_
  rintro e w1 ⟨rfl, hb⟩
  go_wp2
  go_ret2
  exact ⟨ret_line HS.out.symm rfl, below_after ((Below.refl _ _).alloc (Nat.le_refl _) _) hb⟩

set_option maxHeartbeats 400000 in
theorem line_put (d : Dd) (w : World) (hw : Ready w) (h : checkC d = 0) (hk : d.kind = 1) :
    Calls Tryd.prog 7 #[ddV d] w fun e w' => e = .returned (.tuple #[.string (lineS d), .int .i64 (checkC d)]) ∧ Below w.heap.size w w' := by
  have HS : Hid (lineS d = (⟨#[112, 117, 116]⟩ ++ toldB [d.by_, d.no, d.seen, d.at_]) ++ ⟨#[32]⟩ ++ d.text) := by show lineS d = _; rw [lineS, if_pos h, lineB, if_pos hk]
  have HC : Hid (checkC d = 0) := h
  have HW : Hid (Ready w) := hw
  obtain ⟨kind, by_, no, seen, at_, many, text⟩ := d
  obtain rfl : kind = 1 := hk
  have hI := inI_of h
  have HI : Hid _ := four_in hI
  have hts := (printed_size (put_ok h rfl).2).2
  have hto := told_size [by_, no, seen, at_] HI.out
  simp only [List.length_cons, List.length_nil, Nat.reduceAdd, Nat.reduceMul] at hto hts
  clear h hw hI
  go_enter Tryd.func7, Tryd.ntmps7
  go_wp2_with fail
  refine (check_any ⟨_, by_, no, seen, at_, many, text⟩ _).mono ?_
  rintro e w1 ⟨rfl, hb⟩
  rw [HC.out]
  have HA : Hid (At7 w1 w.heap.size ⟨1, by_, no, seen, at_, many, text⟩) := (at7_start w ⟨1, by_, no, seen, at_, many, text⟩).below hb
  obtain ⟨hlt, a0, a1, a2, a3, a4, a5, a6⟩ := HA.out
  have b0 : ∀ o, (w1.alloc o).cell? ⟨w.heap.size, 0, none⟩ = some (.int .i64 1) := fun o => (HA.out.alloc o).c0
  have HL : Hid _ := line_start (d := ⟨1, by_, no, seen, at_, many, text⟩) HW.out hb (.cells #[.int .i64 by_, .int .i64 no, .int .i64 seen, .int .i64 at_, .int .i64 many] 34) (ints_four w1 by_ no seen at_ many)
  go_wp2
  clear a0 a1 a2 a3 a4 a5 a6 b0 hb hlt HA
  refine wp_region_quiet (C := fun wk => LInv w w.heap.size w1.heap.size ⟨1, by_, no, seen, at_, many, text⟩ [by_, no, seen, at_] wk) (by kernel_rfl) (by kernel_rfl) (HL.out.drew) ?_
  refine wpQuiet_step (fun K hK => ?_)
  go_simp
  refine ⟨_, fun _ _ => rfl, hK _ ?_⟩
  clear hK K
  refine wpQuiet_step (fun K hK => ?_)
  go_simp
  refine ⟨_, fun wk hwk => told_q hwk 4 5 rfl (by decide) HI.out, hK _ ?_⟩
  clear hK K
  refine wpQuiet_step (fun K hK => ?_)
  go_simp
  refine ⟨.string (⟨#[112, 117, 116]⟩ ++ toldB [by_, no, seen, at_]), fun wk _ => ?_, hK _ ?_⟩
  · rw [if_neg (by omega)]
    exact ⟨rfl, rfl⟩
  clear hK K
  refine wpQuiet_step (fun K hK => ?_)
  go_simp
  refine ⟨.string (⟨#[112, 117, 116]⟩ ++ toldB [by_, no, seen, at_] ++ ⟨#[32]⟩), fun wk _ => ?_, hK _ ?_⟩
  · rw [if_neg (by omega)]
    exact ⟨rfl, rfl⟩
  clear hK K
  refine wpQuiet_step (fun K hK => ?_)
  go_simp
  refine ⟨_, fun _ _ => rfl, hK _ ?_⟩
  clear hK K
  refine wpQuiet_step (fun K hK => ?_)
  go_simp
  refine ⟨.string text, fun wk hwk => ?_, hK _ ?_⟩
  · obtain ⟨_, c0, c1, c2, c3, c4, c5, c6⟩ := hwk.at_
    go_simp
  clear hK K
  refine wpQuiet_step (fun K hK => ?_)
  go_simp
  refine ⟨.string (⟨#[112, 117, 116]⟩ ++ toldB [by_, no, seen, at_] ++ ⟨#[32]⟩ ++ text), fun wk _ => ?_, hK _ ?_⟩
  · rw [if_neg (by omega)]
    exact ⟨rfl, rfl⟩
  clear hK K
  refine wpQuiet_step (fun K hK => ?_)
  go_simp
  refine ⟨_, fun _ _ => rfl, hK _ ?_⟩
  clear hK K
  refine wpQuiet_step (fun K hK => ?_)
  go_simp
  refine ⟨_, fun _ _ => rfl, hK _ ?_⟩
  clear hK K
  refine wpQuiet_nil ?_
  intro w2 hw2
  have HB2 : Hid (Below w.heap.size w w2) := hw2.below
  clear hw2
  go_wp2
  go_ret2
  exact ⟨ret_line HS.out.symm HC.out.symm, HB2.out⟩

set_option maxHeartbeats 400000 in
theorem line_take (d : Dd) (w : World) (hw : Ready w) (h : checkC d = 0) (hk : d.kind ≠ 1) :
    Calls Tryd.prog 7 #[ddV d] w fun e w' => e = .returned (.tuple #[.string (lineS d), .int .i64 (checkC d)]) ∧ Below w.heap.size w w' := by
  have HS : Hid (lineS d = ⟨#[116, 97, 107, 101]⟩ ++ toldB [d.by_, d.no, d.seen, d.at_, d.many]) := by show lineS d = _; rw [lineS, if_pos h, lineB, if_neg hk]
  have HC : Hid (checkC d = 0) := h
  have HW : Hid (Ready w) := hw
  obtain ⟨hk2, _, hm1, hm2⟩ := take_ok h hk
  obtain ⟨kind, by_, no, seen, at_, many, text⟩ := d
  obtain rfl : kind = 2 := hk2
  have hI := inI_of h
  have HI : Hid _ := five_in hI (e := many) (by unfold inI; simp only at hm1 hm2; omega)
  have hto := told_size [by_, no, seen, at_, many] HI.out
  simp only [List.length_cons, List.length_nil, Nat.reduceAdd, Nat.reduceMul] at hto
  clear h hw hI hk hm1 hm2
  go_enter Tryd.func7, Tryd.ntmps7
  go_wp2_with fail
  refine (check_any ⟨_, by_, no, seen, at_, many, text⟩ _).mono ?_
  rintro e w1 ⟨rfl, hb⟩
  rw [HC.out]
  have HA : Hid (At7 w1 w.heap.size ⟨2, by_, no, seen, at_, many, text⟩) := (at7_start w ⟨2, by_, no, seen, at_, many, text⟩).below hb
  obtain ⟨hlt, a0, a1, a2, a3, a4, a5, a6⟩ := HA.out
  have b0 : ∀ o, (w1.alloc o).cell? ⟨w.heap.size, 0, none⟩ = some (.int .i64 2) := fun o => (HA.out.alloc o).c0
  have HL : Hid _ := line_start (d := ⟨2, by_, no, seen, at_, many, text⟩) HW.out hb (.cells #[.int .i64 by_, .int .i64 no, .int .i64 seen, .int .i64 at_, .int .i64 many] 34) (ints_five w1 by_ no seen at_ many)
  go_wp2_with fail
  clear a0 a1 a2 a3 a4 a5 a6 b0 hb hlt HA
  refine (told_q HL.out 5 5 rfl (by decide) HI.out).mono ?_
  rintro e w2 ⟨rfl, hl2⟩
  have HB2 : Hid (Below w.heap.size w w2) := hl2.below
  clear HL hl2
  go_wp2
  go_ret2
  exact ⟨ret_line HS.out.symm HC.out.symm, HB2.out⟩

theorem line_any (d : Dd) (w : World) (hw : Ready w) :
    Calls Tryd.prog 7 #[ddV d] w fun e w' => e = .returned (.tuple #[.string (lineS d), .int .i64 (checkC d)]) ∧ Below w.heap.size w w' := by
  by_cases h : checkC d = 0
  · by_cases hk : d.kind = 1
    · exact line_put d w hw h hk
    · exact line_take d w hw h hk
  · exact line_no d w h

set_option maxHeartbeats 400000 in
theorem num_any (n : Int) (hn : inI n) (w : World) (hw : Ready w) :
    Calls Tryd.prog 14 #[.int .i64 n] w fun e w' => e = .returned (.string (strI n)) ∧ Below w.heap.size w w' := by
  have HW : Hid _ := hw
  have HN : Hid _ := hn
  clear hw hn
  go_enter Tryd.func14, Tryd.ntmps14
  go_wp2_with (go_at_call 23; refine (itoa_any _ HN.out _ HW.out).mono ?_; rintro e w' ⟨rfl, hb⟩)
  go_ret
  exact ⟨rfl, hb⟩

end Go.Proofs.YtnnfddemhhpfoaaDoor
