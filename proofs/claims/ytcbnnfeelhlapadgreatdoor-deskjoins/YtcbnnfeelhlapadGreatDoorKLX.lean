/-
  May there be such lines? refused. How long is what a line tells?
-/
import Derived.Test.YtcbnnfeelhlapadGreatDoorKMath
import Derived.Test.YtcbnnfeelhlapadGreatDoorTRel
import Derived.Test.YtcbnnfeelhlapadGreatDoorCDel
import Derived.Test.YtcbnnfeelhlapadGreatDoorRPlain
import Derived.Test.YtcbnnfeelhlapadGreatDoorKLQ
import Derived.Test.YtcbnnfeelhlapadGreatDoorKLP
namespace Go.Proofs.YtcbnnfeelhlapadGreatDoor
set_option maxRecDepth 20000
open Go Go.RowKit
abbrev fkV (p : Int × Int) : Value := .agg #[.int .i64 p.1, .int .i64 p.2]
theorem nl_any (s : ByteArray) (w : World) : Calls Tryz.prog 22 #[.string s] w fun e w' => e = .returned (.bool (hasNl s.data.toList)) ∧ w' = w := by
 have hc := Tryz.strings_Contains_one s 10 w
 rw [hasNl_index] at hc
 go_enter Tryz.func22, Tryz.ntmps22
 go_wp2_with fail
 refine hc.mono ?_
 rintro e w1 ⟨rfl, rfl⟩
 go_wp2_with fail
 go_ret
 exact ⟨rfl, rfl⟩
def NlIs (ls : List ByteArray) (r : Int) : Prop := (∃ (k : Nat) (h : k < ls.length), (∀ (j : Nat) (hj : j < k), hasNl (ls[j]'(by omega)).data.toList = false) ∧ hasNl ls[k].data.toList = true ∧ r = k) ∨ ((∀ s ∈ ls, hasNl s.data.toList = false) ∧ r = -1)
theorem nlIs_fault {ls : List ByteArray} {r : Int} (h : NlIs ls r) : (r = -1 ∧ faultFrom 0 (ls.map (·.data.toList)) = (0, 0)) ∨ (0 ≤ r ∧ faultFrom 0 (ls.map (·.data.toList)) = (11, r)) := by
 rcases h with ⟨k, hk, h1, h2, rfl⟩ | ⟨h1, rfl⟩
 ·refine .inr ⟨by omega, ?_⟩
  have := fault_at (ls.map (·.data.toList)) 0 k (by simpa using hk) (fun j hj => by rw [List.getElem_map]; exact h1 j hj) (by rw [List.getElem_map]; exact h2)
  rw [this, Nat.zero_add]
 ·refine .inl ⟨rfl, fault_none _ 0 (fun s hs => ?_)⟩
  obtain ⟨x, hx, rfl⟩ := List.mem_map.1 hs
  exact h1 x hx
set_option maxHeartbeats 1600000 in
theorem index_any {w : World} {v : Value} {ls : List ByteArray} (h : StrLst w v ls) (hn : ls.length ≤ 1000) :
 Calls Tryz.prog 21 #[v, .func (.func 22) #[] #[]] w fun e w' => ∃ r, e = .returned (.int .i64 r) ∧ NlIs ls r ∧ w' = w := by
 have HV : Hid (StrLst w v ls) := h
 obtain ⟨a, cap, rfl, _⟩ := h.len
 clear h
 go_enter Tryz.func21, Tryz.ntmps21
 go_wp2_with fail
 go_loop [8] (fun i => ∃ k : Nat, k ≤ ls.length ∧ i = .int .i64 k ∧ Hid (∀ (j : Nat) (h : j < ls.length), j < k → hasNl ls[j].data.toList = false)) (fun i => ls.length - (intOf i).toNat)
 case atStart => exact ⟨0, Nat.zero_le _, rfl, fun j _ h => absurd h (Nat.not_lt_zero _)⟩
 case round =>
  obtain ⟨k, hk, rfl, HW⟩ := hrel
  by_cases hlt : k < ls.length
  ·have hki : (k : Int) < (ls.length : Int) := by omega
   obtain ⟨bb, off, rfl, hst⟩ := HV.out.row (by omega)
   have c0 := hst.cell k hlt
   have hbl := hst.lt
   have HNL : Hid (∀ wk, Calls Tryz.prog 22 #[.string ls[k]] wk fun e w' => e = .returned (.bool (hasNl ls[k].data.toList)) ∧ w' = wk) := fun wk => nl_any _ wk
   obtain ⟨b, hb⟩ : ∃ b, hasNl ls[k].data.toList = b := ⟨_, rfl⟩
   have HB : Hid (hasNl ls[k].data.toList = b) := hb
   rw [hb] at HNL
   obtain ⟨s, hs⟩ : ∃ s, ls[k] = s := ⟨_, rfl⟩
   rw [hs] at HNL c0
   clear hb hs hst
   go_wp2_with fail
   refine (HNL.out _).mono ?_
   rintro e w1 ⟨rfl, hw1⟩
   rw [hw1]
   clear hw1 w1
   cases b
   ·go_wp2_with fail
    go_round
    case rel => exact ⟨k + 1, by omega, by go_num, fun j h hj => by
     rcases Nat.lt_or_ge j k with h' | h'
     ·exact HW.out j h h'
     ·obtain rfl : j = k := by omega
      exact HB.out⟩
    case measure => simp [intOf]; omega
   ·go_wp2_with fail
    go_ret
    exact ⟨_, rfl, .inl ⟨k, hlt, fun j hj => HW.out j (by omega) hj, HB.out, rfl⟩, rfl⟩
  ·obtain rfl : k = ls.length := by omega
   go_wp2_with fail
   go_ret
   refine ⟨_, rfl, .inr ⟨fun s hs => ?_, rfl⟩, rfl⟩
   obtain ⟨j, hj, rfl⟩ := List.mem_iff_getElem.1 hs
   exact HW.out j hj hj
theorem fault_end {fn : Func} {p : Tmp} {R : Ending → World → Prop} {a : Act} {w : World} {B : Nat} {c i : Int} (hf : fn.results = #[.cell p 31]) (h : w.heap[B]? = some (.cells #[.int .i64 c, .int .i64 i] 31 (0, 0))) (h2 : a.tmps.getD p undef = .pointer (some ⟨B, 0, none⟩)) (hd : a.defers = [])
 (hR : R (.returned (.agg #[.int .i64 c, .int .i64 i])) w) : bodyPost Tryz.prog fn R Exit.ret a w :=
 bodyPost_ret (results_cell_row hf _ _ B 31 #[.int .i64 c, .int .i64 i] (0, 0) _ h2 h Tryz.underlying31 rfl (by kernel_rfl)) hd hR
theorem fault_big {l : List (List UInt8)} (h : 150 < l.length) : faultK l = (10, -1) := if_pos h
theorem fault_few {l : List (List UInt8)} (h : ¬ 150 < l.length) : faultK l = faultFrom 0 l := if_neg h
set_option maxHeartbeats 1600000 in
theorem refused_any {w : World} {v : Value} {ls : List ByteArray} (h : StrLst w v ls) :
 Calls Tryz.prog 14 #[v] w fun e w' => e = .returned (fkV (faultK (ls.map (·.data.toList)))) ∧ Below w.heap.size w w' := by
 have HV : Hid (StrLst (w.alloc (.cells #[.int .i64 0, .int .i64 0] 31)) v ls) := h.below (below1 _ _)
 have HL : Hid ((ls.map (·.data.toList)).length = ls.length) := List.length_map ..
 obtain ⟨a, cap, rfl, _⟩ := h.len
 clear h
 by_cases hb : 150 < ls.length
 ·have HE : Hid (faultK (ls.map (·.data.toList)) = (10, -1)) := fault_big (by rw [HL.out]; exact hb)
  have hbi : (150 : Int) < (ls.length : Int) := by omega
  obtain ⟨n, hn⟩ : ∃ n, ls.length = n := ⟨_, rfl⟩
  rw [HE.out]
  rw [hn] at hb hbi ⊢
  clear hn HV HL HE
  go_enter Tryz.func14, Tryz.ntmps14
  go_wp2
  refine fault_end (B := w.heap.size) (c := 10) (i := -1) rfl (heap_alloc_new w _) rfl rfl ?_
  exact ⟨rfl, below1 _ _⟩
 ·have HE : Hid (faultK (ls.map (·.data.toList)) = faultFrom 0 (ls.map (·.data.toList))) := fault_few (by rw [HL.out]; exact hb)
  have HI : Hid (Calls Tryz.prog 21 #[.slice a ls.length cap, .func (.func 22) #[] #[]] (w.alloc (.cells #[.int .i64 0, .int .i64 0] 31)) fun e w' => ∃ r, e = .returned (.int .i64 r) ∧ NlIs ls r ∧ w' = w.alloc (.cells #[.int .i64 0, .int .i64 0] 31)) := index_any HV.out (by omega)
  have hbi : ¬ (150 : Int) < (ls.length : Int) := by omega
  rw [HE.out]
  clear HV HL HE
  go_enter Tryz.func14, Tryz.ntmps14
  go_wp2_with fail
  refine HI.out.mono ?_
  rintro e w1 ⟨r, rfl, hr, rfl⟩
  rcases nlIs_fault hr with ⟨rfl, hf⟩ | ⟨h0, hf⟩
  ·have HF : Hid (faultFrom 0 (ls.map (·.data.toList)) = (0, 0)) := hf
   clear hr hf HI
   go_wp2
   refine fault_end (B := w.heap.size) (c := 0) (i := 0) rfl (heap_alloc_new w _) rfl rfl ?_
   rw [HF.out]
   exact ⟨rfl, below1 _ _⟩
  ·have HF : Hid (faultFrom 0 (ls.map (·.data.toList)) = (11, r)) := hf
   clear hr hf HI
   go_wp2
   refine fault_end (B := w.heap.size) (c := 11) (i := r) rfl (heap_alloc_new w _) rfl rfl ?_
   rw [HF.out]
   exact ⟨rfl, below1 _ _⟩
theorem itoaN_le {n : Int} (h : inI n) : (Lib.itoa n).length ≤ 21 := by
 have := strI_size h
 rw [← size_list] at this
 simpa [strI] using this
theorem noW_len {c : Int} (h : Sm c) : (noW c).length ≤ 30 := by
 have : (Lib.itoa c).length ≤ 21 := itoaN_le (by unfold Sm at h; unfold inI; omega)
 unfold noW
 simp
 omega
theorem stepK_len (t : Twn) (x : Tst) : (stepK t x).1.length ≤ 30 := by
 unfold stepK
 dsimp only
 split
 ·decide
 ·exact noW_len (tDo_code t x)
theorem linesW_len : ∀ ds : List Dd, (linesW ds).length ≤ 201 * ds.length
 | [] => Nat.le_refl _
 | d :: ds => by
  have h1 := linesW_len ds
  have h2 := lineS_size d
  rw [linesW, List.length_append, lineW, List.length_append, size_list, List.length_cons]
  simp
  omega
theorem numsW_len : ∀ zs : List Int, (∀ z ∈ zs, inI z) → (numsW zs).length ≤ 22 * zs.length
 | [], _ => Nat.le_refl _
 | z :: zs, h => by
  have h1 := numsW_len zs (fun y hy => h y (by simp [hy]))
  have h2 := itoaN_le (h z (by simp))
  rw [numsW, List.length_cons, List.length_append, List.length_cons]
  omega
theorem byN_in {b : Bk} (hg : Good b) (n : Int) : ∀ z ∈ (thS b n).map (·.by_), inI z := by
 intro z hz
 obtain ⟨x, hx, rfl⟩ := List.mem_map.1 hz
 have hm : x ∈ b.chars := by
  unfold thS at hx
  split at hx
  ·exact (List.mem_filter.1 hx).1
  ·cases hx
 have := (good_made hg).wr x hm
 unfold wrB at this
 rw [decide_eq_true_eq] at this
 unfold inI
 omega
theorem textW_len (l : List Int) : (textW l).length ≤ l.length + 6 := by
 unfold textW bytesW
 have := strOfNums_size l
 rw [← size_list] at this
 simp only [List.length_append, List.length_cons, List.length_nil, this]
 omega
section
variable {t : Twn} {tk : Int → List (List Ch)}
theorem seen_len (h : TR t tk) (n : Int) : (seenW t n).length ≤ 300 := by
 unfold seenW
 cases he : t.ws n with
 | none => exact Nat.le_trans (noW_len sm_five) (by decide)
 | some r =>
  have h1 := textW_len (vw r.list r.seen r.me)
  have h2 := vw_le r.list r.seen r.me
  have h3 := (tr_wok h he).len
  show (textW _).length ≤ _
  omega
theorem open_len (h : TR t tk) (n : Int) : (openW t n).length ≤ 30000 := by
 unfold openW
 cases he : t.ws n with
 | none => exact Nat.le_trans (noW_len sm_five) (by decide)
 | some r =>
  have h1 := linesW_len r.opens
  have h3 := (tr_wok h he).few
  show (linesW r.opens ++ endW).length ≤ _
  rw [List.length_append]
  show _ + 4 ≤ _
  omega
theorem thenW_len (h : TR t tk) (n : Int) : (thenW t n).length ≤ 30000 := by
 unfold thenW
 split
 ·have h1 := textW_len ((thS t.b n).map (·.c))
  have h2 := numsW_len ((thS t.b n).map (·.by_)) (byN_in h.ti.good n)
  have h3 := thS_le t.b n
  have h4 := small_chars (b := t.b)
  rw [List.length_map] at h1 h2
  rw [List.length_append, byW, List.length_append, List.length_append]
  show _ + (2 + (_ + 1)) ≤ _
  omega
 ·exact Nat.le_trans (noW_len sm_five) (by decide)
theorem all_len (t : Twn) : (textW (textL t.b.chars)).length ≤ 300 := by
 have h1 := textW_len (textL t.b.chars)
 have h2 : (textL t.b.chars).length ≤ 200 := by
  unfold textL
  rw [List.length_map]
  have := List.length_filter_le textB t.b.chars
  have := small_chars (b := t.b)
  omega
 omega
theorem log_len (h : TR t tk) : (linesW t.b.ds ++ endW).length ≤ 30000 := by
 have h1 := linesW_len t.b.ds
 have h2 := h.ti.good.small
 rw [List.length_append]
 show _ + 4 ≤ _
 omega
theorem leastWd_len (h : TR t tk) : (leastWd (leastL t.b) t.b.len).length ≤ 100 := by
 have hG := h.ti.good
 have hle := least_len t.b
 have hsm := hG.small
 have hge : 0 ≤ leastL t.b := least_ge (by show (0 : Int) ≤ (t.b.ds.length : Int); omega) (fun w _ _ => (hG.said w).1)
 have hlen : t.b.len = (t.b.ds.length : Int) := rfl
 have h1 : (Lib.itoa (leastL t.b)).length ≤ 21 := itoaN_le (by unfold inI; omega)
 have h2 : (Lib.itoa t.b.len).length ≤ 21 := itoaN_le (by unfold inI; omega)
 unfold leastWd
 simp only [List.length_append, List.length_cons, List.length_nil]
 omega
theorem cmd_len (h : TR t tk) (k : List UInt8) (n : List Int) : (cmdK t k n).1.length ≤ 30000 := by
 have key : ∀ (c : Prop) [Decidable c] (a b : List UInt8 × Twn), a.1.length ≤ 30000 → b.1.length ≤ 30000 → (if c then a else b).1.length ≤ 30000 := fun c _ a b ha hb => by split <;> assumption
 unfold cmdK
 repeat' apply key
 all_goals first
  | exact Nat.le_trans (stepK_len _ _) (by decide)
  | exact Nat.le_trans (seen_len h _) (by decide)
  | exact open_len h _
  | exact thenW_len h _
  | exact Nat.le_trans (all_len t) (by decide)
  | exact log_len h
  | exact Nat.le_trans (leastWd_len h) (by decide)
  | (show (okW).length ≤ _; decide)
  | (show (whatW).length ≤ _; decide)
theorem line_len (h : TR t tk) (s : List UInt8) : (lineK t s).1.length ≤ 30000 := by
 unfold lineK
 split
 ·exact Nat.le_trans (stepK_len _ _) (by decide)
 ·cases wordsOf s with
  | nil => exact Nat.zero_le _
  | cons k r =>
   rw [wordsK]
   cases readL (r.map bl) with
   | none => show (whatW).length ≤ _; decide
   | some n => exact cmd_len h k n
end
end Go.Proofs.YtcbnnfeelhlapadGreatDoor

/-
  The desk does a line.
-/
namespace Go.Proofs.YtcbnnfeelhlapadGreatDoor
set_option maxRecDepth 20000
open Go Go.RowKit
theorem wordsK_none {t : Twn} {k : List UInt8} {r : List (List UInt8)} (h : readL (r.map bl) = none) : wordsK t (k :: r) = (whatW, t) := by
 rw [wordsK, h]
theorem wordsK_some {t : Twn} {k : List UInt8} {r : List (List UInt8)} {zs : List Int} (h : readL (r.map bl) = some zs) : wordsK t (k :: r) = cmdK t k zs := by
 rw [wordsK, h]
section
variable {base R D G : Nat} {pw : Nat → Nat} {w0 wk w' : World} {S : Nat → Prop} {told : List UInt8} {t : Twn}
set_option maxHeartbeats 3200000 in
theorem doLine_lk (h : LkIn base w0 S R D G pw told t wk) (s : ByteArray) (hs : s.size ≤ 10000) (hz : told.length ≤ 300000000) :
 Calls Tryz.prog 15 #[.pointer (some ⟨R, 0, none⟩), .string s] wk fun e w' => e = .returned (.tuple #[]) ∧ ∃ pw', LkIn base w0 S R D G pw' (told ++ (lineK t s.data.toList).1) (lineK t s.data.toList).2 w' := by
 have HI : Hid (LkIn base w0 S R D G pw told t wk) := h
 have HS : Hid (s.size ≤ 10000) := hs
 clear h hs
 go_enter Tryz.func15, Tryz.ntmps15
 go_wp2_with fail
 refine (putStep_any s _ HI.out.rdy.ready (by have := HS.out; omega)).mono ?_
 rintro e w1 ⟨rfl, hb⟩
 have H1 : Hid (LkIn base w0 S R D G pw told t w1) := HI.out.after hb
 clear hb HI
 cases hp : putOf s.data.toList with
 | some p =>
  obtain ⟨a, b, text⟩ := p
  have HV : Hid (lineK t s.data.toList = stepK t ⟨2, a, b, 0, bl text⟩) := by show _ = _; unfold lineK; rw [hp]
  clear hp
  simp only [putX, Option.isSome_some]
  generalize bl text = st at *
  have H2 : Hid (LkIn base w0 S R D G pw told t (w1.alloc (.cells #[.int .i64 2, .int .i64 a, .int .i64 b, .int .i64 0, .string st] 74))) := H1.out.after (below1 _ _)
  clear H1
  go_wp2_with fail
  refine (step_lk H2.out ⟨2, a, b, 0, st⟩ (by omega)).mono ?_
  rintro e w6 ⟨rfl, h6⟩
  have H6 : Hid (∃ pw', LkIn base w0 S R D G pw' (told ++ (lineK t s.data.toList).1) (lineK t s.data.toList).2 w6) := by rw [HV.out]; exact h6
  clear h6 H2
  go_wp2_with fail
  (try simp only [Exit.inBlock, Exit.then]); refine bodyPost_ret (results_none rfl _ _ _) rfl ?_
  exact ⟨rfl, H6.out⟩
 | none =>
  have HV : Hid (lineK t s.data.toList = wordsK t ((wordsOf s.data.toList).take 5)) := by show _ = _; unfold lineK; rw [hp, wordsK_take]
  clear hp
  simp only [putX, Option.isSome_none]
  have H2 : Hid (LkIn base w0 S R D G pw told t (w1.alloc (.cells #[.int .i64 0, .int .i64 0, .int .i64 0, .int .i64 0, .string ⟨#[]⟩] 74))) := H1.out.after (below1 _ _)
  clear H1
  go_wp2_with fail
  refine (wordsOf_any s _ H2.out.rdy.ready (by have := HS.out; omega)).mono ?_
  rintro e w2 ⟨lv, rfl, hown, hb⟩
  have H3 : Hid (LkIn base w0 S R D G pw told t w2) := H2.out.after hb
  have HWL : Hid (((wordsOf s.data.toList).take 5).length ≤ 5 ∧ ∀ x ∈ (wordsOf s.data.toList).take 5, x.length ≤ 10000) := by
   refine ⟨by rw [List.length_take]; omega, fun x hx => ?_⟩
   have := wordF_len s.data.toList [] x (List.mem_of_mem_take hx)
   have := HS.out
   rw [size_list] at *
   simp at *
   omega
  clear hb H2
  generalize (wordsOf s.data.toList).take 5 = ws at *
  have HLS : Hid (StrLst w2 lv (ws.map bl)) := hown.lst
  obtain ⟨la, lc, rfl, hlc⟩ := hown.lst.len
  clear hown
  cases ws with
  | nil =>
   have H6 : Hid (∃ pw', LkIn base w0 S R D G pw' (told ++ (lineK t s.data.toList).1) (lineK t s.data.toList).2 w2) := by
    rw [HV.out]
    refine ⟨pw, ?_⟩
    show LkIn _ _ _ _ _ _ _ (told ++ []) _ _
    rw [List.append_nil]
    exact H3.out
   simp only [List.map_nil, List.length_nil]
   go_wp2_with fail
   (try simp only [Exit.inBlock, Exit.then]); refine bodyPost_ret (results_none rfl _ _ _) rfl ?_
   exact ⟨rfl, H6.out⟩
  | cons k r =>
   have hln : ((k :: r).map bl).length = r.length + 1 := by simp
   rw [hln] at HLS hlc ⊢
   obtain ⟨bb, off, rfl, hst⟩ := HLS.out.row (by omega)
   have c0 := hst.cell 0 (by simp)
   have hbl := hst.lt
   simp only [Nat.add_zero, List.map_cons, List.getElem_cons_zero] at c0
   have HR : Hid (r.length ≤ 4 ∧ ∀ x ∈ r, x.length ≤ 10000) := ⟨by have := HWL.out.1; rw [List.length_cons] at this; omega, fun x hx => HWL.out.2 x (List.mem_cons_of_mem _ hx)⟩
   have hq1 : (((r.length : Int) + 1) == 0) = false := by rw [beq_eq_false_iff_ne]; omega
   have hq2 : (((r.length + 1 : Nat) : Int) == 0) = false := by rw [beq_eq_false_iff_ne]; omega
   have HT : Hid (∀ a' c', (a' = some ⟨bb, off + 1, none⟩ ∨ r.length = 0) → r.length ≤ c' → StrLst w2 (.slice a' r.length c') (r.map bl)) := fun a' c' ha hc' => by
    refine ⟨a', r.length, c', rfl, List.length_map .., hc', ?_⟩
    rcases ha with rfl | h0
    ·refine .inr ⟨bb, off + 1, rfl, hst.lt, fun i hi => ?_⟩
     have := hst.cell (i + 1) (by simpa using hi)
     rw [show off + 1 + i = off + (i + 1) by omega, this]
     simp
    ·exact .inl h0
   have HC0 : Hid (w2.cell? ⟨bb, off, none⟩ = some (.string (bl k)) ∧ bb < w2.heap.size) := ⟨c0, hbl⟩
   have HRZ : Hid (∀ x ∈ r.map bl, x.size ≤ 100000) := fun x hx => by
    obtain ⟨y, hy, rfl⟩ := List.mem_map.1 hx
    rw [bl_size]
    have := HR.out.2 y hy
    omega
   clear hst hln HWL c0 hbl
   go_wp2_with fail
   all_goals
    refine (numbers_any (HT.out _ _ (by first | exact .inl rfl | (right; omega)) (by omega)) H3.out.rdy.ready (by rw [List.length_map]; have := HR.out.1; omega) HRZ.out).mono ?_
    rintro e w3 ⟨hn, hb⟩
    have H4 : Hid (LkIn base w0 S R D G pw told t w3) := H3.out.after hb
    have c0 := cell_on HC0.out.1 hb
    have hbl : bb < w3.heap.size := Nat.lt_of_lt_of_le HC0.out.2 hb.size
    clear hb HC0 HT HRZ H3
    rcases hn with ⟨zs, v, hrd, rfl, hv⟩ | ⟨hrd, rfl⟩
    ·have HW : Hid (lineK t s.data.toList = cmdK t k zs) := by show _ = _; rw [HV.out]; exact wordsK_some hrd
     have HVL : Hid (ILst w3 v zs) := hv
     obtain ⟨va, vc, rfl⟩ := hv.len
     clear hrd hv
     go_wp2_with fail
     clear c0 hbl
     refine (ask_lk H4.out k HVL.out (by omega)).mono ?_
     rintro e w6 ⟨rfl, h6⟩
     have H6 : Hid (∃ pw', LkIn base w0 S R D G pw' (told ++ (lineK t s.data.toList).1) (lineK t s.data.toList).2 w6) := by rw [HW.out]; exact h6
     clear h6 H4
     go_wp2_with fail
     go_end0
     exact ⟨rfl, H6.out⟩
    ·have HW : Hid (lineK t s.data.toList = (whatW, t)) := by show _ = _; rw [HV.out]; exact wordsK_none hrd
     clear hrd
     go_wp2_with fail
     clear c0 hbl
     refine (H4.out.whats (by omega)).mono ?_
     rintro e w6 ⟨rfl, h6⟩
     have H6 : Hid (∃ pw', LkIn base w0 S R D G pw' (told ++ (lineK t s.data.toList).1) (lineK t s.data.toList).2 w6) := by rw [HW.out]; exact ⟨pw, h6⟩
     clear h6 H4
     go_wp2_with fail
     (try simp only [Exit.inBlock, Exit.then]); refine bodyPost_ret (results_none rfl _ _ _) rfl ?_
     exact ⟨rfl, H6.out⟩
end
end Go.Proofs.YtcbnnfeelhlapadGreatDoor

/-
  The desk as a thing in memory; New and Do.
-/
namespace Go.Proofs.YtcbnnfeelhlapadGreatDoor
set_option maxRecDepth 20000
open Go Go.RowKit
structure KdAt (base R D G : Nat) (pw : Nat → Nat) (told : List UInt8) (t : Twn) (w : World) (S : Nat → Prop) : Prop where
 lo : ∀ k, S k → base ≤ k ∧ k < w.heap.size
 own : ∃ tk, TR t tk ∧ ∃ ow, HpAt base (dkCs base D G pw t tk (updT (fun _ => Th.no base) 0 (Th.lk base R D told))) ow w ∧ ∀ k, ow k ≠ 0 → S k
def KdTo (base : Nat) (w : World) (S : Nat → Prop) (R D G : Nat) (pw : Nat → Nat) (told : List UInt8) (t : Twn) (w' : World) : Prop := KdAt base R D G pw told t w' (grow S w w') ∧ Kept S w w'
def Th.kd (base R D G : Nat) (pw : Nat → Nat) (t : Twn) : Th base :=
 ⟨fun w S => KdAt base R D G pw [] t w S, fun {w w' S T} _ h hk hd => by
  obtain ⟨tk, htr, ow, h1, h2⟩ := h.own
  have hs := hk.size
  refine ⟨fun k e => ⟨(h.lo k e).1, Nat.lt_of_lt_of_le (h.lo k e).2 hs⟩, tk, htr, ow, ⟨fun k e => ⟨(h1.lo k e).1, Nat.lt_of_lt_of_le (h1.lo k e).2 hs⟩, Nat.le_trans h1.bs hs, fun i hi => ?_⟩, h2⟩
  exact (dkCs base D G pw t tk (updT (fun _ => Th.no base) 0 (Th.lk base R D [])) i).kept (fun k e => h1.lo k (by rw [e]; exact hi)) (h1.at_ i hi) hk (fun k e => hd k (h2 k (by rw [e]; exact hi))), fun {w S T} h hT hl => by
  obtain ⟨tk, htr, ow, h1, h2⟩ := h.own
  exact ⟨hl, tk, htr, ow, h1, fun k e => hT k (h2 k e)⟩⟩
section
variable {base R D G : Nat} {pw : Nat → Nat} {w w0 wk w' : World} {S : Nat → Prop} {told : List UInt8} {t : Twn}
theorem KdAt.held (h : KdAt base R D G pw told t w S) : base ≤ w.heap.size ∧ ∀ k, S k → base ≤ k ∧ k < w.heap.size := by
 obtain ⟨tk, htr, ow, h1, h2⟩ := h.own
 exact ⟨h1.bs, h.lo⟩
theorem KdAt.start (h : KdAt base R D G pw told t w S) (hr : Rdy base w) : LkIn base w S R D G pw told t w := by
 obtain ⟨tk, htr, ow, h1, h2⟩ := h.own
 exact ⟨⟨tk, ⟨ow, h1, fun k e => .inl (h2 k e), Kept.refl _ _⟩, htr⟩, hr⟩
theorem LkIn.kept (h : LkIn base w0 S R D G pw told t wk) : Kept S w0 wk := by
 obtain ⟨⟨tk, h1, _⟩, _⟩ := h
 exact Hq.kept h1
theorem LkIn.done (h : LkIn base w S R D G pw told t w') (hl : base ≤ w.heap.size ∧ ∀ k, S k → base ≤ k ∧ k < w.heap.size) : KdTo base w S R D G pw told t w' := by
 have hk := h.kept
 have hs := hk.size
 obtain ⟨⟨tk, ⟨ow, h1⟩, h2⟩, _⟩ := h
 refine ⟨⟨fun k e => ?_, tk, h2, ow, h1.at_, h1.old⟩, hk⟩
 rcases e with e | e
 ·have := hl.2 k e; omega
 ·omega
theorem KdAt.below (h : KdAt base R D G pw [] t w S) (hb : Below w.heap.size w w') : KdAt base R D G pw [] t w' S :=
 (Th.kd base R D G pw t).kept h.held.2 h (Kept.of_below (S := fun _ => False) hb) (fun _ _ e => e)
theorem KdTo.since (hb : Below w.heap.size w wk) (h : KdTo base wk S R D G pw [] t w') (hl : base ≤ w.heap.size ∧ ∀ k, S k → base ≤ k ∧ k < w.heap.size) : KdTo base w S R D G pw [] t w' := by
 have s1 := hb.size
 have s2 := h.2.size
 refine ⟨(Th.kd base R D G pw t).mono h.1 (fun k e => ?_) (fun k e => ?_), (Kept.of_below hb).trans' h.2⟩
 ·rcases e with e | e
  ·exact .inl e
  ·exact .inr ⟨by omega, e.2⟩
 ·rcases e with e | e
  ·have := hl.2 k e; omega
  ·omega
theorem KdTo.out (h : KdTo base wk S R D G pw [] t w0) (hw : Kept S w w0) {B : Nat} (hB : w.heap.size ≤ B) (hB2 : B < wk.heap.size) (hS : ∀ k, S k → k < w.heap.size) (hk : Kept (fun k => k = B) w0 w') : KdAt base R D G pw [] t w' (grow S wk w0) ∧ Kept S w w' := by
 refine ⟨(Th.kd base R D G pw t).kept h.1.lo h.1 hk (fun k e e' => ?_), hk.os.trans hw.os, hk.tape.trans hw.tape, hk.output.trans hw.output, Nat.le_trans hw.size hk.size, fun k hk1 hs => ?_⟩
 ·rcases e with e | e
  ·have := hS k e; omega
  ·omega
 ·rw [hk.block k (Nat.lt_of_lt_of_le hk1 hw.size) (by omega)]
  exact hw.block k hk1 hs
abbrev kdZ (D : Nat) : Array Value := #[.pointer none, .slice none 0 0, .pointer (some ⟨D, 0, none⟩)]
abbrev kdW (w : World) : World := ((w.alloc (.cells logZ 104)).alloc (.cells (deskZ w.heap.size) 59)).alloc (.cells (kdZ (w.heap.size + 1)) 46)
theorem new_kd (w : World) : Calls Tryz.prog 7 #[] w fun e w' => e = .returned (.pointer (some ⟨w.heap.size + 2, 0, none⟩)) ∧ w' = kdW w := by
 go_enter Tryz.func7, Tryz.ntmps7
 go_wp2_with fail
 refine (new_dk w).mono ?_
 rintro e w1 ⟨rfl, rfl⟩
 go_wp2
 go_ret
 exact ⟨by simp, rfl⟩
theorem kd_start (w : World) (hb : base ≤ w.heap.size) : KdAt base (w.heap.size + 2) (w.heap.size + 1) w.heap.size (fun _ => 0) [] twn0 (kdW w) (fun k => w.heap.size ≤ k ∧ k < (kdW w).heap.size) := by
 have hsz : (kdW w).heap.size = w.heap.size + 3 := by simp
 have h0 : Hq base (fun _ => Th.no base) w (fun _ => False) w := ⟨fun _ => 0, ⟨fun _ e => absurd rfl e, hb, fun _ _ => trivial⟩, fun _ e => absurd rfl e, Kept.refl _ _⟩
 have h1 := Hq.lay h0 (below1 w (.cells logZ 104)) (i := 1) (by omega) (Th.log base w.heap.size Bk.empty) ⟨_, _, (logAt_start w hb).mono (fun k e => ⟨by omega, by simp; omega⟩) (fun k e => ⟨by omega, e.2⟩)⟩
 have h2 := Hq.lay h1 (below1 _ (.cells (deskZ w.heap.size) 59)) (i := 6) (by omega) (Th.tw base (w.heap.size + 1) w.heap.size (fun _ => 0) (hasW twn0)) ⟨⟨by simp, by simp⟩, by have := twC_start (w.alloc (.cells logZ 104)) w.heap.size; simpa using this⟩
 have hlk : LkAt (kdW w) base (fun k => ((w.alloc (.cells logZ 104)).alloc (.cells (deskZ w.heap.size) 59)).heap.size ≤ k ∧ k < (kdW w).heap.size) (w.heap.size + 2) (w.heap.size + 1) [] := by
  refine ⟨⟨by simp, by simp⟩, .pointer none, .slice none 0 0, .inl rfl, ?_, World.ownsRow_nil _ _ _ _, fun _ e => (by cases e), fun _ => rfl⟩
  have := heap_alloc_new ((w.alloc (.cells logZ 104)).alloc (.cells (deskZ w.heap.size) 59)) (.cells (kdZ (w.heap.size + 1)) 46)
  simpa using this
 have h3 := Hq.lay h2 (below1 _ (.cells (kdZ (w.heap.size + 1)) 46)) (i := 7) (by omega) (Th.lk base (w.heap.size + 2) (w.heap.size + 1) []) hlk
 have h4 : DkIn base w (fun _ => False) (w.heap.size + 1) w.heap.size (fun _ => 0) twn0 (fun _ => []) (updT (fun _ => Th.no base) 0 (Th.lk base (w.heap.size + 2) (w.heap.size + 1) [])) (kdW w) := dkIn_of h3 (fun T hp => hp) (fun T hp => hp) (fun k hk T hp => by show (Th.no _).P _ T; trivial) (fun j T hp => by
  by_cases e : j = 0
  ·subst e; exact hp
  ·rw [updT_other _ _ e]; trivial)
 obtain ⟨ow, h5⟩ := h4
 refine ⟨fun k e => ⟨by omega, e.2⟩, fun _ => [], tr_start, ow, h5.at_, fun k e => ?_⟩
 rcases h5.old k e with x | x
 ·exact x.elim
 ·exact x
theorem kdo_end {Q : Ending → World → Prop} {a : Act} {w : World} {B : Nat} {c f : Int} {v : Value} (h : TwoC w B c f) (h2 : a.tmps.getD 4 undef = v) (h3 : a.tmps.getD 5 undef = .pointer (some ⟨B, 0, none⟩)) (hd : a.defers = [])
 (hR : Q (.returned (.tuple #[v, ftV c f])) w) : bodyPost Tryz.prog Tryz.f9 Q Exit.ret a w := by
 refine bodyPost_ret ?_ hd hR
 rw [results_tmp_cell rfl, h2, h3]
 simp [asAddr, load_two h]
theorem LkTo.reset {T : Nat → Prop} {w1 w2 : World} (hl : base ≤ wk.heap.size ∧ ∀ k, T k → base ≤ k ∧ k < wk.heap.size) (h1 : Kept T wk w1) (h2 : LkTo w1 base T R D [] w2) : LkTo wk base T R D [] w2 := by
 have s1 := h1.size
 have s2 := h2.2.size
 refine ⟨(Th.lk base R D []).mono h2.1 (fun k e => ?_) (fun k e => ?_), h1.trans' h2.2⟩
 ·rcases e with e | e
  ·exact .inl e
  ·exact .inr ⟨by omega, e.2⟩
 ·rcases e with e | e
  ·have := hl.2 k e; omega
  ·omega
theorem faultK_few {l : List (List UInt8)} (h : faultK l = (0, 0)) : l.length ≤ 150 := by
 rcases Nat.lt_or_ge 150 l.length with h' | h'
 ·rw [fault_big h'] at h; cases h
 ·exact h'
set_option maxHeartbeats 3200000 in
theorem do_kd (h : KdAt base R D G pw [] t w S) (hr : Rdy base w) {v : Value} {ls : List ByteArray} (hv : ∀ wk, Kept S w wk → StrLst wk v ls) (hz : ∀ s ∈ ls, s.size ≤ 10000) (hf : faultK (ls.map (·.data.toList)) = (0, 0)) :
 Calls Tryz.prog 9 #[.pointer (some ⟨R, 0, none⟩), v] w fun e w' => e = .returned (.tuple #[.string (bl (doK t (ls.map (·.data.toList))).1), ftV 0 0]) ∧ (doK t (ls.map (·.data.toList))).1.length ≤ 30000 * ls.length ∧ ∃ pw', KdTo base w S R D G pw' [] (doK t (ls.map (·.data.toList))).2 w' := by
 have hn : ls.length ≤ 150 := by have := faultK_few hf; rw [List.length_map] at this; exact this
 have HV : Hid (∀ wk, Kept S w wk → StrLst wk v ls) := hv
 have HZ : Hid (∀ s ∈ ls, s.size ≤ 10000) := hz
 have HK : Hid (KdAt base R D G pw [] t w S) := h
 have HRD : Hid (Rdy base w) := hr
 have HF : Hid (faultK (ls.map (·.data.toList)) = (0, 0)) := hf
 have HRF : Hid (Calls Tryz.prog 14 #[v] (w.alloc (.cells #[.int .i64 0, .int .i64 0] 31)) fun e w' => e = .returned (fkV (faultK (ls.map (·.data.toList)))) ∧ Below (w.alloc (.cells #[.int .i64 0, .int .i64 0] 31)).heap.size (w.alloc (.cells #[.int .i64 0, .int .i64 0] 31)) w') := refused_any (hv _ (.of_below (below1 _ _)))
 have HT0 : Hid (TwoC (w.alloc (.cells #[.int .i64 0, .int .i64 0] 31)) w.heap.size 0 0) := twoC_start w 0 0
 obtain ⟨a, cap, rfl, _⟩ := (hv w (Kept.refl _ _)).len
 rw [hf] at HRF
 clear h hr hv hz hf
 go_enter Tryz.func9, Tryz.ntmps9
 go_wp2_with fail
 refine HRF.out.mono ?_
 rintro e w1 ⟨rfl, hb⟩
 have hB1 : Below w.heap.size w w1 := bla (below1 _ _) hb
 have HB2 : Hid (Below w.heap.size w (w1.alloc (.cells #[.int .i64 0, .int .i64 0] 31))) := bla hB1 (below1 _ _)
 have HT2 : Hid (TwoC (w1.alloc (.cells #[.int .i64 0, .int .i64 0] 31)) w.heap.size 0 0) := HT0.out.below (by simp) (bla hb (below1 _ _))
 have HLT : Hid (w.heap.size < (w1.alloc (.cells #[.int .i64 0, .int .i64 0] 31)).heap.size) := by show _ < _; have := hb.size; simp at this ⊢; omega
 clear hb hB1 HT0 HRF
 go_upto_region 4 with fail
 have HI2 : Hid (LkIn base (w1.alloc (.cells #[.int .i64 0, .int .i64 0] 31)) S R D G pw [] t (w1.alloc (.cells #[.int .i64 0, .int .i64 0] 31))) := (HK.out.below HB2.out).start (HRD.out.after HB2.out)
 generalize World.alloc _ _ = w2 at *
 go_wp2_with fail
 go_loopw [18] (fun i wr => ∃ k : Nat, k ≤ ls.length ∧ i = .int .i64 k ∧ Hid (∃ pw', LkIn base w2 S R D G pw' (doK t ((ls.map (·.data.toList)).take k)).1 (doK t ((ls.map (·.data.toList)).take k)).2 wr) ∧ Hid ((doK t ((ls.map (·.data.toList)).take k)).1.length ≤ 30000 * k)) (fun i _ => ls.length - (intOf i).toNat)
 case atStart => exact ⟨0, Nat.zero_le _, rfl, ⟨pw, HI2.out⟩, Nat.le_refl _⟩
 case round =>
  obtain ⟨k, hk, rfl, HW, HLN⟩ := hrel
  clear HI2
  obtain ⟨pw3, h3⟩ := HW.out
  have HKW : Hid (Kept S w wr) := (Kept.of_below HB2.out).trans' h3.kept
  by_cases hlt : k < ls.length
  ·have hki : (k : Int) < (ls.length : Int) := by omega
   obtain ⟨bb, off, rfl, hst⟩ := (HV.out wr HKW.out).row (by omega)
   have c0 := hst.cell k hlt
   have hbl := hst.lt
   have HX : Hid ((ls.map (·.data.toList)).take (k + 1) = (ls.map (·.data.toList)).take k ++ [ls[k].data.toList]) := by
    show _ = _
    rw [List.take_succ_eq_append_getElem (by rw [List.length_map]; exact hlt), List.getElem_map]
   have HSZ : Hid (ls[k].size ≤ 10000) := HZ.out _ (List.getElem_mem hlt)
   generalize ls[k] = s at *
   have HH3 : Hid (LkIn base w2 S R D G pw3 (doK t ((ls.map (·.data.toList)).take k)).1 (doK t ((ls.map (·.data.toList)).take k)).2 wr) := h3
   clear hst h3 HW
   go_wp2_with fail
   refine (doLine_lk HH3.out s HSZ.out (by have := HLN.out; omega)).mono ?_
   rintro e w4 ⟨rfl, h4⟩
   have H4 : Hid (∃ pw', LkIn base w2 S R D G pw' (doK t ((ls.map (·.data.toList)).take (k + 1))).1 (doK t ((ls.map (·.data.toList)).take (k + 1))).2 w4) := by rw [HX.out, doK_snoc]; exact h4
   have HL4 : Hid ((doK t ((ls.map (·.data.toList)).take (k + 1))).1.length ≤ 30000 * (k + 1)) := by
    show _ ≤ _
    rw [HX.out, doK_snoc]
    obtain ⟨tk, _, htr⟩ := HH3.out.any
    have := line_len htr s.data.toList
    have := HLN.out
    show ((doK t _).1 ++ _).length ≤ _
    rw [List.length_append]
    omega
   clear h4 HH3 c0 hbl
   go_wp2_with fail
   go_roundw
   case rel => exact ⟨k + 1, by omega, by go_num, H4.out, HL4.out⟩
   case measure => simp [intOf]; omega
  ·obtain rfl : k = ls.length := by omega
   have HE : Hid ((ls.map (·.data.toList)).take ls.length = ls.map (·.data.toList)) := by show _ = _; rw [← List.length_map (f := fun s : ByteArray => s.data.toList)]; exact List.take_length
   rw [HE.out] at h3 HLN
   obtain ⟨T, a1, a2, a3⟩ := h3.turn
   have HA1 : Hid (LkAt wr base T R D (doK t (ls.map (·.data.toList))).1) := a1
   have HA2 : Hid (base ≤ wr.heap.size ∧ ∀ k, T k → base ≤ k ∧ k < wr.heap.size) := a2
   have HA3 : Hid (∀ told' w', LkTo wr base T R D told' w' → LkIn base w2 S R D G pw3 told' (doK t (ls.map (·.data.toList))).2 w') := a3
   clear a1 a2 a3 h3 HW
   have hlz : (doK t (ls.map (·.data.toList))).1.length ≤ 2000000000 := by have := HLN.out; omega
   go_wp2_with fail
   refine (string_lk HA1.out hlz).mono ?_
   rintro e w4 ⟨rfl, hk4, hb4⟩
   have HK4 : Hid (Kept T wr w4) := hk4
   have HB4 : Hid (∃ p v, w4.heap[R]? = some (.cells #[p, v, .pointer (some ⟨D, 0, none⟩)] 46 (0, 0))) := hb4
   clear hk4 hb4
   go_wp2_with fail
   refine (reset_lk (S := T) (base := base) HA1.out.hR HB4.out).mono ?_
   rintro e w5 ⟨rfl, h5⟩
   have h6 : LkIn base w2 S R D G pw3 [] (doK t (ls.map (·.data.toList))).2 w5 := HA3.out _ _ (LkTo.reset HA2.out HK4.out h5)
   have h7 := h6.done (held_below HK.out.held HB2.out)
   have HK5 : Hid (Kept S w w5) := (Kept.of_below HB2.out).trans' h6.kept
   have HT5 : Hid (TwoC w5 w.heap.size 0 0 ∧ w.heap.size < w5.heap.size) := by
    have hbk := h6.kept.block w.heap.size HLT.out (fun e => by have := (HK.out.lo _ e).2; omega)
    have hc : ∀ o, w5.cell? ⟨w.heap.size, o, none⟩ = w2.cell? ⟨w.heap.size, o, none⟩ := fun o => World.cell?_of_block (a := ⟨w.heap.size, o, none⟩) hbk
    have hf : ∀ o, w5.frozen? ⟨w.heap.size, o, none⟩ = w2.frozen? ⟨w.heap.size, o, none⟩ := fun o => World.frozen?_of_block (a := ⟨w.heap.size, o, none⟩) hbk
    exact ⟨⟨by rw [hc]; exact HT2.out.c0, by rw [hc]; exact HT2.out.c1, by rw [hf]; exact HT2.out.f0, by rw [hf]; exact HT2.out.f1⟩, Nat.lt_of_lt_of_le HLT.out h6.kept.size⟩
   have HOUT : Hid (∃ pw', KdTo base w S R D G pw' [] (doK t (ls.map (·.data.toList))).2 ((w5.setCell ⟨w.heap.size, 0, none⟩ (.int .i64 0)).setCell ⟨w.heap.size, 1, none⟩ (.int .i64 0))) := by
    have hkk : Kept (fun k => k = w.heap.size) w5 ((w5.setCell ⟨w.heap.size, 0, none⟩ (.int .i64 0)).setCell ⟨w.heap.size, 1, none⟩ (.int .i64 0)) := ((Kept.refl (fun k => k = w.heap.size) w5).set (p := ⟨w.heap.size, 0, none⟩) rfl _).set (p := ⟨w.heap.size, 1, none⟩) rfl _
    obtain ⟨q1, q2⟩ := h7.out HK5.out (Nat.le_refl _) HLT.out (fun k e => (HK.out.lo k e).2) hkk
    refine ⟨pw3, (Th.kd base R D G pw3 _).mono q1 (fun k e => ?_) (fun k e => ?_), q2⟩
    ·have s1 := HB2.out.size
     have s2 := hkk.size
     rcases e with e | e
     ·exact .inl e
     ·exact .inr ⟨by omega, by omega⟩
    ·have s1 := q2.size
     rcases e with e | e
     ·have := HK.out.lo k e; omega
     ·have := HK.out.held.1; omega
   obtain ⟨⟨c0, c1, f0, f1⟩, hlt5⟩ := HT5.out
   have HT6 : Hid (TwoC ((w5.setCell ⟨w.heap.size, 0, none⟩ (.int .i64 0)).setCell ⟨w.heap.size, 1, none⟩ (.int .i64 0)) w.heap.size 0 0) := HT5.out.1.put 0 0
   clear h5 h6 h7 HA1 HA2 HA3
   go_wp2
   refine kdo_end HT6.out rfl rfl rfl ?_
   exact ⟨rfl, HLN.out, HOUT.out⟩
set_option maxHeartbeats 1600000 in
theorem do_kd_no {v : Value} {ls : List ByteArray} (hv : StrLst w v ls) {c i : Int} (hf : faultK (ls.map (·.data.toList)) = (c, i)) (hc : c ≠ 0) :
 Calls Tryz.prog 9 #[.pointer (some ⟨R, 0, none⟩), v] w fun e w' => e = .returned (.tuple #[.string ⟨#[]⟩, ftV c i]) ∧ Below w.heap.size w w' := by
 have HRF : Hid (Calls Tryz.prog 14 #[v] (w.alloc (.cells #[.int .i64 0, .int .i64 0] 31)) fun e w' => e = .returned (fkV (faultK (ls.map (·.data.toList)))) ∧ Below (w.alloc (.cells #[.int .i64 0, .int .i64 0] 31)).heap.size (w.alloc (.cells #[.int .i64 0, .int .i64 0] 31)) w') := refused_any (hv.below (below1 _ _))
 have HT0 : Hid (TwoC (w.alloc (.cells #[.int .i64 0, .int .i64 0] 31)) w.heap.size 0 0) := twoC_start w 0 0
 obtain ⟨a, cap, rfl, _⟩ := hv.len
 rw [hf] at HRF
 have hcb : (c == 0) = false := by simpa using hc
 clear hv hf
 go_enter Tryz.func9, Tryz.ntmps9
 go_wp2_with fail
 refine HRF.out.mono ?_
 rintro e w1 ⟨rfl, hb⟩
 have hB1 : Below w.heap.size w w1 := bla (below1 _ _) hb
 have HB2 : Hid (Below w.heap.size w (w1.alloc (.cells #[.int .i64 c, .int .i64 i] 31))) := bla hB1 (below1 _ _)
 have HT2 : Hid (TwoC (w1.alloc (.cells #[.int .i64 c, .int .i64 i] 31)) w.heap.size 0 0) := HT0.out.below (by simp) (bla hb (below1 _ _))
 have HN2 : Hid (TwoC (w1.alloc (.cells #[.int .i64 c, .int .i64 i] 31)) w1.heap.size c i) := twoC_start w1 c i
 have HLT : Hid (w.heap.size < w1.heap.size ∧ w1.heap.size < (w1.alloc (.cells #[.int .i64 c, .int .i64 i] 31)).heap.size) := by
  have := hb.size
  simp at this
  exact ⟨by omega, by simp⟩
 clear hb hB1 HT0 HRF
 go_upto_region 3 with fail
 generalize World.alloc _ _ = w2 at *
 generalize hBF : w1.heap.size = BF at *
 obtain ⟨c0, c1, f0, f1⟩ := HT2.out
 obtain ⟨d0, d1, _, _⟩ := HN2.out
 obtain ⟨l1, l2⟩ := HLT.out
 have l3 : w.heap.size < w2.heap.size := by omega
 have HT6 : Hid (TwoC ((w2.setCell ⟨w.heap.size, 0, none⟩ (.int .i64 c)).setCell ⟨w.heap.size, 1, none⟩ (.int .i64 i)).drew w.heap.size c i) := (HT2.out.put c i).below (by simpa [World.setCell] using l3) (Below.refl _ _).drew
 have HB6 : Hid (Below w.heap.size w ((w2.setCell ⟨w.heap.size, 0, none⟩ (.int .i64 c)).setCell ⟨w.heap.size, 1, none⟩ (.int .i64 i)).drew) := (below_put2 HB2.out (Nat.le_refl _) c i).drew
 clear HT2 HN2 HLT HB2
 go_region
 all_goals
  go_wp2
  refine kdo_end HT6.out rfl rfl rfl ?_
  exact ⟨rfl, HB6.out⟩
end
end Go.Proofs.YtcbnnfeelhlapadGreatDoor
