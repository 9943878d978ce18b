/-
  Of the law FoldMeets: texts in chunks, and the way out for great texts .
-/
import Derived.Test.YtgcklgiapjbkhaaFDeeds
import Derived.Test.YtgcklgiapjbkhaaFSplP
import Derived.Lib.MinMax
namespace Go.Proofs.Ytgcklgiapjbkhaa
open Go.RowKit

theorem chunk_text (s : ByteArray) (j : Nat) : s.extract (20 * j) (min s.size (20 * j + 20)) = (chunkD s.data.toList j).text := by
  apply ba_ext
  rw [ByteArray.data_extract, Array.toList_extract, List.extract_eq_take_drop]
  show _ = (((s.data.toList.drop (20 * j)).take 20).toArray).toList
  rw [List.toList_toArray]
  by_cases h : 20 * j + 20 ≤ s.size
  · rw [Nat.min_eq_right h, show 20 * j + 20 - 20 * j = 20 by omega]
  · rw [Nat.min_eq_left (by omega)]
    have hl : (s.data.toList.drop (20 * j)).length = s.size - 20 * j := by rw [List.length_drop, size_list]
    rw [List.take_of_length_le (by rw [hl]; exact Nat.le_refl _), List.take_of_length_le (by rw [hl]; omega)]

theorem chunks_snoc (s : List UInt8) (j : Nat) : (List.range (j + 1)).map (chunkD s) = (List.range j).map (chunkD s) ++ [chunkD s j] := by
  rw [List.range_succ, List.map_append]
  rfl

theorem below_grown {w wr w2 : World} {base : Nat} {v : Value} {l : List Dd} {o : Obj} (hb : Below w.heap.size w wr) (ho : OwnD wr base v l) (hbase : w.heap.size ≤ base) (hg : (wr.alloc o).grownBy w2 v.ownBlock) : Below w.heap.size w w2 :=
  (hb.alloc hb.size _).grown hg (by have := hb.size; simp; omega) (fun j hj => Nat.le_trans hbase (World.ownsRow.lt ho j hj).1)

set_option maxHeartbeats 1600000 in
theorem meets_great (s a b : ByteArray) (at_ : Int) (w : World) (hs : s.size + a.size + b.size ≤ 4611686018427387904) (hg : 100 < s.size + a.size + b.size) :
    Calls Try.prog 8 #[.string s, .int .i64 at_, .string a, .string b] w fun e w' => e = .returned (.bool true) ∧ Below w.heap.size w w' := by
  go_enter Try.func8, Try.ntmps8
  go_wp2_with fail
  refine (fbegun_any _).mono ?_
  rintro e w1 ⟨rfl, hb1⟩
  have HB1 : Hid (Below w.heap.size w w1) := hb1
  clear hb1
  go_wp2
  go_ret
  exact ⟨rfl, HB1.out⟩

theorem place_mod (at_ : Int) (n : Nat) (hn : n ≤ 100) : ∃ k : Nat, k ≤ n ∧ wrap64 ((IntKind.u64.wrap at_).tmod ((n : Int) + 1)) = k := by
  have h0 : 0 ≤ IntKind.u64.wrap at_ := by
    show 0 ≤ at_ % _
    exact Int.emod_nonneg _ (by decide)
  rw [Int.tmod_eq_emod_of_nonneg h0]
  have h1 := Int.emod_nonneg (IntKind.u64.wrap at_) (show ((n : Int) + 1) ≠ 0 by omega)
  have h2 := Int.emod_lt_of_pos (IntKind.u64.wrap at_) (show (0 : Int) < (n : Int) + 1 by omega)
  generalize IntKind.u64.wrap at_ % ((n : Int) + 1) = r at h1 h2
  obtain ⟨k, rfl⟩ := Int.eq_ofNat_of_zero_le h1
  exact ⟨k, by omega, by unfold wrap64; omega⟩

/-- What holds in the middle of the law's end: the fault, and the deeds. -/
structure EInv (w : World) (B : Nat) (c : Int) (t : Nat) (b off : Nat) (ds : List Dd) (wk : World) : Prop where
  below : Below w.heap.size w wk
  lt : B < wk.heap.size
  two : TwoC wk B c t
  deeds : Deeds wk b off ds

theorem EInv.after {w wk w' : World} {B : Nat} {c : Int} {t b off : Nat} {ds : List Dd} (h : EInv w B c t b off ds wk) (hb : Below wk.heap.size wk w') : EInv w B c t b off ds w' :=
  ⟨below_after h.below hb, by have := h.lt; have := hb.size; omega, h.two.below h.lt hb, h.deeds.below hb⟩

theorem EInv.drew {w wk : World} {B : Nat} {c : Int} {t b off : Nat} {ds : List Dd} (h : EInv w B c t b off ds wk) : EInv w B c t b off ds wk.drew := h.after (Below.refl _ _).drew

theorem EInv.check {w wk : World} {B : Nat} {c : Int} {t b off : Nat} {ds : List Dd} (h : EInv w B c t b off ds wk) (d : Dd) : Calls Try.prog 23 #[ddV d] wk fun e w' => e = .returned (.int .i64 (checkC d)) ∧ EInv w B c t b off ds w' :=
  (check_any d wk).mono fun _ _ ⟨he, hb⟩ => ⟨he, h.after hb⟩

theorem EInv.nth {w wk : World} {B : Nat} {c : Int} {t b off : Nat} {ds : List Dd} (h : EInv w B c t b off ds wk) {d : Dd} (hd : ds[t]? = some d) : DdAt wk b (off + t * 7) d := by
  obtain ⟨hlt, rfl⟩ := List.getElem?_eq_some_iff.1 hd
  exact h.deeds.at_ t hlt

theorem DLst.row2 {w : World} {v : Value} {ds : List Dd} (h : DLst w v ds) (hp : 0 < ds.length) : ∃ b off cap, v = .slice (some ⟨b, off, none⟩) ds.length cap ∧ Deeds w b off ds := by
  obtain ⟨a', len, cap', rfl, h1, h2, h3⟩ := h
  rcases h3 with h3 | ⟨b, off, rfl, hd⟩
  · omega
  · exact ⟨b, off, cap', by rw [h1], hd⟩

structure XInv (w : World) (v : Value) (xs : List Ch) (wk : World) : Prop where
  below : Below w.heap.size w wk
  lst : Lst wk v xs

theorem XInv.text {w wk : World} {v : Value} {xs : List Ch} (h : XInv w v xs wk) (hl : xs.length ≤ 1000) :
    Calls Try.prog 25 #[v] wk fun e w' => e = .returned (.string (strOfNums (textL xs))) ∧ XInv w v xs w' :=
  (text_lst h.lst hl).mono fun _ _ ⟨he, hb2⟩ => ⟨he, below_after h.below hb2, h.lst.below hb2⟩

theorem small_all2 : ∀ {ds : List Dd} {l : List Ch} {i : Nat}, Small l → (allL l i ds).1.length ≤ 200
  | [], l, i, h => h.len
  | d :: r, l, i, h => by
    rw [allL]
    by_cases hc : doC l d ((i : Int) + 1) = 0
    · rw [if_neg (fun e => e hc)]
      exact small_all2 (small_do h.fits hc)
    · rw [if_pos hc]
      exact Nat.zero_le _

theorem ends_law {s a b : ByteArray} {j k : Nat} (hs : s.size + a.size + b.size ≤ 100) (hk : k ≤ s.size) (hj : s.size ≤ 20 * j) (hj2 : 20 * j < s.size + 20) :
    Ends (bytesN (s.data.toList.take k) ++ (nums b ++ (nums a ++ bytesN (s.data.toList.drop k)))) 0 ((List.range j).map (chunkD s.data.toList) ++ [⟨1, 1, 1, j, k, 0, a⟩, ⟨1, 2, 1, j, k, 0, b⟩]) (allL [] 0 ((List.range j).map (chunkD s.data.toList) ++ [⟨1, 1, 1, j, k, 0, a⟩, ⟨1, 2, 1, j, k, 0, b⟩])) := by
  have hl : s.data.toList.length = s.size := rfl
  have := meets_all (base := s.data.toList) (k := k) (da := ⟨1, 1, 1, j, k, 0, a⟩) (db := ⟨1, 2, 1, j, k, 0, b⟩) (n := j) (by omega) (by omega) (by simp only; omega) (by omega) (by omega) rfl rfl rfl rfl rfl rfl rfl rfl rfl rfl j 0 [] (by omega) (fun x hx => by simp at hx) (by simp [bytesN])
  rw [← List.range_eq_range'] at this
  exact this

theorem meets_text {s a b : ByteArray} {k : Nat} {xs : List Ch} (hv : vw xs (openN - 1) (-1) = bytesN (s.data.toList.take k) ++ (nums b ++ (nums a ++ bytesN (s.data.toList.drop k)))) (hp : Plain 200 xs) :
    strOfNums (textL xs) = s.extract 0 k ++ b ++ a ++ s.extract k s.size := by
  rw [vw_all (plain_sees hp (by unfold openN; omega))] at hv
  rw [textL_plain hp (by unfold openN; omega), hv, strOfNums_app, strOfNums_app, strOfNums_app, strOfNums_nums, strOfNums_nums]
  have e1 : bytesN (s.data.toList.take k) = (nums s).take k := by simp [bytesN, nums, List.map_take]
  have e2 : bytesN (s.data.toList.drop k) = (nums s).drop k := by simp [bytesN, nums, List.map_drop]
  have t1 := str_take (nums s) k
  have t2 := str_drop (nums s) k
  rw [strOfNums_nums] at t1 t2
  rw [e1, e2, ← t1, ← t2, ByteArray.append_assoc, ByteArray.append_assoc]

set_option maxHeartbeats 3200000 in
theorem meets_some (s a b : ByteArray) (at_ : Int) (w : World) (hs : s.size + a.size + b.size ≤ 100) :
    Calls Try.prog 8 #[.string s, .int .i64 at_, .string a, .string b] w fun e w' => e = .returned (.bool true) ∧ Below w.heap.size w w' := by
  go_enter Try.func8, Try.ntmps8
  go_wp2_with fail
  refine (fbegun_any _).mono ?_
  rintro e w1 ⟨rfl, hb1⟩
  have HB1 : Hid (Below w.heap.size w w1) := hb1
  clear hb1
  go_wp2
  go_loopw [9, 10, 11] (fun v n i wr => ∃ j : Nat, i = .int .i64 ((20 * j : Nat) : Int) ∧ n = .int .i64 j ∧ 20 * j < s.size + 20 ∧ Hid (OwnD wr w.heap.size v ((List.range j).map (chunkD s.data.toList))) ∧ Hid (Below w.heap.size w wr)) (fun _ _ i _ => 200 - (intOf i).toNat)
  case atStart => exact ⟨0, rfl, rfl, by omega, ownD_nil _ _, HB1⟩
  case round =>
    obtain ⟨j, rfl, rfl, hj, HO, HB⟩ := hrel
    clear HB1
    by_cases hlt : 20 * j < s.size
    · have HC : Hid _ := chunk_text s j
      have hmin : min (s.size : Int) (20 * (j : Int) + 20) = ((min s.size (20 * j + 20) : Nat) : Int) := by omega
      have he1 : min s.size (20 * j + 20) ≤ s.size := by omega
      have he2 : 20 * j ≤ min s.size (20 * j + 20) := by omega
      generalize min s.size (20 * j + 20) = E at *
      go_wp2_with (at_builtin; refine append_deeds _ ?r1 (.tmp 34) (.tmp 48) ?r2 w.heap.size wr.heap.size 1 (v := ?vv) (a := (List.range j).map (chunkD s.data.toList)) (b := [chunkD s.data.toList j]) ?r3 ?r4 ?c0 ?c1 ?c2 ?c3 ?_)
      case r1 => rfl
      case r2 => rfl
      case r3 => rfl
      case r4 => rfl
      case c0 => exact HO.out.below ((Below.refl _ _).alloc (Nat.le_refl _) _)
      case c1 =>
        refine src_new wr [chunkD s.data.toList j] _ ?_
        rw [HC.out]
        rfl
      case c2 => simp; omega
      case c3 => have := HB.out.size; simp; omega
      · intro v' w2 ho hg
        have HB2 : Hid (Below w.heap.size w w2) := below_grown HB.out HO.out (Nat.le_refl _) hg
        have HO2 : Hid (OwnD w2 w.heap.size v' ((List.range (j + 1)).map (chunkD s.data.toList))) := by show OwnD _ _ _ _; rw [chunks_snoc]; exact ho
        clear ho hg HO HB HC
        go_wp2
        go_roundw
        case rel => exact ⟨j + 1, by go_num, by go_num, by omega, HO2, HB2⟩
        case measure => simp [intOf]; omega
    · obtain ⟨k, hk, hkv⟩ := place_mod at_ s.size (by omega)
      go_wp2_with (at_builtin; refine append_deeds _ ?s1 (.tmp 58) (.tmp 67) ?s2 w.heap.size wr.heap.size 2 (v := ?vw) (a := (List.range j).map (chunkD s.data.toList)) (b := [⟨1, 1, 1, j, k, 0, a⟩, ⟨1, 2, 1, j, k, 0, b⟩]) ?s3 ?s4 ?d0 ?d1 ?d2 ?d3 ?_)
      case s1 => rfl
      case s2 => rfl
      case s3 => rfl
      case s4 => rfl
      case d0 => exact HO.out.below ((Below.refl _ _).alloc (Nat.le_refl _) _)
      case d1 =>
        refine src_new wr [⟨1, 1, 1, j, k, 0, a⟩, ⟨1, 2, 1, j, k, 0, b⟩] _ ?_
        rfl
      case d2 => simp; omega
      case d3 => have := HB.out.size; simp; omega
      · intro v2 w2 ho hg
        have HB2 : Hid (Below w.heap.size w w2) := below_grown HB.out HO.out (Nat.le_refl _) hg
        have HO2 : Hid (DLst w2 v2 ((List.range j).map (chunkD s.data.toList) ++ [⟨1, 1, 1, j, k, 0, a⟩, ⟨1, 2, 1, j, k, 0, b⟩])) := ho.dlst
        clear ho hg HO HB
        have HE : Hid (Ends _ 0 ((List.range j).map (chunkD s.data.toList) ++ [⟨1, 1, 1, j, k, 0, a⟩, ⟨1, 2, 1, j, k, 0, b⟩]) (allL [] 0 ((List.range j).map (chunkD s.data.toList) ++ [⟨1, 1, 1, j, k, 0, a⟩, ⟨1, 2, 1, j, k, 0, b⟩]))) := ends_law hs hk (by omega) hj
        have hdl : (((List.range j).map (chunkD s.data.toList) ++ [⟨1, 1, 1, j, k, 0, a⟩, ⟨1, 2, 1, j, k, 0, b⟩]) : List Dd).length = j + 2 := by simp
        generalize ((List.range j).map (chunkD s.data.toList) ++ [⟨1, 1, 1, j, k, 0, a⟩, ⟨1, 2, 1, j, k, 0, b⟩]) = ds at *
        go_wp2_with fail
        refine (all_lst HO2.out (by omega)).mono ?_
        rintro e w3 ⟨v3, rfl, ho3, hb3⟩
        have HB3 : Hid (Below w.heap.size w w3) := below_after HB2.out hb3
        have HO3 : Hid (DLst w3 v2 ds) := HO2.out.below hb3
        obtain ⟨a3, cap3, rfl, _⟩ := ho3.lst.len
        have HX3 : Hid (Lst w3 (.slice a3 (allL [] 0 ds).1.length cap3) (allL [] 0 ds).1) := ho3.lst
        have hxl : (allL [] 0 ds).1.length ≤ 200 := small_all2 (sofar_start ds).1
        clear hb3 ho3 HO2 HB2
        rcases HE.out with ⟨hz, hv, hp⟩ | ⟨hnz, hnil, t, ht, d, hd, hcd⟩
        · have HTX : Hid (strOfNums (textL (allL [] 0 ds).1) = s.extract 0 k ++ b ++ a ++ s.extract k s.size) := meets_text hv hp
          rw [hz]
          generalize (allL [] 0 ds).1 = xs at *
          generalize ((allL [] 0 ds).2.2 : Int) = f at *
          have hP0 : (s.extract 0 k).size ≤ 100 := by rw [ByteArray.size_extract]; omega
          have hP1 : (s.extract k s.size).size ≤ 100 := by rw [ByteArray.size_extract]; omega
          have HI : Hid (∀ o, XInv w (.slice a3 xs.length cap3) xs (w3.alloc o).drew) := fun o => by
            have h1 : Below w3.heap.size w3 (w3.alloc o).drew := ((Below.refl _ _).alloc (Nat.le_refl _) _).drew
            exact ⟨below_after HB3.out h1, HX3.out.below h1⟩
          clear hv hp hz HB3 HX3 HE HO3
          go_wp2
          refine wp_region_quiet (C := fun wk => XInv w (.slice a3 xs.length cap3) xs wk) (by kernel_rfl) (by kernel_rfl) (HI.out _) ?_
          refine wpQuiet_step (fun K hK => ?_)
          go_simp
          refine ⟨_, fun _ _ => rfl, hK _ ?_⟩
          clear hK K
          refine wpQuiet_step (fun K hK => ?_)
          go_simp
          refine ⟨_, fun wk hwk => hwk.text (by omega), hK _ ?_⟩
          clear hK K
          refine wpQuiet_step (fun K hK => ?_)
          go_simp
          refine ⟨_, fun _ _ => rfl, hK _ ?_⟩
          clear hK K
          refine wpQuiet_step (fun K hK => ?_)
          go_simp
          refine ⟨_, fun _ _ => rfl, hK _ ?_⟩
          clear hK K
          refine wpQuiet_step (fun K hK => ?_)
          go_simp
          refine ⟨.string (s.extract 0 k), fun wk hwk => ?_, hK _ ?_⟩
          · go_simp
          clear hK K
          refine wpQuiet_step (fun K hK => ?_)
          go_simp
          refine ⟨_, fun _ _ => rfl, hK _ ?_⟩
          clear hK K
          refine wpQuiet_step (fun K hK => ?_)
          go_simp
          refine ⟨.string ((s.extract 0 k) ++ b), fun wk hwk => ?_, hK _ ?_⟩
          · rw [if_neg (by omega)]
            exact ⟨rfl, rfl⟩
          clear hK K
          refine wpQuiet_step (fun K hK => ?_)
          go_simp
          refine ⟨_, fun _ _ => rfl, hK _ ?_⟩
          clear hK K
          refine wpQuiet_step (fun K hK => ?_)
          go_simp
          refine ⟨.string ((s.extract 0 k) ++ b ++ a), fun wk hwk => ?_, hK _ ?_⟩
          · rw [if_neg (by omega)]
            exact ⟨rfl, rfl⟩
          clear hK K
          refine wpQuiet_step (fun K hK => ?_)
          go_simp
          refine ⟨_, fun _ _ => rfl, hK _ ?_⟩
          clear hK K
          refine wpQuiet_step (fun K hK => ?_)
          go_simp
          refine ⟨_, fun _ _ => rfl, hK _ ?_⟩
          clear hK K
          refine wpQuiet_step (fun K hK => ?_)
          go_simp
          refine ⟨.string (s.extract k s.size), fun wk hwk => ?_, hK _ ?_⟩
          · go_simp
          clear hK K
          refine wpQuiet_step (fun K hK => ?_)
          go_simp
          refine ⟨.string ((s.extract 0 k) ++ b ++ a ++ (s.extract k s.size)), fun wk hwk => ?_, hK _ ?_⟩
          · rw [if_neg (by omega)]
            exact ⟨rfl, rfl⟩
          clear hK K
          refine wpQuiet_step (fun K hK => ?_)
          go_simp
          refine ⟨.bool true, fun wk hwk => ?_, hK _ ?_⟩
          · rw [HTX.out]
            go_simp
          clear hK K
          refine wpQuiet_step (fun K hK => ?_)
          go_simp
          refine ⟨_, fun _ _ => rfl, hK _ ?_⟩
          clear hK K
          refine wpQuiet_nil ?_
          intro w5 hw5
          have HI5 : Hid (Below w.heap.size w w5) := hw5.below
          clear hw5
          go_wp2
          go_ret
          exact ⟨rfl, HI5.out⟩
        · have HT : Hid (ds[t]? = some d) := hd
          have HCK : Hid (checkC d = (allL [] 0 ds).2.1) := hcd
          have hne : ((allL [] 0 ds).2.1 != 0) = true := by simp [hnz]
          have htl : t < ds.length := (List.getElem?_eq_some_iff.1 hd).1
          have e2 : (((allL [] 0 ds).2.2 : Nat) : Int) = t := by rw [ht]; simp
          rw [e2]
          generalize (allL [] 0 ds).2.1 = c at *
          generalize (allL [] 0 ds).1 = xs at *
          obtain ⟨b1, o1, cap1, rfl, hds⟩ := HO3.out.row2 (by omega)
          have HI0 : Hid (EInv w w3.heap.size c t b1 o1 ds (w3.alloc (.cells #[.int .i64 c, .int .i64 t] 46))) := by
            have h1 : Below w3.heap.size w3 (w3.alloc (.cells #[.int .i64 c, .int .i64 t] 46)) := (Below.refl _ _).alloc (Nat.le_refl _) _
            exact ⟨below_after HB3.out h1, by simp, twoC_start w3 c t, hds.below h1⟩
          obtain ⟨kind, by_, no, seen, at2, many, text⟩ := d
          have hti : (t : Int) < (ds.length : Int) := by omega
          clear hnz hnil ht hd hcd HB3 HX3 HE HO3 e2 hds hdl
          go_wp2
          generalize hw4 : w3.alloc _ = w4 at HI0 ⊢
          generalize hB4 : w3.heap.size = B at HI0 ⊢
          clear hw4 hB4
          refine wp_region_quiet (C := fun wk => EInv w B c t b1 o1 ds wk) (by kernel_rfl) (by kernel_rfl) (HI0.out.drew) ?_
          refine wpQuiet_step (fun K hK => ?_)
          go_simp
          refine ⟨_, fun _ _ => rfl, hK _ ?_⟩
          clear hK K
          refine wpQuiet_step (fun K hK => ?_)
          go_simp
          refine ⟨.int .i64 t, fun wk hwk => ?_, hK _ ?_⟩
          · obtain ⟨c0, c1, f0, f1⟩ := hwk.two
            go_simp
          clear hK K
          refine wpQuiet_step (fun K hK => ?_)
          go_simp
          refine ⟨.bool true, fun wk hwk => ?_, hK _ ?_⟩
          · go_simp
          clear hK K
          refine wpQuiet_step (fun K hK => ?_)
          go_simp
          refine ⟨_, fun _ _ => rfl, hK _ ?_⟩
          clear hK K
          refine wpQuiet_step (fun K hK => ?_)
          go_simp
          refine ⟨_, fun _ _ => rfl, hK _ ?_⟩
          clear hK K
          refine wpQuiet_step (fun K hK => ?_)
          go_simp
          refine ⟨.int .i64 t, fun wk hwk => ?_, hK _ ?_⟩
          · obtain ⟨c0, c1, f0, f1⟩ := hwk.two
            go_simp
          clear hK K
          refine wpQuiet_step (fun K hK => ?_)
          go_simp
          refine ⟨_, fun _ _ => rfl, hK _ ?_⟩
          clear hK K
          refine wpQuiet_step (fun K hK => ?_)
          go_simp
          refine ⟨.int .i64 ds.length, fun wk hwk => ?_, hK _ ?_⟩
          · go_simp
          clear hK K
          refine wpQuiet_step (fun K hK => ?_)
          go_simp
          refine ⟨.bool true, fun wk hwk => ?_, hK _ ?_⟩
          · go_simp
          clear hK K
          refine wpQuiet_step (fun K hK => ?_)
          go_simp
          refine ⟨.bool true, fun wk hwk => ?_, hK _ ?_⟩
          · go_simp
          clear hK K
          refine wpQuiet_step (fun K hK => ?_)
          go_simp
          refine ⟨_, fun _ _ => rfl, hK _ ?_⟩
          clear hK K
          refine wpQuiet_step (fun K hK => ?_)
          go_simp
          refine ⟨_, fun _ _ => rfl, hK _ ?_⟩
          clear hK K
          refine wpQuiet_step (fun K hK => ?_)
          go_simp
          refine ⟨_, fun _ _ => rfl, hK _ ?_⟩
          clear hK K
          refine wpQuiet_step (fun K hK => ?_)
          go_simp
          refine ⟨.int .i64 t, fun wk hwk => ?_, hK _ ?_⟩
          · obtain ⟨c0, c1, f0, f1⟩ := hwk.two
            go_simp
          clear hK K
          refine wpQuiet_step (fun K hK => ?_)
          go_simp
          refine ⟨.pointer (some ⟨b1, o1 + t * 7, none⟩), fun wk hwk => ?_, hK _ ?_⟩
          · go_simp
          clear hK K
          refine wpQuiet_step (fun K hK => ?_)
          go_simp
          refine ⟨ddV ⟨kind, by_, no, seen, at2, many, text⟩, fun wk hwk => ?_, hK _ ?_⟩
          · obtain ⟨_, g0, g1, g2, g3, g4, g5, g6⟩ := hwk.nth HT.out
            simp only at g0 g1 g2 g3 g4 g5 g6
            go_simp
          clear hK K
          refine wpQuiet_step (fun K hK => ?_)
          go_simp
          refine ⟨_, fun wk hwk => hwk.check _, hK _ ?_⟩
          clear hK K
          refine wpQuiet_step (fun K hK => ?_)
          go_simp
          refine ⟨_, fun _ _ => rfl, hK _ ?_⟩
          clear hK K
          refine wpQuiet_step (fun K hK => ?_)
          go_simp
          refine ⟨.int .i64 c, fun wk hwk => ?_, hK _ ?_⟩
          · obtain ⟨c0, c1, f0, f1⟩ := hwk.two
            go_simp
          clear hK K
          refine wpQuiet_step (fun K hK => ?_)
          go_simp
          refine ⟨.bool true, fun wk hwk => ?_, hK _ ?_⟩
          · rw [HCK.out]
            go_simp
          clear hK K
          refine wpQuiet_step (fun K hK => ?_)
          go_simp
          refine ⟨_, fun _ _ => rfl, hK _ ?_⟩
          clear hK K
          refine wpQuiet_step (fun K hK => ?_)
          go_simp
          refine hK _ ?_
          clear hK K
          refine wpQuiet_step (fun K hK => ?_)
          go_simp
          refine hK _ ?_
          clear hK K
          refine wpQuiet_step (fun K hK => ?_)
          go_simp
          refine hK _ ?_
          clear hK K
          refine wpQuiet_step (fun K hK => ?_)
          go_simp
          refine ⟨.bool true, fun wk hwk => ?_, hK _ ?_⟩
          · go_simp
          clear hK K
          refine wpQuiet_step (fun K hK => ?_)
          go_simp
          refine ⟨.bool true, fun wk hwk => ?_, hK _ ?_⟩
          · go_simp
          clear hK K
          refine wpQuiet_step (fun K hK => ?_)
          go_simp
          refine ⟨_, fun _ _ => rfl, hK _ ?_⟩
          clear hK K
          refine wpQuiet_nil ?_
          intro w5 hw5
          have HI5 : Hid _ := hw5
          clear hw5
          go_wp2
          go_ret
          exact ⟨rfl, HI5.out.below⟩

/-- THE LAW. -/
theorem law_meets (w : World) (s a b : ByteArray) (at_ : Int) (hs : s.size + a.size + b.size ≤ 4611686018427387904) :
    Calls Try.prog 8 #[.string s, .int .i64 at_, .string a, .string b] w fun e w' => e = .returned (.bool true) ∧ Below w.heap.size w w' := by
  by_cases hg : 100 < s.size + a.size + b.size
  · exact meets_great s a b at_ w hs hg
  · exact meets_some s a b at_ w (by omega)

end Go.Proofs.Ytgcklgiapjbkhaa
