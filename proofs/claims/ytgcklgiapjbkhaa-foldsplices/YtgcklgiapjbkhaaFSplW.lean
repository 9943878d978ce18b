/-
  The walk of the law FoldSplices.
-/
import Derived.Test.YtgcklgiapjbkhaaFSplP
import Derived.Test.YtgcklgiapjbkhaaOpen
namespace Go.Proofs.Ytgcklgiapjbkhaa
open Go.RowKit

set_option maxHeartbeats 800000 in
theorem spl_great (l : List Ch) (d : Dd) (number : Int) (v : Value) (w : World) (h : Lst w v l) (hg : 300 < l.length ∨ 100 < d.text.size) :
    Calls Try.prog 5 #[v, ddV d, .int .i64 number] w fun e w' => e = .returned (.bool true) ∧ Below w.heap.size w w' := by
  have HI : Hid (MInv w w.heap.size d v l (w.alloc (dObj d))) := minv_start h
  obtain ⟨ad, cap, rfl, hcap⟩ := h.len
  obtain ⟨kind, by_, no, seen, at_, many, text⟩ := d
  simp only at hg
  clear h
  by_cases h1 : 300 < l.length
  · go_enter Try.func5, Try.ntmps5
    go_wp2_with fail
    refine (fbegun_any _).mono ?_
    rintro e w1 ⟨rfl, hb1⟩
    have HI1 : Hid _ := HI.out.after hb1
    clear hb1 HI
    obtain ⟨_, c0, c1, c2, c3, c4, c5, c6⟩ := HI1.out.at_
    simp only [Nat.zero_add] at c0 c1 c2 c3 c4 c5 c6
    go_wp2
    go_ret
    exact ⟨rfl, HI1.out.below⟩
  · have h2 : 100 < text.size := by omega
    go_enter Try.func5, Try.ntmps5
    go_wp2_with fail
    refine (fbegun_any _).mono ?_
    rintro e w1 ⟨rfl, hb1⟩
    have HI1 : Hid _ := HI.out.after hb1
    clear hb1 HI
    obtain ⟨_, c0, c1, c2, c3, c4, c5, c6⟩ := HI1.out.at_
    simp only [Nat.zero_add] at c0 c1 c2 c3 c4 c5 c6
    go_wp2
    go_ret
    exact ⟨rfl, HI1.out.below⟩

set_option maxHeartbeats 1600000 in
theorem spl_some (l : List Ch) (d : Dd) (number : Int) (v : Value) (w : World) (h : Lst w v l) (hf : FitsL l) (hl : l.length ≤ 300) (ht : d.text.size ≤ 100) :
    Calls Try.prog 5 #[v, ddV d, .int .i64 number] w fun e w' => e = .returned (.bool true) ∧ Below w.heap.size w w' := by
  have HP : Hid (doC l d number = 0 → d.kind = 1 → _) := splice_put
  have HT : Hid (doC l d number = 0 → d.kind ≠ 1 → _) := splice_take
  have HI : Hid (MInv w w.heap.size d v l (w.alloc (dObj d))) := minv_start h
  obtain ⟨ad, cap, rfl, hcap⟩ := h.len
  obtain ⟨kind, by_, no, seen, at_, many, text⟩ := d
  simp only at ht HP HT
  clear h
  go_enter Try.func5, Try.ntmps5
  go_wp2_with fail
  refine (fbegun_any _).mono ?_
  rintro e w1 ⟨rfl, hb1⟩
  have HI1 : Hid _ := HI.out.after hb1
  clear hb1 HI
  obtain ⟨_, c0, c1, c2, c3, c4, c5, c6⟩ := HI1.out.at_
  simp only [Nat.zero_add] at c0 c1 c2 c3 c4 c5 c6
  go_wp2_with fail
  clear c0 c1 c2 c3 c4 c5 c6
  refine (view_lst HI1.out.lst (by omega) seen by_).mono ?_
  rintro e w2 ⟨u2, rfl, hs2, hb2⟩
  have HI2 : Hid _ := HI1.out.after hb2
  clear hb2 HI1
  have hwl := vw_le l seen by_
  have hws := strOfNums_size (vw l seen by_)
  have HW : Hid (((vw l seen by_).length : Int) = cnt l seen by_) := vw_len l seen by_
  obtain ⟨_, c0, c1, c2, c3, c4, c5, c6⟩ := HI2.out.at_
  simp only [Nat.zero_add] at c0 c1 c2 c3 c4 c5 c6
  go_wp2_with fail
  clear c0 c1 c2 c3 c4 c5 c6
  clear hs2
  refine (do_any l ⟨kind, by_, no, seen, at_, many, text⟩ number _ _ HI2.out.lst (by omega) hf).mono ?_
  rintro e w3 ⟨v3, rfl, ho3, hb3⟩
  have HI3 : Hid _ := HI2.out.after hb3
  have HO3 : Hid (Own w3 _ v3 _) := ho3
  obtain ⟨a3, cap3, rfl, hcap3⟩ := ho3.lst.len
  clear hb3 HI2 ho3
  by_cases hc : doC l ⟨kind, by_, no, seen, at_, many, text⟩ number = 0
  · have HD : Hid (doR l ⟨kind, by_, no, seen, at_, many, text⟩ number = doL l ⟨kind, by_, no, seen, at_, many, text⟩ number) := by show doR _ _ _ = _; rw [doR, if_pos hc]
    obtain ⟨q1, q2, q3, q4⟩ := doC_zero hc
    obtain ⟨_, _, _, _, _, _, p1, p2, p3, p4, p5, p6⟩ := check_parts q1
    simp only at q2 q3 p1 p2 p3 p4 p5 p6
    rw [hc]
    have hxl : (doR l ⟨kind, by_, no, seen, at_, many, text⟩ number).length ≤ 1000 := by rw [HD.out, doL_len p6]; simp only; omega
    have HW' := HW.out
    obtain ⟨_, c0, c1, c2, c3, c4, c5, c6⟩ := HI3.out.at_
    simp only [Nat.zero_add] at c0 c1 c2 c3 c4 c5 c6
    go_wp2_with fail
    clear c0 c1 c2 c3 c4 c5 c6
    refine (view_lst HO3.out.lst hxl seen by_).mono ?_
    rintro e w4 ⟨u4, rfl, hs4, hb4⟩
    have HI4 : Hid _ := HI3.out.after hb4
    clear hb4 HI3 HO3
    rw [HD.out] at hs4
    obtain ⟨_, c0, c1, c2, c3, c4, c5, c6⟩ := HI4.out.at_
    simp only [Nat.zero_add] at c0 c1 c2 c3 c4 c5 c6
    generalize hS : strOfNums (vw l seen by_) = S at *
    by_cases hk : kind = 1
    · have HE : Hid (_ = _) := HP.out hc hk
      rw [HE.out] at hs4
      obtain rfl : many = 0 := (p5 hk).2.2
      obtain rfl : kind = 1 := hk
      have hat : at_ ≤ S.size := by omega
      have hA : (S.extract 0 at_.toNat).size ≤ 300 := by rw [ByteArray.size_extract]; omega
      have hB : (S.extract at_.toNat S.size).size ≤ 300 := by rw [ByteArray.size_extract]; omega
      have hS3 : S.size ≤ 300 := by omega
      clear p5 p6 HP HT hws hwl HW' q2 hS
      go_wp2
      clear c0 c1 c2 c3 c4 c5 c6
      clear hs4
      refine wp_region_quiet (C := fun wk => MInv w w.heap.size ⟨1, by_, no, seen, at_, 0, text⟩ (.slice ad l.length cap) l wk) (by kernel_rfl) (by kernel_rfl) (HI4.out.drew) ?_
      refine wpQuiet_step (fun K hK => ?_)
      go_simp
      refine ⟨_, fun _ _ => rfl, hK _ ?_⟩
      clear hK K
      refine wpQuiet_step (fun K hK => ?_)
      go_simp
      refine ⟨_, fun _ _ => rfl, hK _ ?_⟩
      clear hK K
      refine wpQuiet_step (fun K hK => ?_)
      go_simp
      refine ⟨_, fun _ _ => rfl, hK _ ?_⟩
      clear hK K
      refine wpQuiet_step (fun K hK => ?_)
      go_simp
      refine ⟨.int .i64 at_, fun wk hwk => ?_, hK _ ?_⟩
      · obtain ⟨_, c0, c1, c2, c3, c4, c5, c6⟩ := hwk.at_
        simp only [Nat.zero_add] at c0 c1 c2 c3 c4 c5 c6
        go_simp
      clear hK K
      refine wpQuiet_step (fun K hK => ?_)
      go_simp
      refine ⟨.string (S.extract 0 at_.toNat), fun wk hwk => ?_, hK _ ?_⟩
      · go_simp
      clear hK K
      refine wpQuiet_step (fun K hK => ?_)
      go_simp
      refine ⟨_, fun _ _ => rfl, hK _ ?_⟩
      clear hK K
      refine wpQuiet_step (fun K hK => ?_)
      go_simp
      refine ⟨.string text, fun wk hwk => ?_, hK _ ?_⟩
      · obtain ⟨_, c0, c1, c2, c3, c4, c5, c6⟩ := hwk.at_
        simp only [Nat.zero_add] at c0 c1 c2 c3 c4 c5 c6
        go_simp
      clear hK K
      refine wpQuiet_step (fun K hK => ?_)
      go_simp
      refine ⟨.string (S.extract 0 at_.toNat ++ text), fun wk hwk => ?_, hK _ ?_⟩
      · rw [if_neg (by omega)]
        exact ⟨rfl, rfl⟩
      clear hK K
      refine wpQuiet_step (fun K hK => ?_)
      go_simp
      refine ⟨_, fun _ _ => rfl, hK _ ?_⟩
      clear hK K
      refine wpQuiet_step (fun K hK => ?_)
      go_simp
      refine ⟨_, fun _ _ => rfl, hK _ ?_⟩
      clear hK K
      refine wpQuiet_step (fun K hK => ?_)
      go_simp
      refine ⟨.int .i64 at_, fun wk hwk => ?_, hK _ ?_⟩
      · obtain ⟨_, c0, c1, c2, c3, c4, c5, c6⟩ := hwk.at_
        simp only [Nat.zero_add] at c0 c1 c2 c3 c4 c5 c6
        go_simp
      clear hK K
      refine wpQuiet_step (fun K hK => ?_)
      go_simp
      refine ⟨.string (S.extract at_.toNat S.size), fun wk hwk => ?_, hK _ ?_⟩
      · go_simp
      clear hK K
      refine wpQuiet_step (fun K hK => ?_)
      go_simp
      refine ⟨.string (S.extract 0 at_.toNat ++ text ++ S.extract at_.toNat S.size), fun wk hwk => ?_, hK _ ?_⟩
      · rw [if_neg (by omega)]
        exact ⟨rfl, rfl⟩
      clear hK K
      refine wpQuiet_step (fun K hK => ?_)
      go_simp
      refine ⟨.bool true, fun wk hwk => ?_, hK _ ?_⟩
      · go_simp
      clear hK K
      refine wpQuiet_step (fun K hK => ?_)
      go_simp
      refine ⟨_, fun _ _ => rfl, hK _ ?_⟩
      clear hK K
      refine wpQuiet_nil ?_
      intro w5 hw5
      have HI5 : Hid _ := hw5
      clear hw5
      go_wp2
      go_ret
      exact ⟨rfl, HI5.out.below⟩
    · have HE : Hid (_ = _) := HT.out hc hk
      rw [HE.out] at hs4
      have hk' : (kind == 1) = false := by simp [hk]
      have hat : at_ ≤ S.size := by omega
      have ham : at_ + many ≤ S.size := by omega
      have hA : (S.extract 0 at_.toNat).size ≤ 300 := by rw [ByteArray.size_extract]; omega
      have hB : (S.extract (at_ + many).toNat S.size).size ≤ 300 := by rw [ByteArray.size_extract]; omega
      have hS3 : S.size ≤ 300 := by omega
      have h0m : 0 ≤ at_ + many := by omega
      clear p5 p6 HP HT hk hws hwl HW' q2 hS
      go_wp2
      clear c0 c1 c2 c3 c4 c5 c6
      clear hs4
      refine wp_region_quiet (C := fun wk => MInv w w.heap.size ⟨kind, by_, no, seen, at_, many, text⟩ (.slice ad l.length cap) l wk) (by kernel_rfl) (by kernel_rfl) (HI4.out.drew) ?_
      refine wpQuiet_step (fun K hK => ?_)
      go_simp
      refine ⟨_, fun _ _ => rfl, hK _ ?_⟩
      clear hK K
      refine wpQuiet_step (fun K hK => ?_)
      go_simp
      refine ⟨.int .i64 at_, fun wk hwk => ?_, hK _ ?_⟩
      · obtain ⟨_, c0, c1, c2, c3, c4, c5, c6⟩ := hwk.at_
        simp only [Nat.zero_add] at c0 c1 c2 c3 c4 c5 c6
        go_simp
      clear hK K
      refine wpQuiet_step (fun K hK => ?_)
      go_simp
      refine ⟨_, fun _ _ => rfl, hK _ ?_⟩
      clear hK K
      refine wpQuiet_step (fun K hK => ?_)
      go_simp
      refine ⟨.int .i64 many, fun wk hwk => ?_, hK _ ?_⟩
      · obtain ⟨_, c0, c1, c2, c3, c4, c5, c6⟩ := hwk.at_
        simp only [Nat.zero_add] at c0 c1 c2 c3 c4 c5 c6
        go_simp
      clear hK K
      refine wpQuiet_step (fun K hK => ?_)
      go_simp
      refine ⟨.int .i64 (at_ + many), fun wk hwk => ?_, hK _ ?_⟩
      · have e : IntKind.i64.wrap (at_ + many) = at_ + many := by rw [IntKind.wrap_i64]; omega
        rw [e]
      clear hK K
      refine wpQuiet_step (fun K hK => ?_)
      go_simp
      refine ⟨_, fun _ _ => rfl, hK _ ?_⟩
      clear hK K
      refine wpQuiet_step (fun K hK => ?_)
      go_simp
      refine ⟨_, fun _ _ => rfl, hK _ ?_⟩
      clear hK K
      refine wpQuiet_step (fun K hK => ?_)
      go_simp
      refine ⟨.bool true, fun wk hwk => ?_, hK _ ?_⟩
      · go_simp
      clear hK K
      refine wpQuiet_step (fun K hK => ?_)
      go_simp
      refine ⟨_, fun _ _ => rfl, hK _ ?_⟩
      clear hK K
      refine wpQuiet_step (fun K hK => ?_)
      go_simp
      refine ⟨_, fun _ _ => rfl, hK _ ?_⟩
      clear hK K
      refine wpQuiet_step (fun K hK => ?_)
      go_simp
      refine ⟨_, fun _ _ => rfl, hK _ ?_⟩
      clear hK K
      refine wpQuiet_step (fun K hK => ?_)
      go_simp
      refine ⟨_, fun _ _ => rfl, hK _ ?_⟩
      clear hK K
      refine wpQuiet_step (fun K hK => ?_)
      go_simp
      refine ⟨.int .i64 at_, fun wk hwk => ?_, hK _ ?_⟩
      · obtain ⟨_, c0, c1, c2, c3, c4, c5, c6⟩ := hwk.at_
        simp only [Nat.zero_add] at c0 c1 c2 c3 c4 c5 c6
        go_simp
      clear hK K
      refine wpQuiet_step (fun K hK => ?_)
      go_simp
      refine ⟨.string (S.extract 0 at_.toNat), fun wk hwk => ?_, hK _ ?_⟩
      · go_simp
      clear hK K
      refine wpQuiet_step (fun K hK => ?_)
      go_simp
      refine ⟨_, fun _ _ => rfl, hK _ ?_⟩
      clear hK K
      refine wpQuiet_step (fun K hK => ?_)
      go_simp
      refine ⟨_, fun _ _ => rfl, hK _ ?_⟩
      clear hK K
      refine wpQuiet_step (fun K hK => ?_)
      go_simp
      refine ⟨.int .i64 at_, fun wk hwk => ?_, hK _ ?_⟩
      · obtain ⟨_, c0, c1, c2, c3, c4, c5, c6⟩ := hwk.at_
        simp only [Nat.zero_add] at c0 c1 c2 c3 c4 c5 c6
        go_simp
      clear hK K
      refine wpQuiet_step (fun K hK => ?_)
      go_simp
      refine ⟨_, fun _ _ => rfl, hK _ ?_⟩
      clear hK K
      refine wpQuiet_step (fun K hK => ?_)
      go_simp
      refine ⟨.int .i64 many, fun wk hwk => ?_, hK _ ?_⟩
      · obtain ⟨_, c0, c1, c2, c3, c4, c5, c6⟩ := hwk.at_
        simp only [Nat.zero_add] at c0 c1 c2 c3 c4 c5 c6
        go_simp
      clear hK K
      refine wpQuiet_step (fun K hK => ?_)
      go_simp
      refine ⟨.int .i64 (at_ + many), fun wk hwk => ?_, hK _ ?_⟩
      · have e : IntKind.i64.wrap (at_ + many) = at_ + many := by rw [IntKind.wrap_i64]; omega
        rw [e]
      clear hK K
      refine wpQuiet_step (fun K hK => ?_)
      go_simp
      refine ⟨.string (S.extract (at_ + many).toNat S.size), fun wk hwk => ?_, hK _ ?_⟩
      · go_simp
      clear hK K
      refine wpQuiet_step (fun K hK => ?_)
      go_simp
      refine ⟨.string (S.extract 0 at_.toNat ++ S.extract (at_ + many).toNat S.size), fun wk hwk => ?_, hK _ ?_⟩
      · rw [if_neg (by omega)]
        exact ⟨rfl, rfl⟩
      clear hK K
      refine wpQuiet_step (fun K hK => ?_)
      go_simp
      refine ⟨.bool true, fun wk hwk => ?_, hK _ ?_⟩
      · go_simp
      clear hK K
      refine wpQuiet_step (fun K hK => ?_)
      go_simp
      refine ⟨_, fun _ _ => rfl, hK _ ?_⟩
      clear hK K
      refine wpQuiet_step (fun K hK => ?_)
      go_simp
      refine ⟨_, fun _ _ => rfl, hK _ ?_⟩
      clear hK K
      refine wpQuiet_nil ?_
      intro w5 hw5
      have HI5 : Hid _ := hw5
      clear hw5
      go_wp2
      go_ret
      exact ⟨rfl, HI5.out.below⟩
  · have HD : Hid (doR l ⟨kind, by_, no, seen, at_, many, text⟩ number = []) := by show doR _ _ _ = []; rw [doR, if_neg hc]
    have hne : (doC l ⟨kind, by_, no, seen, at_, many, text⟩ number != 0) = true := by simp [hc]
    rw [HD.out] at *
    clear hc
    generalize doC l ⟨kind, by_, no, seen, at_, many, text⟩ number = c at *
    go_wp2
    go_ret
    exact ⟨rfl, HI3.out.below⟩

theorem law_splices (w : World) {v : Value} {l : List Ch} (h : Lst w v l) (hf : FitsL l) (d : Dd) (number : Int) (_ : Fits number) :
    Calls Try.prog 5 #[v, ddV d, .int .i64 number] w fun e w' => e = .returned (.bool true) ∧ Below w.heap.size w w' := by
  by_cases h1 : 300 < l.length ∨ 100 < d.text.size
  · exact spl_great l d number v w h h1
  · exact spl_some l d number v w h hf (by omega) (by omega)

end Go.Proofs.Ytgcklgiapjbkhaa
