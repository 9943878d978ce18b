/-
  The walk of LogFolds.
-/
import Derived.Test.YtfjjjbohflobnabLRun
import Derived.Test.YtfjjjbohflobnabLNth
namespace Go.Proofs.Ytfjjjbohflobnab
open Go.RowKit

theorem src_new' (w : World) (d : Dd) {n : Nat} (hn : n = w.heap.size) : ∀ j u, (cellsD [d])[j]? = some u → (w.alloc (.cells #[.int .i64 d.kind, .int .i64 d.by_, .int .i64 d.no, .int .i64 d.seen, .int .i64 d.at_, .int .i64 d.many, .string d.text] 27)).cell? ((⟨n, 0, none⟩ : Addr).add j) = some u := by
  subst hn
  exact src_new w [d] _ rfl

theorem below_grownD {w wr w2 : World} {v : Value} {l : List Dd} {o : Obj} (hb : Below w.heap.size w wr) (ho : OwnD wr w.heap.size v l) (hg : (wr.alloc o).grownBy w2 v.ownBlock) : Below w.heap.size w w2 :=
  (hb.alloc hb.size _).grown hg (by have := hb.size; simp; omega) (fun j hj => (World.ownsRow.lt ho j hj).1)

set_option maxRecDepth 20000 in
set_option maxHeartbeats 3200000 in
theorem logFolds_any (v : Value) (xs : List LStep) (w : World) (h : SLst w v xs) (hf : ∀ x ∈ xs, FitX x) :
    Calls Try.prog 5 #[v] w fun e w' => e = .returned (.bool true) ∧ Below w.heap.size w w' := by
  have HD : Hid (SLst w v xs) := h
  have HF : Hid (∀ x ∈ xs, FitX x) := hf
  obtain ⟨a, cap, rfl⟩ := h.len
  clear h hf
  go_enter Try.func5, Try.ntmps5
  go_wp2_with fail
  refine (lbegun_any _).mono ?_
  rintro e w1 ⟨rfl, hb1⟩
  have HB1 : Hid (Below w.heap.size w w1) := hb1
  clear hb1
  go_wp2_with fail
  refine (greatL_any _ xs _ (HD.out.below HB1.out)).mono ?_
  rintro e w2 ⟨gr, rfl, hgr, rfl⟩
  cases gr
  · obtain ⟨hl, _⟩ := hgr rfl
    clear hgr
    go_wp2_with fail
    refine (new_lg _).mono ?_
    rintro e w3 ⟨rfl, rfl⟩
    have HR0 : Hid (RI w w2.heap.size (w2.heap.size + 1) (runTo xs 0) ((w2.alloc (.cells logZero 71)).alloc (.cells bookZero 42))) := ri_start HB1.out
    clear HB1
    go_wp2
    generalize World.alloc _ _ = w4 at *
    generalize w2.heap.size + 1 = B at *
    generalize w2.heap.size = G at *
    go_loopw [5] (fun i wr => ∃ k : Nat, k ≤ xs.length ∧ i = .int .i64 k ∧ Hid (RI w G B (runTo xs k) wr)) (fun i _ => xs.length - (intOf i).toNat)
    case atStart => exact ⟨0, Nat.zero_le _, rfl, HR0⟩
    case round =>
      obtain ⟨k, hk, rfl, HR⟩ := hrel
      clear HR0
      by_cases hlt : k < xs.length
      · have HG : Hid (Good (runTo xs k)) := runTo_good xs k
        have hkl : k < xs.length := hlt
        obtain ⟨bb, off, rfl, hr⟩ := (HD.out.below HR.out.below).row (by omega)
        obtain ⟨_, c0, c1, c2, c3, c4, c5, c6, c7, c8, c9, c10⟩ := hr.at_ k hkl
        have HSU : Hid (runTo xs (k + 1) = stepB (runTo xs k) xs[k]) := runTo_succ hkl
        have HFX : Hid (FitX xs[k]) := HF.out _ (List.getElem_mem hkl)
        generalize xs[k] = x at c0 c1 c2 c3 c4 c5 c6 c7 c8 c9 c10 HSU HFX
        clear hr
        obtain ⟨do_, w_, n_, ⟨kind, by_, no, seen, at_, many, text⟩, right⟩ := x
        simp only at c0 c1 c2 c3 c4 c5 c6 c7 c8 c9 c10
        go_wp2_with fail
        clear c0 c1 c2 c3 c4 c5 c6 c7 c8 c9 c10
        refine (step_any HR.out.duo HG.out ⟨do_, w_, n_, ⟨kind, by_, no, seen, at_, many, text⟩, right⟩ HFX.out).mono ?_
        rintro e w7 ⟨rfl, hst⟩
        rw [← HSU.out] at hst
        have HR7 : Hid (RI w G B (runTo xs (k + 1)) w7) := HR.out.stepped hst
        clear hst HR HSU HFX HG
        go_wp2
        go_roundw
        case rel => exact ⟨k + 1, by omega, by go_num, HR7⟩
        case measure => simp [intOf]; omega
      · have HG : Hid (Good (runTo xs k)) := runTo_good xs k
        generalize runTo xs k = b1 at *
        clear HF HD
        go_wp2
        clear hlt hk
        generalize hN : wr.heap.size = N at *
        have HN : Hid (wr.heap.size = N) := hN
        clear hN
        go_loopw [6, 7] (fun v n wq => ∃ j : Nat, j ≤ b1.ds.length ∧ n = .int .i64 ((j : Int) + 1) ∧ Hid (OwnD wq wr.heap.size v (b1.ds.take j)) ∧ Hid (Below wr.heap.size wr wq)) (fun _ n _ => b1.ds.length + 1 - (intOf n).toNat)
        case atStart => exact ⟨0, Nat.zero_le _, rfl, ownD_nil _ _, Below.refl _ _⟩
        case round =>
          obtain ⟨j, hj, rfl, HO, HB⟩ := hrel
          have hsm := HG.out.small
          by_cases hlt : j < b1.ds.length
          · obtain ⟨h1, h2⟩ := nth_at hlt
            have H1 : Hid (nthD b1 ((j : Int) + 1) = b1.ds[j]) := h1
            have H2 : Hid (isD b1 ((j : Int) + 1) = true) := h2
            have HT : Hid (b1.ds.take (j + 1) = b1.ds.take j ++ [b1.ds[j]]) := List.take_succ_eq_append_getElem hlt
            have HTL : Hid ((b1.ds.take j).length ≤ 120) := by show _ ≤ _; rw [List.length_take]; omega
            generalize b1.ds[j] = d at *
            clear h1 h2
            obtain ⟨kind, by_, no, seen, at_, many, text⟩ := d
            go_wp2_with (first | (go_at_call 21; refine (duo_len (HR.out.after HB.out).duo).mono ?_; rintro e wx ⟨rfl, rfl⟩) | (go_at_call 24; refine (duo_deed (HR.out.after HB.out).duo HG.out _).mono ?_; rintro e wy ⟨rfl, hby⟩; rw [H1.out, H2.out]; have HBy : Hid (Below wr.heap.size wr wy) := below_after HB.out hby; have HOy : Hid (OwnD wy wr.heap.size u6 (b1.ds.take j)) := HO.out.below hby; clear hby) | (at_builtin; refine append_deeds _ (by rfl) (.tmp 46) (.tmp 48) (by rfl) wr.heap.size (wy.heap.size + 1) 1 (v := u6) (a := b1.ds.take j) (b := [⟨kind, by_, no, seen, at_, many, text⟩]) (by rfl) (by rfl) ((HOy.out.below ((Below.refl _ _).alloc (Nat.le_refl _) _)).below ((Below.refl _ _).alloc (Nat.le_refl _) _)) (src_new' (wy.alloc (dObj ⟨kind, by_, no, seen, at_, many, text⟩)) ⟨kind, by_, no, seen, at_, many, text⟩ (by simp)) (by have := HTL.out; show _ + 1 ≤ 100000; omega) (by have := HBy.out.size; simp; omega) ?_))
            intro v' w2 ho hg
            have HB2 : Hid (Below wr.heap.size wr w2) := below_grownD (HBy.out.alloc HBy.out.size _) (HOy.out.below ((Below.refl _ _).alloc (Nat.le_refl _) _)) hg
            have HO2 : Hid (OwnD w2 wr.heap.size v' (b1.ds.take (j + 1))) := by show OwnD _ _ _ _; rw [HT.out]; exact ho
            clear ho hg
            go_wp2
            go_roundw
            case rel => exact ⟨j + 1, by omega, by go_num, HO2, HB2⟩
            case measure => simp [intOf]; omega
          · obtain rfl : j = b1.ds.length := by omega
            have HE : Hid (b1.ds.take b1.ds.length = b1.ds) := List.take_length
            rw [HE.out] at HO
            have HRq : Hid (RI w G B b1 _) := HR.out.after HB.out
            have HZ : Hid ((allL [] 0 b1.ds).2.1 = 0) := HG.out.all0
            have HCS : Hid (b1.chars.length ≤ 1000) := by have := small_chars (b := b1); show _ ≤ _; omega
            have HAT : Hid ((allL [] 0 b1.ds).2.1 = 0 → ((allL [] 0 b1.ds).2.2 : Int) = ((allL [] 0 b1.ds).2.2 : Int)) := fun _ => rfl
            obtain ⟨a6, cap6, rfl⟩ := HO.out.len
            go_wp2_with fail
            refine (duo_len HRq.out.duo).mono ?_
            rintro e wx ⟨rfl, rfl⟩
            go_wp2_with fail
            refine (all_lst HO.out.dlst (by omega)).mono ?_
            rintro e w6 ⟨v6, rfl, hO6, hb6⟩
            rw [HZ.out]
            have HR6 : Hid (RI w G B b1 w6) := HRq.out.after hb6
            have HO6 : Hid (Own w6 wx.heap.size v6 b1.chars) := hO6
            generalize ((allL [] 0 b1.ds).2.2 : Int) = fa at *
            have HR7 : Hid (∀ o, RI w G B b1 (w6.alloc o)) := fun o => HR6.out.after ((Below.refl _ _).alloc (Nat.le_refl _) _)
            have HL7 : Hid (∀ o, Lst (w6.alloc o) v6 b1.chars) := fun o => HO6.out.lst.below ((Below.refl _ _).alloc (Nat.le_refl _) _)
            clear hb6 hO6 HB HR
            go_wp2_with fail
            refine (duo_chars (HR7.out _).duo).mono ?_
            rintro e w8 ⟨v8, rfl, hO8, hb8⟩
            have HR8 : Hid (RI w G B b1 w8) := (HR7.out _).after hb8
            have HL8 : Hid (Lst w8 v6 b1.chars) := (HL7.out _).below hb8
            have HO8 : Hid (Lst w8 v8 b1.chars) := hO8.lst
            clear hb8 hO8
            go_wp2_with fail
            refine (same_eq HL8.out HO8.out HCS.out).mono ?_
            rintro e w9 ⟨rfl, hb9⟩
            have HR9 : Hid (RI w G B b1 w9) := HR8.out.after hb9
            have HL9 : Hid (Lst w9 v6 b1.chars) := HL8.out.below hb9
            clear hb9 HR8 HL8 HO8
            go_wp2_with fail
            refine (text_lst HL9.out HCS.out).mono ?_
            rintro e wa ⟨rfl, hba⟩
            have HRa : Hid (RI w G B b1 wa) := HR9.out.after hba
            clear hba HR9 HL9
            go_wp2_with fail
            refine (duo_text HRa.out.duo).mono ?_
            rintro e wb ⟨rfl, hbb⟩
            have HRb : Hid (RI w G B b1 wb) := HRa.out.after hbb
            clear hbb HRa
            generalize strOfNums (textL b1.chars) = st
            have hst := ba_beq st st
            simp only [decide_true] at hst
            go_wp2
            go_ret
            exact ⟨ret_b (decide_eq_true (by omega)), HRb.out.below⟩
  · go_wp2
    go_ret
    exact ⟨rfl, HB1.out⟩

/-- THE LAW. -/
theorem law_logfolds (w : World) {v : Value} {xs : List LStep} (h : SLst w v xs) (hf : ∀ x ∈ xs, FitX x) :
    Calls Try.prog 5 #[v] w fun e w' => e = .returned (.bool true) ∧ Below w.heap.size w w' := logFolds_any v xs w h hf

end Go.Proofs.Ytfjjjbohflobnab
