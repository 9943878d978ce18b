/-
  The contract of Known: its list, as if nothing were open.
-/
import Derived.Test.YtdlmlhmdjfbdiabGreatWSteps
namespace Go.Proofs.YtdlmlhmdjfbdiabGreat
open Go.RowKit

theorem andNot_small : ∀ (g : Fin 16) (k : Fin 4), bits .andNot .i64 ((g.val : Nat) : Int) (IntKind.i64.wrap ((2 : Int) ^ k.val)) = clrG ((k.val : Nat) : Int) ((g.val : Nat) : Int) := by decide +kernel

theorem andNot_bit {g : Int} {k : Nat} (h0 : 0 ≤ g) (h1 : g ≤ 15) (hk : k ≤ 3) : bits .andNot .i64 g (IntKind.i64.wrap ((2 : Int) ^ k)) = clrG k g := by
  obtain ⟨n, rfl⟩ := Int.eq_ofNat_of_zero_le h0
  exact andNot_small ⟨n, by omega⟩ ⟨k, by omega⟩

/-- In the middle of Known: a list of the call's own. -/
structure KI (w : World) (v : Value) (L : List Ch) (wk : World) : Prop where
  below : Below w.heap.size w wk
  own : Own wk w.heap.size v L

theorem KI.after {w wk w' : World} {v : Value} {L : List Ch} (h : KI w v L wk) (hb : Below wk.heap.size wk w') : KI w v L w' := ⟨below_after h.below hb, h.own.below hb⟩
theorem KI.put {w wk : World} {g n cap : Nat} {L : List Ch} (h : KI w (.slice (some ⟨g, 0, none⟩) n cap) L wk) (hn : L.length = n) {i r : Nat} (hi : i < L.length) (hr : r < 7) {y : Ch} {u : Value} (hy : (chCells L[i]).set r u = chCells y) : KI w (.slice (some ⟨g, 0, none⟩) n cap) (L.set i y) (wk.setCell ⟨g, i * 7 + r, none⟩ u) :=
  ⟨h.below.setCell (p := ⟨g, _, none⟩) (World.ownsRow.lt h.own g rfl).1 _, own_field h.own hn hi hr hy⟩

theorem clr_yes {me : Int} {ts : List (List Ch)} {x : Ch} (h : anyTook ts x = true) : clrF me ts x = ⟨x.c, x.by_, x.no, x.k, x.inn, x.out, clrG me x.gone⟩ := by
  unfold anyTook at h
  rw [clrF, if_pos h]
theorem clr_no {me : Int} {ts : List (List Ch)} {x : Ch} (h : anyTook ts x = false) : clrF me ts x = x := by
  unfold anyTook at h
  rw [clrF, if_neg (by rw [h]; simp)]

set_option maxRecDepth 20000 in
set_option maxHeartbeats 1600000 in
theorem known_pw {w : World} {base P : Nat} {S : Nat → Prop} {lv ov : Value} {tvs : List Value} {l : List Ch} {es : List Dd} {ts : List (List Ch)} {next seen sent : Int} {me : Nat} (h : PwAt w base S P lv ov tvs l es ts me next seen sent) (hl : l.length ≤ 1000) (hme : me ≤ 3) (hes : es.length ≤ 1000) (hts : ∀ t ∈ ts, t.length ≤ 1000) (hg : ∀ x ∈ l, 0 ≤ x.gone ∧ x.gone ≤ 15) :
    Calls Tryz.prog 18 #[.pointer (some ⟨P, 0, none⟩)] w fun e w' => ∃ v', e = .returned v' ∧ Own w' w.heap.size v' (knownL me ts l) ∧ Below w.heap.size w w' := by
  have HA : Hid (PwAt w base S P lv ov tvs l es ts me next seen sent) := h
  have HT : Hid (∀ t ∈ ts, t.length ≤ 1000) := hts
  have HG : Hid (∀ x ∈ l.filter (fun x => !decide (x.inn = openN)), 0 ≤ x.gone ∧ x.gone ≤ 15) := fun x hx => hg x (List.mem_filter.1 hx).1
  have HF : Hid (knownL me ts l = (l.filter (fun x => !decide (x.inn = openN))).map (clrF me ts)) := rfl
  have hfl : (l.filter (fun x => !decide (x.inn = openN))).length ≤ 1000 := Nat.le_trans (List.length_filter_le _ _) hl
  have hlt := h.cells.lt
  have hmf : ∀ (fn : Fn) (first cap : Array Value) (w : World), (Instr.makeFunc fn first cap).run Tryz.prog w = .ok (.func fn first cap) w := fun _ _ _ _ => rfl
  have hm4 : (me : Int) < 64 := by omega
  clear h hts hg
  go_enter Tryz.func18, Tryz.ntmps18
  go_wp2_with fail
  refine (chars_pw HA.out hl).mono ?_
  rintro e w1 ⟨v1, rfl, ho1, hb1⟩
  have HO1 : Hid (Own w1 w.heap.size v1 l) := ho1
  have HB1 : Hid (Below w.heap.size w w1) := hb1
  clear ho1 hb1
  go_wp2_with fail
  refine (deleteFunc_own (isOpen_looks w.heap.size) HO1.out HB1.out.size hl trivial).mono ?_
  rintro e w2 ⟨v2, rfl, ho2, hb2⟩
  have HK : Hid (KI w v2 (l.filter fun x => !decide (x.inn = openN)) w2) := ⟨HB1.out.trans hb2, ho2⟩
  clear ho2 hb2 HO1 HB1
  generalize (l.filter fun x => !decide (x.inn = openN)) = z at *
  by_cases h0 : z.length = 0
  · obtain rfl : z = [] := List.length_eq_zero_iff.1 h0
    obtain ⟨a, cap, rfl, _⟩ := HK.out.own.lst.len
    go_wp2
    refine wp_loop_rounds 1 ?_
    rw [rounds_succ]
    go_wp2
    go_ret
    exact ⟨_, rfl, by rw [HF.out]; exact HK.out.own, HK.out.below⟩
  · obtain ⟨g, cap, rfl⟩ := own_place HK.out.own (by omega)
    have HN : Hid (∃ n, z.length = n) := ⟨_, rfl⟩
    obtain ⟨n, hn⟩ := HN.out
    have HZ : Hid (z.length = n) := hn
    rw [hn] at HK hfl h0
    rw [hn]
    clear HN hn
    go_wp2
    go_loopw [11] (fun i wr => ∃ k : Nat, k ≤ n ∧ i = .int .i64 k ∧ Hid (KI w (.slice (some ⟨g, 0, none⟩) n cap) (mixF (clrF me ts) k z) wr)) (fun i _ => n - (intOf i).toNat)
    case atStart => exact ⟨0, Nat.zero_le _, rfl, HK⟩
    case round =>
      obtain ⟨k, hk, rfl, HJ⟩ := hrel
      clear HK
      have hPg : P ≠ g := by have := (World.ownsRow.lt HJ.out.own g rfl).1; omega
      have hPg' : ¬ g = P := fun e => hPg e.symm
      by_cases hlt2 : k < n
      · have hkl : k < z.length := by rw [HZ.out]; exact hlt2
        have hml : (mixF (clrF me ts) k z).length = n := by rw [mixF_len, HZ.out]
        have hkm : k < (mixF (clrF me ts) k z).length := by rw [hml]; exact hlt2
        have hget := mixF_get (clrF me ts) hkl hkm
        obtain ⟨b', o', e', _, r'⟩ := HJ.out.own.lst.row (by omega)
        cases e'
        obtain ⟨h0, h1, h2, h3, h4, h5, h6⟩ := r'.at_ k hkm
        simp only [Nat.zero_add] at h0 h1 h2 h3 h4 h5 h6
        rw [hget] at h0 h1 h2 h3 h4 h5 h6
        obtain ⟨x, hx⟩ : ∃ x, x = z[k] := ⟨_, rfl⟩
        rw [← hx] at h0 h1 h2 h3 h4 h5 h6
        have HX : Hid (x = z[k]) := hx
        have HGT : Hid ((mixF (clrF me ts) k z)[k] = z[k]) := hget
        have hgb : 0 ≤ x.gone ∧ x.gone ≤ 15 := by rw [hx]; exact HG.out _ (List.getElem_mem hkl)
        obtain ⟨hg0, hg15⟩ := hgb
        have c4 := (HA.out.below HJ.out.below).cells.opens
        have hPw := (HA.out.below HJ.out.below).cells.lt
        obtain ⟨ao, capo, hov⟩ := HA.out.topen.form
        have HOV : Hid (ov = .slice ao es.length capo) := hov
        rw [hov] at c4
        clear r' hx hget hov
        have HBX : Hid (CBox x wr.heap.size (wr.alloc (chObj x))) := by
          refine ⟨by simp, ?_, ?_, ?_, ?_, ?_, ?_, ?_⟩ <;> simp [go_sem]
        have HAX : Hid (Below wr.heap.size wr (wr.alloc (chObj x))) := below1 _ _
        have HGO : Hid (bits .andNot .i64 x.gone (IntKind.i64.wrap ((2 : Int) ^ me)) = clrG me x.gone) := andNot_bit hg0 hg15 hme
        obtain ⟨xc, xb, xn, xk, xi, xo, xg⟩ := x
        simp only at h0 h1 h2 h3 h4 h5 h6 hg0 hg15 HGO
        go_wp2_with fail
        have hco := containsO_any (HA.out.topen.below (below_after HJ.out.below HAX.out)) hes HT.out ⟨xc, xb, xn, xk, xi, xo, xg⟩ wr.heap.size HBX.out
        rw [HOV.out] at hco
        refine hco.mono ?_
        rintro e w3 ⟨rfl, hb3⟩
        have HJ3 : Hid (KI w (.slice (some ⟨g, 0, none⟩) n cap) (mixF (clrF me ts) k z) w3) := HJ.out.after (below_after HAX.out hb3)
        clear hb3 hco HBX HAX h0 h1 h2 h3 h4 h5 h6 c4 HJ
        cases hany : anyTook ts ⟨xc, xb, xn, xk, xi, xo, xg⟩
        · have HN2 : Hid (KI w (.slice (some ⟨g, 0, none⟩) n cap) (mixF (clrF me ts) (k + 1) z) w3) := by
            rw [mixF_same _ hkl (by rw [← HX.out]; exact clr_no hany)]
            exact HJ3
          clear HJ3 HX HGT hany HGO
          go_wp2
          go_roundw
          case rel => exact ⟨k + 1, by omega, by go_num, HN2⟩
          case measure => simp [intOf]; omega
        · have HN2 : Hid (∀ wk, KI w (.slice (some ⟨g, 0, none⟩) n cap) (mixF (clrF me ts) k z) wk → KI w (.slice (some ⟨g, 0, none⟩) n cap) (mixF (clrF me ts) (k + 1) z) (wk.setCell ⟨g, k * 7 + 6, none⟩ (.int .i64 (clrG me xg)))) := fun wk hwk => by
            have := hwk.put hml (i := k) (r := 6) (y := clrF me ts z[k]) (u := .int .i64 (clrG me xg)) (by rw [hml]; exact hlt2) (by omega) (by rw [HGT.out, ← HX.out, clr_yes hany]; rfl)
            rw [mixF_set _ hkl] at this
            exact this
          have HCE : Hid (∀ wk, KI w (.slice (some ⟨g, 0, none⟩) n cap) (mixF (clrF me ts) k z) wk → wk.cell? ⟨g, k * 7 + 6, none⟩ = some (.int .i64 xg) ∧ wk.frozen? ⟨g, k * 7 + 6, none⟩ = false) := fun wk hwk => by
            obtain ⟨b', o', e', _, r'⟩ := hwk.own.lst.row (by omega)
            cases e'
            obtain ⟨_, _, _, _, _, _, q6⟩ := r'.at_ k hkm
            rw [HGT.out, ← HX.out] at q6
            simp only [Nat.zero_add] at q6
            exact ⟨q6, (own_spot7 hwk.own hml (j := k * 7 + 6) (by omega)).2⟩
          clear HX HGT hany
          go_wp2
          refine wp_region_stage (fun wk => Below w.heap.size w wk) (fun i => i == 4 || i == 13) (fun wk => KI w (.slice (some ⟨g, 0, none⟩) n cap) (mixF (clrF me ts) k z) wk) (by kernel_rfl) (by kernel_rfl) (by kernel_rfl) (fun _ h => h.below) (HJ3.out.after (Below.refl _ _).drew) ?_
          refine wpStage_still rfl (fun K hK => ?_)
          go_simp
          refine ⟨_, fun _ _ => rfl, hK _ ?_⟩
          clear hK K
          refine wpStage_still rfl (fun K hK => ?_)
          go_simp
          refine ⟨_, fun _ _ => rfl, hK _ ?_⟩
          clear hK K
          refine wpStage_still rfl (fun K hK => ?_)
          go_simp
          refine ⟨_, fun _ _ => rfl, hK _ ?_⟩
          clear hK K
          refine wpStage_still rfl (fun K hK => ?_)
          go_simp
          refine ⟨_, fun _ _ => rfl, hK _ ?_⟩
          clear hK K
          refine wpStage_spine rfl rfl (fun u => u = .int .i64 xg) (fun u wk => KI w (.slice (some ⟨g, 0, none⟩) n cap) (mixF (clrF me ts) k z) wk) ⟨_, rfl⟩ (fun _ _ h => h.below) (fun wk hwk => ?_) (fun v4 hv4 => ?_)
          · obtain ⟨q6, _⟩ := HCE.out wk hwk
            go_simp
            exact ⟨rfl, hwk⟩
          subst hv4
          refine wpStage_still rfl (fun K hK => ?_)
          go_simp
          refine ⟨_, fun _ _ => rfl, hK _ ?_⟩
          clear hK K
          refine wpStage_still rfl (fun K hK => ?_)
          go_simp
          refine ⟨_, fun _ _ => rfl, hK _ ?_⟩
          clear hK K
          refine wpStage_still rfl (fun K hK => ?_)
          go_simp
          refine ⟨_, fun _ _ => rfl, hK _ ?_⟩
          clear hK K
          refine wpStage_still rfl (fun K hK => ?_)
          go_simp
          refine ⟨.int .i64 me, fun wk hwk => ?_, hK _ ?_⟩
          · have c := (HA.out.below hwk).cells.me
            go_simp
          clear hK K
          refine wpStage_still rfl (fun K hK => ?_)
          go_simp
          refine ⟨.int .i64 (IntKind.i64.wrap ((2 : Int) ^ me)), fun wk hwk => ?_, hK _ ?_⟩
          · go_simp
          clear hK K
          refine wpStage_still rfl (fun K hK => ?_)
          go_simp
          refine ⟨.int .i64 (clrG me xg), fun wk hwk => ?_, hK _ ?_⟩
          · rw [← HGO.out]
          clear hK K
          refine wpStage_still rfl (fun K hK => ?_)
          go_simp
          refine ⟨_, fun _ _ => rfl, hK _ ?_⟩
          clear hK K
          refine wpStage_still rfl (fun K hK => ?_)
          go_simp
          refine ⟨_, fun _ _ => rfl, hK _ ?_⟩
          clear hK K
          refine wpStage_spine rfl rfl (fun u => u = .tuple #[]) (fun u wk => KI w (.slice (some ⟨g, 0, none⟩) n cap) (mixF (clrF me ts) (k + 1) z) wk) ⟨_, rfl⟩ (fun _ _ h => h.below) (fun wk hwk => ?_) (fun v13 hv13 => ?_)
          · obtain ⟨q6, f6⟩ := HCE.out wk hwk
            have hN := HN2.out wk hwk
            go_simp
            exact ⟨rfl, hN⟩
          refine wpStage_nil (fun w9 hw9 => ?_)
          have H9 : Hid _ := hw9
          clear hw9
          go_wp2
          go_roundw
          case rel => exact ⟨k + 1, by omega, by go_num, H9⟩
          case measure => simp [intOf]; omega
      · obtain rfl : k = n := by omega
        have HE : Hid (mixF (clrF me ts) k z = z.map (clrF me ts)) := by show _ = _; rw [← HZ.out, mixF_all]
        go_wp2
        go_ret
        exact ⟨_, rfl, by rw [HF.out, ← HE.out]; exact HJ.out.own, HJ.out.below⟩

end Go.Proofs.YtdlmlhmdjfbdiabGreat
