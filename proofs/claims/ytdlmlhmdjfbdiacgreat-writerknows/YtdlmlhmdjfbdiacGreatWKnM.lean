/-
  Steps of a late walk in a large frame, what follows behind a variable (so that nothing looks into it). No walk.
-/
import Derived.Test.YtdlmlhmdjfbdiacGreatWKnP
import Derived.Test.YtdlmlhmdjfbdiacGreatWSteps
import Derived.Test.YtdlmlhmdjfbdiacGreatVSay
namespace Go.Proofs.YtdlmlhmdjfbdiacGreat
open Go

section
variable {P : Program} {ops : Array Oper} {U0 : Cls} {sp lt : Nat → Bool}

theorem wpLate_bigK {Q : Act → World → Prop} {a : Act} {o : Oper} {rest : List Oper} {k : Nat} {U D : Cls} (d : Option Tmp) (w0 : World) (hs : (sp k || lt k) = false) (v : Value) (hd : o.dst = d) (hw : Region.wanted o (yielded ops a.tmps) = true)
    (hrun : ∀ w, U0 w → (execOp a.eval o).run P w = .ok (.value v) w) (h : ∀ K : Act → Prop, (∀ a', wpLate P ops U0 sp lt Q rest (k + 1) a' U D → K a') → Oper.quiet P ⟨d, .move (.const v), 0, "", #[], none⟩ a (fun _ => True) K) : wpLate P ops U0 sp lt Q (o :: rest) k a U D :=
  wpLate_still hs fun K hK => by
    rw [if_pos hw]
    refine ⟨v, hrun, ?_⟩
    rw [hd]
    exact put_of_quiet w0 (h K hK)

theorem wpLate_bigSkipK {Q : Act → World → Prop} {a : Act} {o : Oper} {rest : List Oper} {k : Nat} {U D : Cls} (d : Option Tmp) (w0 : World) (hs : (sp k || lt k) = false) (hd : o.dst = d) (hw : Region.wanted o (yielded ops a.tmps) = false)
    (h : ∀ K : Act → Prop, (∀ a', wpLate P ops U0 sp lt Q rest (k + 1) a' U D → K a') → Oper.quiet P ⟨d, .move (.const undef), 0, "", #[], none⟩ a (fun _ => True) K) : wpLate P ops U0 sp lt Q (o :: rest) k a U D :=
  wpLate_still hs fun K hK => by
    rw [if_neg (by simp [hw]), hd]
    exact put_of_quiet w0 (h K hK)

theorem wpLate_bigLateK {Q : Act → World → Prop} {a : Act} {o : Oper} {rest : List Oper} {k : Nat} {U D : Cls} (d : Option Tmp) (w0 : World) (hs : sp k = false) (hl : lt k = true) (v : Value) (hd : o.dst = d) (hw : Region.wanted o (yielded ops a.tmps) = true)
    (hrun : ∀ w, U w → (execOp a.eval o).run P w = .ok (.value v) w) (h : ∀ K : Act → Prop, (∀ a', wpLate P ops U0 sp lt Q rest (k + 1) a' U D → K a') → Oper.quiet P ⟨d, .move (.const v), 0, "", #[], none⟩ a (fun _ => True) K) : wpLate P ops U0 sp lt Q (o :: rest) k a U D :=
  wpLate_late hs hl fun K hK => by
    rw [if_pos hw]
    refine ⟨v, hrun, ?_⟩
    rw [hd]
    exact put_of_quiet w0 (h K hK)

theorem wpLate_bigSpineK {Q : Act → World → Prop} {a : Act} {o : Oper} {rest : List Oper} {k : Nat} {U D : Cls} (d : Option Tmp) (w0 : World) (hs : sp k = true) (hd : o.dst = d) (hw : Region.wanted o (yielded ops a.tmps) = true) (p : Value → Prop) (U' D' : Value → Cls) (hp : ∃ v, p v) (hU : ∀ v w, U' v w → U w) (hD : ∀ v w, D' v w → U' v w)
    (hrun : ∀ w, D w → spineUpon P (fun v w' => p v ∧ D' v w') ((execOp a.eval o).run P w)) (h : ∀ v, p v → ∀ K : Act → Prop, (∀ a', wpLate P ops U0 sp lt Q rest (k + 1) a' (U' v) (D' v) → K a') → Oper.quiet P ⟨d, .move (.const v), 0, "", #[], none⟩ a (fun _ => True) K) : wpLate P ops U0 sp lt Q (o :: rest) k a U D :=
  wpLate_spine hs hw p U' D' hp hU hD hrun fun v hv => by
    rw [hd]
    exact put_of_quiet w0 (h v hv _ (fun _ h => h))

/-! Several that are passed over, behind one that is not. -/

def skipB (ops : Array Oper) (sp lt : Nat → Bool) : List Oper → Nat → Nat → Act → Bool
  | o :: os, n + 1, k, a => !(sp k || lt k) && !(Region.wanted o (yielded ops a.tmps)) && skipB ops sp lt os n (k + 1) (a.put o.dst undef)
  | _, _, _, _ => true

def skipA : List (Option Tmp) → Act → Act
  | [], a => a
  | d :: ds, a => skipA ds (a.put d undef)

def skipQ (P : Program) : List (Option Tmp) → Act → (Act → Prop) → Prop
  | [], a, K => K a
  | d :: ds, a, K => ∀ K' : Act → Prop, (∀ a', skipQ P ds a' K → K' a') → Oper.quiet P ⟨d, .move (.const undef), 0, "", #[], none⟩ a (fun _ => True) K'

theorem skipQ_act (w0 : World) {K : Act → Prop} : ∀ (ds : List (Option Tmp)) (a : Act), skipQ P ds a K → K (skipA ds a)
  | [], _, h => h
  | _ :: ds, _, h => put_of_quiet (P := P) (K := fun a' => K (skipA ds a')) w0 (h _ (fun a' h' => skipQ_act w0 ds a' h'))

theorem wpLate_skips {Q : Act → World → Prop} {U D : Cls} : ∀ (n : Nat) (l : List Oper) (k : Nat) (a : Act) (ds : List (Option Tmp)), n ≤ l.length → (l.take n).map (·.dst) = ds → skipB ops sp lt l n k a = true → wpLate P ops U0 sp lt Q (l.drop n) (k + n) (skipA ds a) U D → wpLate P ops U0 sp lt Q l k a U D
  | 0, l, k, a, ds, _, hd, _, h => by
    subst hd
    exact h
  | n + 1, [], k, a, ds, hn, _, _, _ => absurd hn (by simp)
  | n + 1, o :: os, k, a, ds, hn, hd, hb, h => by
    subst hd
    simp only [skipB, Bool.and_eq_true] at hb
    obtain ⟨⟨h1, h2⟩, h3⟩ := hb
    refine wpLate_still (by simpa using h1) fun K hK => ?_
    rw [if_neg (by simpa using h2)]
    refine hK _ (wpLate_skips n os (k + 1) (a.put o.dst undef) _ (by simpa using hn) rfl h3 ?_)
    rw [show k + 1 + n = k + (n + 1) by omega]
    exact h

theorem wpLate_bigSkipsK {Q : Act → World → Prop} {a : Act} {o : Oper} {rest : List Oper} {k : Nat} {U D : Cls} (d : Option Tmp) (ds : List (Option Tmp)) (n : Nat) (w0 : World) (hs : (sp k || lt k) = false) (v : Value) (hd : o.dst = d) (hw : Region.wanted o (yielded ops a.tmps) = true)
    (hrun : ∀ w, U0 w → (execOp a.eval o).run P w = .ok (.value v) w) (hn : n ≤ rest.length) (hds : (rest.take n).map (·.dst) = ds) (hb : skipB ops sp lt rest n (k + 1) (a.put d v) = true)
    (h : ∀ K : Act → Prop, (∀ a', wpLate P ops U0 sp lt Q (rest.drop n) (k + 1 + n) a' U D → K a') → ∀ K' : Act → Prop, (∀ a', skipQ P ds a' K → K' a') → Oper.quiet P ⟨d, .move (.const v), 0, "", #[], none⟩ a (fun _ => True) K') : wpLate P ops U0 sp lt Q (o :: rest) k a U D :=
  wpLate_still hs fun K hK => by
    rw [if_pos hw]
    refine ⟨v, hrun, ?_⟩
    rw [hd]
    refine hK _ (wpLate_skips n rest (k + 1) (a.put d v) ds hn hds hb ?_)
    exact skipQ_act (P := P) w0 ds (a.put d v) (put_of_quiet (P := P) w0 (h (fun a' => wpLate P ops U0 sp lt Q (rest.drop n) (k + 1 + n) a' U D) (fun _ h' => h') (fun a' => skipQ P ds a' _) (fun _ h' => h')))

end
end Go.Proofs.YtdlmlhmdjfbdiacGreat

/-
  The contract of Known: its list, as if nothing were open.
-/
namespace Go.Proofs.YtdlmlhmdjfbdiacGreat
open Go.RowKit

theorem andNot_small : ∀ (g : Fin 16) (k : Fin 4), bits .andNot .i64 ((g.val : Nat) : Int) (IntKind.i64.wrap ((2 : Int) ^ k.val)) = clrG ((k.val : Nat) : Int) ((g.val : Nat) : Int) := by decide +kernel

theorem andNot_bit {g : Int} {k : Nat} (h0 : 0 ≤ g) (h1 : g ≤ 15) (hk : k ≤ 3) : bits .andNot .i64 g (IntKind.i64.wrap ((2 : Int) ^ k)) = clrG k g := by
  obtain ⟨n, rfl⟩ := Int.eq_ofNat_of_zero_le h0
  exact andNot_small ⟨n, by omega⟩ ⟨k, by omega⟩

/-- In the middle of Known: a list of the call's own. -/
structure KI (w : World) (v : Value) (L : List Ch) (wk : World) : Prop where
  below : Below w.heap.size w wk
  own : Own wk w.heap.size v L

theorem KI.after {w wk w' : World} {v : Value} {L : List Ch} (h : KI w v L wk) (hb : Below wk.heap.size wk w') : KI w v L w' := ⟨below_after h.below hb, h.own.below hb⟩
theorem KI.put {w wk : World} {g n cap : Nat} {L : List Ch} (h : KI w (.slice (some ⟨g, 0, none⟩) n cap) L wk) (hn : L.length = n) {i r : Nat} (hi : i < L.length) (hr : r < 7) {y : Ch} {u : Value} (hy : (chCells L[i]).set r u = chCells y) : KI w (.slice (some ⟨g, 0, none⟩) n cap) (L.set i y) (wk.setCell ⟨g, i * 7 + r, none⟩ u) :=
  ⟨h.below.setCell (p := ⟨g, _, none⟩) (World.ownsRow.lt h.own g rfl).1 _, own_field h.own hn hi hr hy⟩

theorem clr_yes {me : Int} {ts : List (List Ch)} {x : Ch} (h : anyTook ts x = true) : clrF me ts x = ⟨x.c, x.by_, x.no, x.k, x.inn, x.out, clrG me x.gone⟩ := by
  unfold anyTook at h
  rw [clrF, if_pos h]
theorem clr_no {me : Int} {ts : List (List Ch)} {x : Ch} (h : anyTook ts x = false) : clrF me ts x = x := by
  unfold anyTook at h
  rw [clrF, if_neg (by rw [h]; simp)]

set_option maxRecDepth 20000 in
set_option maxHeartbeats 1600000 in
theorem known_pw {w : World} {base P : Nat} {S : Nat → Prop} {lv ov : Value} {tvs : List Value} {l : List Ch} {es : List Dd} {ts : List (List Ch)} {next seen sent : Int} {me : Nat} (h : PwAt w base S P lv ov tvs l es ts me next seen sent) (hl : l.length ≤ 1000) (hme : me ≤ 3) (hes : es.length ≤ 1000) (hts : ∀ t ∈ ts, t.length ≤ 1000) (hg : ∀ x ∈ l, 0 ≤ x.gone ∧ x.gone ≤ 15) :
    Calls Tryz.prog 12 #[.pointer (some ⟨P, 0, none⟩)] w fun e w' => ∃ v', e = .returned v' ∧ Own w' w.heap.size v' (knownL me ts l) ∧ Below w.heap.size w w' := by
  have HA : Hid (PwAt w base S P lv ov tvs l es ts me next seen sent) := h
  have HT : Hid (∀ t ∈ ts, t.length ≤ 1000) := hts
  have HG : Hid (∀ x ∈ l.filter (fun x => !decide (x.inn = openN)), 0 ≤ x.gone ∧ x.gone ≤ 15) := fun x hx => hg x (List.mem_filter.1 hx).1
  have HF : Hid (knownL me ts l = (l.filter (fun x => !decide (x.inn = openN))).map (clrF me ts)) := rfl
  have hfl : (l.filter (fun x => !decide (x.inn = openN))).length ≤ 1000 := Nat.le_trans (List.length_filter_le _ _) hl
  have hlt := h.cells.lt
  have hmf : ∀ (fn : Fn) (first cap : Array Value) (w : World), (Instr.makeFunc fn first cap).run Tryz.prog w = .ok (.func fn first cap) w := fun _ _ _ _ => rfl
  have hm4 : (me : Int) < 64 := by omega
  clear h hts hg
  go_enter Tryz.func12, Tryz.ntmps12
  go_wp2_with fail
  refine (chars_pw HA.out hl).mono ?_
  rintro e w1 ⟨v1, rfl, ho1, hb1⟩
  have HO1 : Hid (Own w1 w.heap.size v1 l) := ho1
  have HB1 : Hid (Below w.heap.size w w1) := hb1
  clear ho1 hb1
  go_wp2_with fail
  refine (deleteFunc_own (isOpen_looks w.heap.size) HO1.out HB1.out.size hl trivial).mono ?_
  rintro e w2 ⟨v2, rfl, ho2, hb2⟩
  have HK : Hid (KI w v2 (l.filter fun x => !decide (x.inn = openN)) w2) := ⟨HB1.out.trans hb2, ho2⟩
  clear ho2 hb2 HO1 HB1
  generalize (l.filter fun x => !decide (x.inn = openN)) = z at *
  by_cases h0 : z.length = 0
  · obtain rfl : z = [] := List.length_eq_zero_iff.1 h0
    obtain ⟨a, cap, rfl, _⟩ := HK.out.own.lst.len
    go_wp2
    refine wp_loop_rounds 1 ?_
    rw [rounds_succ]
    go_wp2
    go_ret
    exact ⟨_, rfl, by rw [HF.out]; exact HK.out.own, HK.out.below⟩
  · obtain ⟨g, cap, rfl⟩ := own_place HK.out.own (by omega)
    have HN : Hid (∃ n, z.length = n) := ⟨_, rfl⟩
    obtain ⟨n, hn⟩ := HN.out
    have HZ : Hid (z.length = n) := hn
    rw [hn] at HK hfl h0
    rw [hn]
    clear HN hn
    go_wp2
    go_loopw [11] (fun i wr => ∃ k : Nat, k ≤ n ∧ i = .int .i64 k ∧ Hid (KI w (.slice (some ⟨g, 0, none⟩) n cap) (mixF (clrF me ts) k z) wr)) (fun i _ => n - (intOf i).toNat)
    case atStart => exact ⟨0, Nat.zero_le _, rfl, HK⟩
    case round =>
      obtain ⟨k, hk, rfl, HJ⟩ := hrel
      clear HK
      have hPg : P ≠ g := by have := (World.ownsRow.lt HJ.out.own g rfl).1; omega
      have hPg' : ¬ g = P := fun e => hPg e.symm
      by_cases hlt2 : k < n
      · have hkl : k < z.length := by rw [HZ.out]; exact hlt2
        have hml : (mixF (clrF me ts) k z).length = n := by rw [mixF_len, HZ.out]
        have hkm : k < (mixF (clrF me ts) k z).length := by rw [hml]; exact hlt2
        have hget := mixF_get (clrF me ts) hkl hkm
        obtain ⟨b', o', e', _, r'⟩ := HJ.out.own.lst.row (by omega)
        cases e'
        obtain ⟨h0, h1, h2, h3, h4, h5, h6⟩ := r'.at_ k hkm
        simp only [Nat.zero_add] at h0 h1 h2 h3 h4 h5 h6
        rw [hget] at h0 h1 h2 h3 h4 h5 h6
        obtain ⟨x, hx⟩ : ∃ x, x = z[k] := ⟨_, rfl⟩
        rw [← hx] at h0 h1 h2 h3 h4 h5 h6
        have HX : Hid (x = z[k]) := hx
        have HGT : Hid ((mixF (clrF me ts) k z)[k] = z[k]) := hget
        have hgb : 0 ≤ x.gone ∧ x.gone ≤ 15 := by rw [hx]; exact HG.out _ (List.getElem_mem hkl)
        obtain ⟨hg0, hg15⟩ := hgb
        have c4 := (HA.out.below HJ.out.below).cells.opens
        have hPw := (HA.out.below HJ.out.below).cells.lt
        obtain ⟨ao, capo, hov⟩ := HA.out.topen.form
        have HOV : Hid (ov = .slice ao es.length capo) := hov
        rw [hov] at c4
        clear r' hx hget hov
        have HBX : Hid (CBox x wr.heap.size (wr.alloc (chObj x))) := by
          refine ⟨by simp, ?_, ?_, ?_, ?_, ?_, ?_, ?_⟩ <;> simp [go_sem]
        have HAX : Hid (Below wr.heap.size wr (wr.alloc (chObj x))) := below1 _ _
        have HGO : Hid (bits .andNot .i64 x.gone (IntKind.i64.wrap ((2 : Int) ^ me)) = clrG me x.gone) := andNot_bit hg0 hg15 hme
        obtain ⟨xc, xb, xn, xk, xi, xo, xg⟩ := x
        simp only at h0 h1 h2 h3 h4 h5 h6 hg0 hg15 HGO
        go_wp2_with fail
        have hco := containsO_any (HA.out.topen.below (below_after HJ.out.below HAX.out)) hes HT.out ⟨xc, xb, xn, xk, xi, xo, xg⟩ wr.heap.size HBX.out
        rw [HOV.out] at hco
        refine hco.mono ?_
        rintro e w3 ⟨rfl, hb3⟩
        have HJ3 : Hid (KI w (.slice (some ⟨g, 0, none⟩) n cap) (mixF (clrF me ts) k z) w3) := HJ.out.after (below_after HAX.out hb3)
        clear hb3 hco HBX HAX h0 h1 h2 h3 h4 h5 h6 c4 HJ
        cases hany : anyTook ts ⟨xc, xb, xn, xk, xi, xo, xg⟩
        · have HN2 : Hid (KI w (.slice (some ⟨g, 0, none⟩) n cap) (mixF (clrF me ts) (k + 1) z) w3) := by
            rw [mixF_same _ hkl (by rw [← HX.out]; exact clr_no hany)]
            exact HJ3
          clear HJ3 HX HGT hany HGO
          go_wp2
          go_roundw
          case rel => exact ⟨k + 1, by omega, by go_num, HN2⟩
          case measure => simp [intOf]; omega
        · have HN2 : Hid (∀ wk, KI w (.slice (some ⟨g, 0, none⟩) n cap) (mixF (clrF me ts) k z) wk → KI w (.slice (some ⟨g, 0, none⟩) n cap) (mixF (clrF me ts) (k + 1) z) (wk.setCell ⟨g, k * 7 + 6, none⟩ (.int .i64 (clrG me xg)))) := fun wk hwk => by
            have := hwk.put hml (i := k) (r := 6) (y := clrF me ts z[k]) (u := .int .i64 (clrG me xg)) (by rw [hml]; exact hlt2) (by omega) (by rw [HGT.out, ← HX.out, clr_yes hany]; rfl)
            rw [mixF_set _ hkl] at this
            exact this
          have HCE : Hid (∀ wk, KI w (.slice (some ⟨g, 0, none⟩) n cap) (mixF (clrF me ts) k z) wk → wk.cell? ⟨g, k * 7 + 6, none⟩ = some (.int .i64 xg) ∧ wk.frozen? ⟨g, k * 7 + 6, none⟩ = false) := fun wk hwk => by
            obtain ⟨b', o', e', _, r'⟩ := hwk.own.lst.row (by omega)
            cases e'
            obtain ⟨_, _, _, _, _, _, q6⟩ := r'.at_ k hkm
            rw [HGT.out, ← HX.out] at q6
            simp only [Nat.zero_add] at q6
            exact ⟨q6, (own_spot7 hwk.own hml (j := k * 7 + 6) (by omega)).2⟩
          clear HX HGT hany
          go_wp2
          refine wp_region_stage (fun wk => Below w.heap.size w wk) (fun i => i == 4 || i == 13) (fun wk => KI w (.slice (some ⟨g, 0, none⟩) n cap) (mixF (clrF me ts) k z) wk) (by kernel_rfl) (by kernel_rfl) (by kernel_rfl) (fun _ h => h.below) (HJ3.out.after (Below.refl _ _).drew) ?_
          refine wpStage_still rfl (fun K hK => ?_)
          go_simp
          refine ⟨_, fun _ _ => rfl, hK _ ?_⟩
          clear hK K
          refine wpStage_still rfl (fun K hK => ?_)
          go_simp
          refine ⟨_, fun _ _ => rfl, hK _ ?_⟩
          clear hK K
          refine wpStage_still rfl (fun K hK => ?_)
          go_simp
          refine ⟨_, fun _ _ => rfl, hK _ ?_⟩
          clear hK K
          refine wpStage_still rfl (fun K hK => ?_)
          go_simp
          refine ⟨_, fun _ _ => rfl, hK _ ?_⟩
          clear hK K
          refine wpStage_spine rfl rfl (fun u => u = .int .i64 xg) (fun u wk => KI w (.slice (some ⟨g, 0, none⟩) n cap) (mixF (clrF me ts) k z) wk) ⟨_, rfl⟩ (fun _ _ h => h.below) (fun wk hwk => ?_) (fun v4 hv4 => ?_)
          · obtain ⟨q6, _⟩ := HCE.out wk hwk
            go_simp
            exact ⟨rfl, hwk⟩
          subst hv4
          refine wpStage_still rfl (fun K hK => ?_)
          go_simp
          refine ⟨_, fun _ _ => rfl, hK _ ?_⟩
          clear hK K
          refine wpStage_still rfl (fun K hK => ?_)
          go_simp
          refine ⟨_, fun _ _ => rfl, hK _ ?_⟩
          clear hK K
          refine wpStage_still rfl (fun K hK => ?_)
          go_simp
          refine ⟨_, fun _ _ => rfl, hK _ ?_⟩
          clear hK K
          refine wpStage_still rfl (fun K hK => ?_)
          go_simp
          refine ⟨.int .i64 me, fun wk hwk => ?_, hK _ ?_⟩
          · have c := (HA.out.below hwk).cells.me
            go_simp
          clear hK K
          refine wpStage_still rfl (fun K hK => ?_)
          go_simp
          refine ⟨.int .i64 (IntKind.i64.wrap ((2 : Int) ^ me)), fun wk hwk => ?_, hK _ ?_⟩
          · go_simp
          clear hK K
          refine wpStage_still rfl (fun K hK => ?_)
          go_simp
          refine ⟨.int .i64 (clrG me xg), fun wk hwk => ?_, hK _ ?_⟩
          · rw [← HGO.out]
          clear hK K
          refine wpStage_still rfl (fun K hK => ?_)
          go_simp
          refine ⟨_, fun _ _ => rfl, hK _ ?_⟩
          clear hK K
          refine wpStage_still rfl (fun K hK => ?_)
          go_simp
          refine ⟨_, fun _ _ => rfl, hK _ ?_⟩
          clear hK K
          refine wpStage_spine rfl rfl (fun u => u = .tuple #[]) (fun u wk => KI w (.slice (some ⟨g, 0, none⟩) n cap) (mixF (clrF me ts) (k + 1) z) wk) ⟨_, rfl⟩ (fun _ _ h => h.below) (fun wk hwk => ?_) (fun v13 hv13 => ?_)
          · obtain ⟨q6, f6⟩ := HCE.out wk hwk
            have hN := HN2.out wk hwk
            go_simp
            exact ⟨rfl, hN⟩
          refine wpStage_nil (fun w9 hw9 => ?_)
          have H9 : Hid _ := hw9
          clear hw9
          go_wp2
          go_roundw
          case rel => exact ⟨k + 1, by omega, by go_num, H9⟩
          case measure => simp [intOf]; omega
      · obtain rfl : k = n := by omega
        have HE : Hid (mixF (clrF me ts) k z = z.map (clrF me ts)) := by show _ = _; rw [← HZ.out, mixF_all]
        go_wp2
        go_ret
        exact ⟨_, rfl, by rw [HF.out, ← HE.out]; exact HJ.out.own, HJ.out.below⟩

end Go.Proofs.YtdlmlhmdjfbdiacGreat

/-
  For the law WriterKnows: a room whose mark 'bare' is set; a writer, the log and lists that lie in memory. No walk.
-/
namespace Go.Proofs.YtdlmlhmdjfbdiacGreat
open Go Go.RowKit

section
variable {P : Program} {ops : Array Oper} {U0 : Cls} {sp lt : Nat → Bool}

/-- One that is passed over, of the spine or not. -/
theorem wpLate_bigSkipS {Q : Act → World → Prop} {a : Act} {o : Oper} {rest : List Oper} {k : Nat} {U D : Cls} (d : Option Tmp) (w0 : World) (hd : o.dst = d) (hw : Region.wanted o (yielded ops a.tmps) = false)
    (h : ∀ K : Act → Prop, (∀ a', wpLate P ops U0 sp lt Q rest (k + 1) a' U D → K a') → Oper.quiet P ⟨d, .move (.const undef), 0, "", #[], none⟩ a (fun _ => True) K) : wpLate P ops U0 sp lt Q (o :: rest) k a U D := by
  show if _ then _ else _
  rw [if_neg (by simp [hw]), hd]
  exact put_of_quiet w0 (h (fun a' => wpLate P ops U0 sp lt Q rest (k + 1) a' U D) (fun _ h => h))

end

theorem RmC.setB {w : World} {R G : Nat} {pw sc : Nat → Nat} {bare : Bool} {hp hs : Nat → Bool} (h : RmC w R G pw sc bare hp hs) (b : Bool) : RmC (w.setCell ⟨R, 9, none⟩ (.bool b)) R G pw sc b hp hs := by
  have hl := h.log
  have hb := h.bare
  refine ⟨by simpa using h.lt, ?_, fun j hj => ?_, fun j hj => ?_, ?_, fun o ho => ?_⟩
  · simp [go_sem, hl]
  · have h1 := h.wr j hj
    have e : 1 + j ≠ 9 := by omega
    have e2 : (w.setCell ⟨R, 9, none⟩ (.bool b)).cell? ⟨R, 1 + j, none⟩ = w.cell? ⟨R, 1 + j, none⟩ := by simp [go_sem]; try omega
    rw [e2]
    exact h1
  · have h1 := h.sc j hj
    have e : 5 + j ≠ 9 := by omega
    have e2 : (w.setCell ⟨R, 9, none⟩ (.bool b)).cell? ⟨R, 5 + j, none⟩ = w.cell? ⟨R, 5 + j, none⟩ := by simp [go_sem]; try omega
    rw [e2]
    exact h1
  · simp [go_sem, hb]
  · simpa [go_sem] using h.free o ho

theorem RR.bared {w wk : World} {R G : Nat} (h : RR w R G false rm0 wk) (bare : Bool) : RR w R G bare rm0 (wk.setCell ⟨R, 9, none⟩ (.bool bare)) := by
  obtain ⟨pw, sc, ow, hr, hk⟩ := h.room
  obtain ⟨q1, _, _⟩ := hr.rest 9 (.bool bare)
  have hR := hr.lo R (by rw [hr.own]; omega)
  exact ⟨⟨pw, sc, ow, ⟨hr.cells.setB bare, hr.own, fun j e => by simpa [World.setCell] using hr.lo j e, q1, fun _ _ _ _ e => (by cases e), fun _ _ _ e => (by cases e)⟩, fun _ e => e.elim⟩, rmi0 bare, h.below.setCell (p := ⟨R, 9, none⟩) hR.1 _⟩

theorem src_new2 (w : World) (d : Dd) {n : Nat} (hn : n = w.heap.size) : ∀ j u, (cellsD [d])[j]? = some u → (w.alloc (.cells #[.int .i64 d.kind, .int .i64 d.by_, .int .i64 d.no, .int .i64 d.seen, .int .i64 d.at_, .int .i64 d.many, .string d.text] 41)).cell? ((⟨n, 0, none⟩ : Addr).add j) = some u := by
  subst hn
  exact src_new w [d] _ rfl

theorem below_grown2 {w wr w2 : World} {v : Value} {l : List Dd} {o : Obj} (hb : Below w.heap.size w wr) (ho : OwnD wr w.heap.size v l) (hg : (wr.alloc o).grownBy w2 v.ownBlock) : Below w.heap.size w w2 :=
  (hb.alloc hb.size _).grown hg (by have := hb.size; simp; omega) (fun j hj => (World.ownsRow.lt ho j hj).1)

/-- A writer and the log, as they lie, a fault in its box, and a list. -/
structure KQ (w : World) (base P R G F : Nat) (r : Wr) (ts : List (List Ch)) (b : Bk) (vk : Value) (L : List Ch) (wk : World) : Prop where
  pw : ∃ S lv ov tvs, PwAt wk base S P lv ov tvs r.list r.opens ts r.me r.next r.seen r.sent
  log : ∃ S dv lv, LogAt wk base S G dv lv b
  rg : wk.cell? ⟨R, 0, none⟩ = some (.pointer (some ⟨G, 0, none⟩))
  fc : wk.cell? ⟨F, 0, none⟩ = some (.int .i64 0)
  lt : R < wk.heap.size ∧ F < wk.heap.size
  kn : Lst wk vk L
  below : Below w.heap.size w wk

theorem KQ.after {w wk w' : World} {base P R G F : Nat} {r : Wr} {ts : List (List Ch)} {b : Bk} {vk : Value} {L : List Ch} (h : KQ w base P R G F r ts b vk L wk) (hb : Below wk.heap.size wk w') : KQ w base P R G F r ts b vk L w' := by
  obtain ⟨S, lv, ov, tvs, hp⟩ := h.pw
  obtain ⟨S2, dv, lv2, hl⟩ := h.log
  have hs := hb.size
  exact ⟨⟨S, lv, ov, tvs, hp.below hb⟩, ⟨S2, dv, lv2, hl.below hb⟩, by rw [(bcell hb).1 _ _ h.lt.1]; exact h.rg, by rw [(bcell hb).1 _ _ h.lt.2]; exact h.fc, ⟨Nat.lt_of_lt_of_le h.lt.1 hs, Nat.lt_of_lt_of_le h.lt.2 hs⟩, h.kn.below hb, below_after h.below hb⟩

theorem KQ.list {w wk : World} {base P R G F : Nat} {r : Wr} {ts : List (List Ch)} {b : Bk} {vk vk' : Value} {L L' : List Ch} (h : KQ w base P R G F r ts b vk L wk) (hl : Lst wk vk' L') : KQ w base P R G F r ts b vk' L' wk := ⟨h.pw, h.log, h.rg, h.fc, h.lt, hl, h.below⟩

/-- Besides, lists that were made. -/
structure KV (w : World) (base P R G F : Nat) (r : Wr) (ts : List (List Ch)) (b : Bk) (vk : Value) (L : List Ch) (v1 v2 : Value) (l1 l2 : List Ch) (wk : World) : Prop where
  q : KQ w base P R G F r ts b vk L wk
  h1 : Lst wk v1 l1
  h2 : Lst wk v2 l2

/-- Besides, its open deeds. -/
structure KL (w : World) (base P R G F : Nat) (r : Wr) (ts : List (List Ch)) (b : Bk) (vk : Value) (L : List Ch) (lo : Nat) (vo : Value) (wk : World) : Prop where
  q : KQ w base P R G F r ts b vk L wk
  op : OwnD wk lo vo r.opens

theorem KL.after {w wk w' : World} {base P R G F lo : Nat} {r : Wr} {ts : List (List Ch)} {b : Bk} {vk vo : Value} {L : List Ch} (h : KL w base P R G F r ts b vk L lo vo wk) (hb : Below wk.heap.size wk w') : KL w base P R G F r ts b vk L lo vo w' := ⟨h.q.after hb, h.op.below hb⟩

/-- Besides, bytes that tell a text. -/
structure KT (w : World) (base P R G F : Nat) (r : Wr) (ts : List (List Ch)) (b : Bk) (vk : Value) (L : List Ch) (u : Value) (s : ByteArray) (wk : World) : Prop where
  q : KQ w base P R G F r ts b vk L wk
  te : Tells u s wk

/-- From a room. -/
theorem kq_of {w wk : World} {base R G : Nat} {pw sc : Nat → Nat} {bare : Bool} {K : Nat → Prop} {m : Rm} (h : Room base R G pw sc bare K m w) {k : Nat} (hk : k < 4) {r : Wr} {ts : List (List Ch)} (he : m.p k = some (r, ts)) (hb : Below w.heap.size w wk) {F : Nat} (hF : F < wk.heap.size) (hf : wk.cell? ⟨F, 0, none⟩ = some (.int .i64 0)) {vk : Value} {L : List Ch} (hl : Lst wk vk L) : KQ w base (pw k) R G F r ts m.b vk L wk := by
  have h' := h.after hb
  obtain ⟨S, lv, ov, tvs, hp, _⟩ := h'.wr hk he
  obtain ⟨S2, dv, lv2, hlg, _⟩ := h'.log
  exact ⟨⟨S, lv, ov, tvs, hp⟩, ⟨S2, dv, lv2, hlg⟩, h'.cells.log, hf, ⟨h'.cells.lt, hF⟩, hl, hb⟩

end Go.Proofs.YtdlmlhmdjfbdiacGreat
