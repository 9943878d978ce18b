/-
  The document's own BehindOf, BytesOf and MayDo: their contracts.
-/
import Derived.Test.YtfpemdbiplfkgacGreatDFault
import Derived.Test.YtfpemdbiplfkgacGreatFStage
import Derived.Test.YtfpemdbiplfkgacGreatFPut
namespace Go.Proofs.YtfpemdbiplfkgacGreat
open Go.RowKit

set_option maxRecDepth 20000 in
set_option maxHeartbeats 400000 in
theorem refBehind_zero (v : Value) (seen by_ : Int) (w : World) :
    Calls Tryz.prog 140 #[v, .int .i64 seen, .int .i64 by_, .int .i64 0] w fun e w' => e = .returned (.int .i64 0) ∧ Below w.heap.size w w' := by
  go_enter Tryz.func140, Tryz.ntmps140
  go_wp2
  go_ret
  exact ⟨rfl, Below.refl _ _⟩

set_option maxRecDepth 20000 in
set_option maxHeartbeats 800000 in
theorem refBehind_some (b off len cap : Nat) (l : List Ch) (seen by_ : Int) (n : Nat) (w : World) (hl : l.length = len) (hm : len ≤ 1000) (hr : Row w b off l) (ht : Tame l) (hn : 0 < n) (hn2 : n ≤ 1000) :
    Calls Tryz.prog 140 #[.slice (some ⟨b, off, none⟩) len cap, .int .i64 seen, .int .i64 by_, .int .i64 n] w fun e w' => e = .returned (.int .i64 (behindI l seen by_ n)) ∧ Below w.heap.size w w' := by
  have HR : Hid (Row w b off l) := hr
  have HL : Hid (l.length = len) := hl
  have HT : Hid (Tame l) := ht
  have hb := hr.lt
  have hn' : ((n : Int) == 0) = false := by simp; omega
  clear hr hl ht
  go_enter Tryz.func140, Tryz.ntmps140
  go_wp2
  go_loopw [9, 10] (fun m i wr => ∃ k j : Nat, k ≤ len ∧ i = .int .i64 k ∧ m = .int .i64 j ∧ Hid (BTo l seen by_ n k j) ∧ Hid (Below w.heap.size w wr)) (fun _ i _ => len - (intOf i).toNat)
  case atStart => exact ⟨0, 0, Nat.zero_le _, rfl, rfl, bto_start l seen by_ hn, Below.refl _ _⟩
  case round =>
    obtain ⟨k, j, hk, rfl, rfl, HBT, HB⟩ := hrel
    have hjn := HBT.out.1
    by_cases hlt : k < len
    · have hkl : k < l.length := by rw [HL.out]; exact hlt
      obtain ⟨t1, t2, t3, t4⟩ := tame_get HT.out k hkl
      obtain ⟨h0, h1, h2, h3, h4, h5, h6⟩ := (HR.out.below HB.out).at_ k hkl
      have HX : Hid (∃ x, x = l[k]) := ⟨_, rfl⟩
      obtain ⟨x, hx⟩ := HX.out
      rw [← hx] at h0 h1 h2 h3 h4 h5 h6 t1 t2 t3 t4
      have HXK : Hid (x = l[k]) := hx
      clear hx HX t2
      go_wp2_with fail
      refine (refSees_any x _ _ _ t1 (by omega) (by omega)).mono ?_
      rintro e w1 ⟨rfl, hb1⟩
      have HB1 : Hid (Below w.heap.size w w1) := below_after HB.out hb1
      clear h0 h1 h2 h3 h4 h5 h6 hb1
      cases hs : seesC seen by_ x
      · have HN : Hid (BTo l seen by_ n (k + 1) j) := bto_miss HBT.out hkl (by rw [← HXK.out]; exact hs)
        go_wp2
        go_roundw
        case rel => exact ⟨k + 1, j, by omega, by go_num, rfl, HN, HB1⟩
        case measure => simp [intOf]; omega
      · by_cases hj : j + 1 = n
        · have HN : Hid (behindL seen by_ n l = some (k + 1)) := bto_hit HBT.out hkl (by rw [← HXK.out]; exact hs) hj
          have hj' : ((j : Int) + 1 == (n : Int)) = true := by simp; omega
          clear hj
          go_wp2
          go_ret
          exact ⟨ret_int (by rw [behindI_some HN.out]; omega), HB1.out⟩
        · have HN : Hid (BTo l seen by_ n (k + 1) (j + 1)) := bto_met HBT.out hkl (by rw [← HXK.out]; exact hs) hj
          have hj' : ((j : Int) + 1 == (n : Int)) = false := by simp; omega
          clear hj
          go_wp2
          go_roundw
          case rel => exact ⟨k + 1, j + 1, by omega, by go_num, by go_num, HN, HB1⟩
          case measure => simp [intOf]; omega
    · obtain rfl : k = len := by omega
      have HN : Hid (behindL seen by_ n l = none) := bto_end (by rw [HL.out]; exact HBT.out)
      go_wp2
      go_ret
      exact ⟨ret_int (by rw [behindI_none HN.out]), HB.out⟩

set_option maxRecDepth 20000 in
set_option maxHeartbeats 400000 in
theorem refBehind_empty (a : Option Addr) (cap : Nat) (seen by_ n : Int) (w : World) (hn : 0 < n) :
    Calls Tryz.prog 140 #[.slice a 0 cap, .int .i64 seen, .int .i64 by_, .int .i64 n] w fun e w' => e = .returned (.int .i64 (-1)) ∧ Below w.heap.size w w' := by
  have hn' : (n == 0) = false := by simp; omega
  go_enter Tryz.func140, Tryz.ntmps140
  go_wp2
  refine wp_loop_rounds 1 ?_
  rw [rounds_succ]
  go_wp2
  go_ret
  exact ⟨rfl, Below.refl _ _⟩

/-- BehindOf at a number that is met. -/
theorem refBehind_lst {w : World} {v : Value} {l : List Ch} (h : Lst w v l) (hl : l.length ≤ 1000) (ht : Tame l) (seen by_ at_ : Int) (h0 : 0 ≤ at_) (hn : at_ ≤ cnt l seen by_) :
    Calls Tryz.prog 140 #[v, .int .i64 seen, .int .i64 by_, .int .i64 at_] w fun e w' => ∃ p : Nat, e = .returned (.int .i64 p) ∧ behindL seen by_ at_.toNat l = some p ∧ p ≤ l.length ∧ Below w.heap.size w w' := by
  have hc := cnt_bd l seen by_
  obtain ⟨n, rfl⟩ := Int.eq_ofNat_of_zero_le h0
  obtain ⟨p, hp⟩ := behindL_some (seen := seen) (by_ := by_) (n := n) (l := l) (by have := vw_len l seen by_; omega)
  have hpl := (behindL_view hp).1
  by_cases hz : n = 0
  · subst hz
    refine (refBehind_zero v seen by_ w).mono ?_
    rintro e w' ⟨rfl, hb⟩
    have : p = 0 := by
      have e0 : behindL seen by_ 0 l = some 0 := by cases l <;> rfl
      rw [e0] at hp
      exact (Option.some.inj hp).symm
    subst this
    exact ⟨0, rfl, hp, hpl, hb⟩
  · obtain ⟨a, len, cap, rfl, h1, h2, h3⟩ := h
    rcases h3 with rfl | ⟨b, off, rfl, hr⟩
    · obtain rfl : l = [] := List.length_eq_zero_iff.1 h1
      have : cnt [] seen by_ = 0 := rfl
      omega
    · refine (refBehind_some b off len cap l seen by_ n w h1 (by omega) hr ht (by omega) (by omega)).mono ?_
      rintro e w' ⟨rfl, hb⟩
      exact ⟨p, ret_int (behindI_some hp), hp, hpl, hb⟩

/-! append, as one operation of a spine. -/

theorem run_append_lst {w : World} {base : Nat} {v u : Value} {a b : List Ch} (ty : TypeId) (hv : Own w base v a) (hu : Lst w u b) (hl : a.length + b.length ≤ 100000) (hbase : base ≤ w.heap.size) :
    ∃ v' w', (Builtin.append_ #[44, 44] ty #[v, u]).run Tryz.prog w = .ok v' w' ∧ Own w' base v' (a ++ b) ∧ w.grownBy w' v.ownBlock := by
  obtain ⟨i0, hi, hz0, hz1, hz2⟩ := info_parts Tryz.infoChar
  rcases hu.src with ⟨cap, rfl, rfl⟩ | ⟨ad, cap, rfl, hc, hsrc⟩
  · exact ⟨v, w, run_append_none w base 44 ty 71 i0 7 cap Tryz.underlying44 hi v a.length (cells7 a) hv, by rw [List.append_nil]; exact hv, grown_refl w _⟩
  · obtain ⟨v', w', h1, h2, h3, _⟩ := run_append_own (P := Tryz.prog) w base 44 ty 71 i0 zeroCh 7 56 Tryz.underlying44 hi hz0 hz1 hz2 rfl (by decide) v a.length (cells7 a) hv ad b.length cap (cells7 b) (cells7_len b) hsrc (cells7_one b) (by unfold maxLen; omega) (by omega) hbase
    refine ⟨v', w', h1, ?_, h3⟩
    unfold Own
    rw [List.length_append, cells7_app]
    exact h2

theorem spine_append {o : Oper} {act : Act} {w : World} {s x : Operand} (ho : o.op = .call { callee := .builtin .append, args := #[s, x], argTypes := #[44, 44] }) {base : Nat} {v u : Value} {a b : List Ch} {D : Value → World → Prop}
    (hs : act.eval s = v) (hx : act.eval x = u) (hv : Own w base v a) (hu : Lst w u b) (hl : a.length + b.length ≤ 100000) (hbase : base ≤ w.heap.size)
    (h : ∀ v' w', Own w' base v' (a ++ b) → w.grownBy w' v.ownBlock → D v' w') : spineUpon Tryz.prog D ((execOp act.eval o).run Tryz.prog w) := by
  obtain ⟨v', w', h1, h2, h3⟩ := run_append_lst o.type hv hu hl hbase
  have hh := h v' w' h2 h3
  simp [execOp, ho, resolve, invoke, builtin, hs, hx, h1, Result.andThen]
  exact hh

/-- One byte that lies in a new block. -/
theorem lst_one (w : World) (x : Ch) : Lst (w.alloc (.cells #[.int .u8 x.c, .int .i64 x.by_, .int .i64 x.no, .int .i64 x.k, .int .i64 x.inn, .int .i64 x.out, .int .i64 x.gone] 71)) (.slice (some ⟨w.heap.size, 0, none⟩) 1 1) [x] := by
  refine ⟨_, 1, 1, rfl, rfl, Nat.le_refl _, .inr ⟨w.heap.size, 0, rfl, ⟨by simp, fun i hi => ?_⟩⟩⟩
  obtain rfl : i = 0 := by simp at hi; exact hi
  refine ⟨?_, ?_, ?_, ?_, ?_, ?_, ?_⟩ <;> simp [go_sem]

/-- In the middle of BytesOf. -/
structure BI (w : World) (d : Dd) (v : Value) (z : List Ch) (wk : World) : Prop where
  below : Below w.heap.size w wk
  at_ : DdAt wk w.heap.size 0 d
  own : Own wk (w.heap.size + 1) v z

theorem BI.after {w wk w' : World} {d : Dd} {v : Value} {z : List Ch} (h : BI w d v z wk) (hb : Below wk.heap.size wk w') : BI w d v z w' := ⟨below_after h.below hb, h.at_.below hb, h.own.below hb⟩

theorem BI.grown {w wk w' : World} {d : Dd} {v v' : Value} {z z' : List Ch} (h : BI w d v z wk) (hg : wk.grownBy w' v.ownBlock) (ho : Own w' (w.heap.size + 1) v' z') : BI w d v' z' w' := by
  have hk : ∀ k, v.ownBlock = some k → w.heap.size + 1 ≤ k := fun k hk => (World.ownsRow.lt h.own k hk).1
  have hb : Below (w.heap.size + 1) wk w' := (Below.refl _ _).grown hg (by have := h.at_.lt; omega) hk
  have hc : ∀ o, w'.cell? ⟨w.heap.size, o, none⟩ = wk.cell? ⟨w.heap.size, o, none⟩ := fun o => hb.cell (p := ⟨w.heap.size, o, none⟩) (Nat.lt_succ_self _)
  obtain ⟨c, c0, c1, c2, c3, c4, c5, c6⟩ := h.at_
  refine ⟨h.below.trans (hb.mono (by omega)), ⟨by have := hb.size; omega, ?_, ?_, ?_, ?_, ?_, ?_, ?_⟩, ho⟩ <;> rw [hc] <;> assumption

set_option maxRecDepth 20000 in
set_option maxHeartbeats 800000 in
theorem bytesOf_any (d : Dd) (number : Int) (w : World) (ht : d.text.size ≤ 1000) :
    Calls Tryz.prog 141 #[ddV d, .int .i64 number] w fun e w' => ∃ v, e = .returned v ∧ Own w' w.heap.size v (newL d number) ∧ Below w.heap.size w w' := by
  have HI : Hid (BI w d (.slice none 0 0) [] (w.alloc (dObj d))) := ⟨(Below.refl _ _).alloc (Nat.le_refl _) _, ddat_start w d, own_nil _ _⟩
  obtain ⟨kind, by_, no, seen, at_, many, text⟩ := d
  simp only at ht
  go_enter Tryz.func141, Tryz.ntmps141
  go_wp2
  go_loopw [5, 6] (fun v i wr => ∃ k : Nat, k ≤ text.size ∧ i = .int .i64 k ∧ Hid (BI w ⟨kind, by_, no, seen, at_, many, text⟩ v (newFrom ⟨kind, by_, no, seen, at_, many, text⟩ number 0 (text.data.toList.take k)) wr)) (fun _ i _ => text.size - (intOf i).toNat)
  case atStart => exact ⟨0, Nat.zero_le _, rfl, HI⟩
  case round =>
    obtain ⟨k, hk, rfl, HK⟩ := hrel
    clear HI
    obtain ⟨_, c0, c1, c2, c3, c4, c5, c6⟩ := HK.out.at_
    simp only [Nat.zero_add] at c0 c1 c2 c3 c4 c5 c6
    by_cases hlt : k < text.size
    · have hkl : k < text.data.toList.length := hlt
      have HN : Hid (newFrom ⟨kind, by_, no, seen, at_, many, text⟩ number 0 (text.data.toList.take (k + 1)) = newFrom ⟨kind, by_, no, seen, at_, many, text⟩ number 0 (text.data.toList.take k) ++ [newCh ⟨kind, by_, no, seen, at_, many, text⟩ number k text[k]]) := by
        show _ = _
        rw [List.take_succ_eq_append_getElem hkl, newFrom_snoc, List.length_take, getB text k hlt, show 0 + min k text.data.toList.length = k by omega]
      have HZ : Hid ((newFrom ⟨kind, by_, no, seen, at_, many, text⟩ number 0 (text.data.toList.take k)).length ≤ 1000) := by
        show _ ≤ _
        rw [newFrom_len, List.length_take]
        omega
      generalize newFrom ⟨kind, by_, no, seen, at_, many, text⟩ number 0 (text.data.toList.take k) = zs at *
      go_wp2
      clear c0 c1 c2 c3 c4 c5 c6
      refine wp_region_stage (fun wk => DdAt wk w.heap.size 0 ⟨kind, by_, no, seen, at_, many, text⟩) (fun i => i == 12 || i == 13) (fun wk => BI w ⟨kind, by_, no, seen, at_, many, text⟩ u5 zs wk) (by kernel_rfl) (by kernel_rfl) (by kernel_rfl) (fun _ h => h.at_) (HK.out.after (Below.refl _ _).drew) ?_
      refine wpStage_still rfl (fun K hK => ?_)
      go_simp
      refine ⟨_, fun _ _ => rfl, hK _ ?_⟩
      clear hK K
      refine wpStage_still rfl (fun K hK => ?_)
      go_simp
      refine ⟨_, fun _ _ => rfl, hK _ ?_⟩
      clear hK K
      refine wpStage_still rfl (fun K hK => ?_)
      go_simp
      refine ⟨.string text, fun wk hwk => ?_, hK _ ?_⟩
      · obtain ⟨_, c0, c1, c2, c3, c4, c5, c6⟩ := hwk
        simp only [Nat.zero_add] at c0 c1 c2 c3 c4 c5 c6
        go_simp
      clear hK K
      refine wpStage_still rfl (fun K hK => ?_)
      go_simp
      refine ⟨_, fun _ _ => rfl, hK _ ?_⟩
      clear hK K
      refine wpStage_still rfl (fun K hK => ?_)
      go_simp
      refine ⟨.int .u8 text[k].toNat, fun wk hwk => ?_, hK _ ?_⟩
      · go_simp
      clear hK K
      refine wpStage_still rfl (fun K hK => ?_)
      go_simp
      refine ⟨_, fun _ _ => rfl, hK _ ?_⟩
      clear hK K
      refine wpStage_still rfl (fun K hK => ?_)
      go_simp
      refine ⟨.int .i64 by_, fun wk hwk => ?_, hK _ ?_⟩
      · obtain ⟨_, c0, c1, c2, c3, c4, c5, c6⟩ := hwk
        simp only [Nat.zero_add] at c0 c1 c2 c3 c4 c5 c6
        go_simp
      clear hK K
      refine wpStage_still rfl (fun K hK => ?_)
      go_simp
      refine ⟨_, fun _ _ => rfl, hK _ ?_⟩
      clear hK K
      refine wpStage_still rfl (fun K hK => ?_)
      go_simp
      refine ⟨.int .i64 no, fun wk hwk => ?_, hK _ ?_⟩
      · obtain ⟨_, c0, c1, c2, c3, c4, c5, c6⟩ := hwk
        simp only [Nat.zero_add] at c0 c1 c2 c3 c4 c5 c6
        go_simp
      clear hK K
      refine wpStage_still rfl (fun K hK => ?_)
      go_simp
      refine ⟨_, fun _ _ => rfl, hK _ ?_⟩
      clear hK K
      refine wpStage_still rfl (fun K hK => ?_)
      go_simp
      refine ⟨_, fun _ _ => rfl, hK _ ?_⟩
      clear hK K
      refine wpStage_still rfl (fun K hK => ?_)
      go_simp
      refine ⟨.agg #[.int .u8 text[k].toNat, .int .i64 by_, .int .i64 no, .int .i64 k, .int .i64 number, .int .i64 0, .int .i64 0], fun wk hwk => ?_, hK _ ?_⟩
      · go_simp
      clear hK K
      refine wpStage_spine rfl rfl (fun u => ∃ g, u = .slice (some ⟨g, 0, none⟩) 1 1) (fun u wk => BI w ⟨kind, by_, no, seen, at_, many, text⟩ u5 zs wk ∧ Lst wk u [(newCh ⟨kind, by_, no, seen, at_, many, text⟩ number k text[k])]) ⟨_, 0, rfl⟩ (fun _ _ h => h.1.at_) (fun wk hwk => ?_) (fun vb hvb => ?_)
      · go_simp
        exact ⟨⟨_, rfl⟩, hwk.after ((Below.refl _ _).alloc (Nat.le_refl _) _), lst_one wk (newCh ⟨kind, by_, no, seen, at_, many, text⟩ number k text[k])⟩
      obtain ⟨gb, rfl⟩ := hvb
      refine wpStage_spine rfl rfl (fun u => True) (fun u wk => BI w ⟨kind, by_, no, seen, at_, many, text⟩ u (zs ++ [(newCh ⟨kind, by_, no, seen, at_, many, text⟩ number k text[k])]) wk) ⟨.int .i64 0, trivial⟩ (fun _ _ h => h.at_) (fun wk hwk => ?_) (fun vr _ => ?_)
      · refine spine_append (v := u5) (u := .slice (some ⟨gb, 0, none⟩) 1 1) rfl rfl rfl hwk.1.own hwk.2 ?_ ?_ ?_
        · have := HZ.out; simp; omega
        · have := hwk.1.at_.lt; omega
        · intro v' w' ho hg
          exact ⟨trivial, hwk.1.grown hg ho⟩
      refine wpStage_still rfl (fun K hK => ?_)
      go_simp
      refine ⟨_, fun _ _ => rfl, hK _ ?_⟩
      clear hK K
      refine wpStage_nil (fun w9 hw9 => ?_)
      have H9 : Hid _ := hw9
      clear hw9
      go_wp2
      go_roundw
      case rel => exact ⟨k + 1, by omega, by go_num, by rw [HN.out]; exact H9⟩
      case measure => simp [intOf]; omega
    · obtain rfl : k = text.size := by omega
      have HE : Hid (text.data.toList.take text.size = text.data.toList) := List.take_length
      rw [HE.out] at HK
      go_wp2
      go_ret
      exact ⟨_, rfl, HK.out.own.mono (by omega), HK.out.below⟩

end Go.Proofs.YtfpemdbiplfkgacGreat
