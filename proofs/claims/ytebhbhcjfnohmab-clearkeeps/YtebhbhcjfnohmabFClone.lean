/-
  The contracts of slices.Clone, slices.Grow and slices.Concat at lists of bytes.
-/
import Derived.Test.YtebhbhcjfnohmabFMem
import Derived.Lib.SliceRun
import Derived.Laws.AppendOwnNone
namespace Go.Proofs.Ytebhbhcjfnohmab
open Go.RowKit

abbrev zeroCh : Value := .agg #[.int .u8 0, .int .i64 0, .int .i64 0, .int .i64 0, .int .i64 0, .int .i64 0, .int .i64 0]

theorem Try.infoChar : (Try.prog.info? 65).map (fun i => (i.zero, i.size, i.bytes)) = some (some zeroCh, 7, 56) := by kernel_rfl

/-- A list, as a source of cells: at an address, or nowhere. -/
theorem Lst.src {w : World} {v : Value} {l : List Ch} (h : Lst w v l) :
    (∃ cap, v = .slice none 0 cap ∧ l = []) ∨ ∃ ad cap, v = .slice (some ad) l.length cap ∧ l.length ≤ cap ∧ (∀ j u, (cells7 l)[j]? = some u → w.cell? (ad.add j) = some u) := by
  obtain ⟨a, len, cap, rfl, rfl, h2, h3⟩ := h
  cases a with
  | none =>
    rcases h3 with h3 | ⟨b, off, h3, _⟩
    · exact .inl ⟨cap, by rw [h3], List.length_eq_zero_iff.1 h3⟩
    · cases h3
  | some ad =>
    refine .inr ⟨ad, cap, rfl, h2, ?_⟩
    rcases h3 with h3 | ⟨b, off, h3, hr⟩
    · obtain rfl : l = [] := List.length_eq_zero_iff.1 h3
      intro j u hu
      simp [cells7] at hu
    · cases h3
      exact src_cells l off hr.at_

set_option maxRecDepth 20000 in
set_option maxHeartbeats 400000 in
theorem clone_lst {w : World} {v : Value} {l : List Ch} (h : Lst w v l) (hl : l.length ≤ 100000) :
    Calls Try.prog 57 #[v] w fun e w' => ∃ v', e = .returned v' ∧ Own w' w.heap.size v' l ∧ Below w.heap.size w w' := by
  obtain ⟨i0, hi, hz0, hz1, hz2⟩ := info_parts Try.infoChar
  have q22 : ∀ (w : World) (a : Option Addr) (n c n' c' : Nat), (binOp .eql 29 (.slice a n c) (.slice none n' c')).run Try.prog w = .ok (.bool a.isNone) w := fun w a n c n' c' => Lib.run_eql_slice_nil w _ _ a n c n' c' Try.underlying29
  rcases h.src with ⟨cap, rfl, rfl⟩ | ⟨ad, cap, rfl, hc, hs⟩
  · go_enter Try.func57, Try.ntmps57
    go_wp2
    go_ret
    exact ⟨_, rfl, own_nil _ _, Below.refl _ _⟩
  · have HS : Hid (∀ j u, (cells7 l)[j]? = some u → w.cell? (ad.add j) = some u) := hs
    have HL : Hid _ := cells7_len l
    have HO : Hid _ := cells7_one l
    clear hs h
    generalize hn : l.length = n at *
    go_enter Try.func57, Try.ntmps57
    go_wp2_with (at_builtin; refine wpList_append_own _ rfl (.tmp 5) (.tmp 6) 29 rfl w.heap.size 65 i0 zeroCh 7 56 Try.underlying29 hi hz0 hz1 hz2 rfl (by decide) _ _ _ rfl (World.ownsRow_made w #[] 0 (Nat.le_refl _) (Nat.zero_le _) rfl) ad n cap (cells7 l) rfl ?c0 ?c1 ?c2 ?c3 ?c4 ?c5 ?_)
    case c0 => rw [HL.out]
    case c1 =>
      intro j u hj
      exact Lib.cell?_alloc_some _ (HS.out j u hj)
    case c2 => exact HO.out
    case c3 => unfold maxLen; omega
    case c4 => omega
    case c5 => simp
    · intro v' w1 hown hgrow _
      have HW : Hid _ := hown
      have HB : Hid (Below w.heap.size w w1) := ((Below.refl _ w).alloc (Nat.le_refl _) _).grown hgrow (by simp) (by intro k hk; simp [Value.ownBlock] at hk; omega)
      clear hown hgrow
      go_wp2
      go_ret
      refine ⟨v', rfl, ?_, HB.out⟩
      have := HW.out
      unfold Own
      rw [hn]
      exact this

set_option maxRecDepth 20000 in
set_option maxHeartbeats 400000 in
/-- Grow of no list: memory of the call's own, of no length. -/
theorem grow_nil (n : Nat) (hn : n ≤ 100000) (w : World) :
    Calls Try.prog 103 #[.slice none 0 0, .int .i64 n] w fun e w' => ∃ v, e = .returned v ∧ Own w' w.heap.size v [] ∧ Below w.heap.size w w' := by
  by_cases h0 : n = 0
  · subst h0
    go_enter Try.func103, Try.ntmps103
    go_wp2
    go_ret
    exact ⟨_, rfl, own_nil _ _, Below.refl _ _⟩
  · have hp : 0 < n := by omega
    have e56 : Try.t65.bytes = 56 := rfl
    have hx : ¬ 281474976710656 < Builtin.nextslicecap n 0 * Try.t65.bytes := by rw [e56, nextslicecap_zero hp]; omega
    have hx7 : ¬ n * 7 = 0 := by omega
    have hx8 : (n : Int) * (Try.t65.bytes : Int) ≤ 281474976710656 := by rw [e56]; omega
    have hx9 : (n : Int) ≤ 9223372036854775807 := by omega
    go_enter Try.func103, Try.ntmps103
    go_wp2
    go_ret
    have g1 := grownCap_ge w n 0 65
    have g2 := grownCap_le_maxLen w n 0 65 (by unfold maxLen; omega)
    unfold grownCap at g1 g2
    refine ⟨_, rfl, ⟨rfl, .inr ⟨w.heap.size, _, _, rfl, Nat.le_refl _, heap_alloc_new w _, Nat.zero_le _, g2, ?_, by simp [cells7]⟩⟩, ((Below.refl _ _).alloc (Nat.le_refl _) _).drew⟩
    rw [Array.size_append, size_zeroCells, size_zeroCells]
    show n * 7 + _ * 7 = _ * 7
    rw [← Nat.add_mul]
    congr 1
    omega

theorem Lst.below' {w w' : World} {v : Value} {l : List Ch} (h : Lst w v l) (hb : Below w.heap.size w w') : Lst w' v l := h.below hb

/-- Three lists in memory, as the cells of a row of slices. -/
structure Three (w : World) (b : Nat) (va vb vc : Value) (a bl c : List Ch) : Prop where
  lt : b < w.heap.size
  c0 : w.cell? ⟨b, 0, none⟩ = some va
  c1 : w.cell? ⟨b, 1, none⟩ = some vb
  c2 : w.cell? ⟨b, 2, none⟩ = some vc
  la : Lst w va a
  lb : Lst w vb bl
  lc : Lst w vc c

theorem Three.below {w w' : World} {b : Nat} {va vb vc : Value} {a bl c : List Ch} (h : Three w b va vb vc a bl c) (hb : Below w.heap.size w w') : Three w' b va vb vc a bl c := by
  obtain ⟨hc, _⟩ := bcell hb
  exact ⟨by have := hb.size; have := h.lt; omega, by rw [hc _ _ h.lt]; exact h.c0, by rw [hc _ _ h.lt]; exact h.c1, by rw [hc _ _ h.lt]; exact h.c2, h.la.below hb, h.lb.below hb, h.lc.below hb⟩

theorem run_append_none (w : World) (base : Nat) (t ty e : TypeId) (i : TypeInfo) (size c : Nat) (ht : Try.prog.underlying t = some (.slice e)) (hi : Try.prog.info? e = some i)
    (v : Value) (n : Nat) (xs : List Value) (hown : w.ownsRow base e size v n xs) :
    (Builtin.append_ #[t, t] ty #[v, .slice none 0 c]).run Try.prog w = .ok v w := by
  rcases hown.2 with ⟨rfl, rfl⟩ | ⟨g, cap, cur, rfl, _, _, hnc, _⟩
  · simp [Builtin.append_, run_underlying ht, sizeOf, typeInfo, hi, Builtin.lenOf, Builtin.firstCells]
  · simp [Builtin.append_, run_underlying ht, sizeOf, typeInfo, hi, Builtin.lenOf, Builtin.firstCells, hnc, storeCells]

theorem grown_refl (w : World) (row : Option Nat) : w.grownBy w row := ⟨rfl, rfl, rfl, Nat.le_refl _, fun _ _ _ => rfl⟩

/-- append of a list to one that the call owns. -/
theorem append_lst {ops : Array Oper} {rest : List Oper} {o : Oper} {act : Act} {Q : Exit → Act → World → Prop} (w : World) (hgd : o.guard = none) (s x : Operand)
    (ho : o.op = .call { callee := .builtin .append, args := #[s, x], argTypes := #[29, 29] }) (base : Nat) {v u : Value} {a b : List Ch} (hs : act.eval s = v) (hx : act.eval x = u) (hv : Own w base v a) (hu : Lst w u b) (hl : a.length + b.length ≤ 100000) (hbase : base ≤ w.heap.size)
    (h : ∀ v' w', Own w' base v' (a ++ b) → w.grownBy w' v.ownBlock → wpList Try.prog ops Q rest (act.put o.dst v') w') : wpList Try.prog ops Q (o :: rest) act w := by
  obtain ⟨i0, hi, hz0, hz1, hz2⟩ := info_parts Try.infoChar
  rcases hu.src with ⟨cap, rfl, rfl⟩ | ⟨ad, cap, rfl, hc, hsrc⟩
  · refine wpList_plain hgd fun K hK => ?_
    have hrun := run_append_none w base 29 o.type 65 i0 7 cap Try.underlying29 hi v a.length (cells7 a) hv
    have hh := h v w (by rw [List.append_nil]; exact hv) (grown_refl w _)
    unfold Oper.wp
    simp [execOp, ho, resolve, invoke, builtin, hs, hx, hrun, Result.andThen]
    exact hK _ _ hh
  · refine wpList_append_own w hgd s x 29 ho base 65 i0 zeroCh 7 56 Try.underlying29 hi hz0 hz1 hz2 rfl (by decide) v a.length (cells7 a) hs hv ad b.length cap (cells7 b) hx (cells7_len b) hsrc (cells7_one b) (by unfold maxLen; omega) (by omega) hbase ?_
    intro v' w' ho hg _
    refine h v' w' ?_ hg
    unfold Own
    rw [List.length_append, cells7_app]
    exact ho


def sum3 (a b c : List Ch) : Nat → Nat
  | 0 => 0
  | 1 => a.length
  | 2 => a.length + b.length
  | _ => a.length + b.length + c.length

def cat3 (a b c : List Ch) : Nat → List Ch
  | 0 => []
  | 1 => a
  | 2 => a ++ b
  | _ => a ++ b ++ c

theorem Three.nth {w : World} {g : Nat} {va vb vc : Value} {a b c : List Ch} (h : Three w g va vb vc a b c) {k : Nat} (hk : k < 3) :
    ∃ v l, w.cell? ⟨g, k, none⟩ = some v ∧ Lst w v l ∧ sum3 a b c (k + 1) = sum3 a b c k + l.length ∧ cat3 a b c (k + 1) = cat3 a b c k ++ l := by
  rcases (show k = 0 ∨ k = 1 ∨ k = 2 by omega) with rfl | rfl | rfl
  · exact ⟨va, a, h.c0, h.la, by simp [sum3], by simp [cat3]⟩
  · exact ⟨vb, b, h.c1, h.lb, rfl, rfl⟩
  · exact ⟨vc, c, h.c2, h.lc, rfl, rfl⟩

theorem sum3_le (a b c : List Ch) (k : Nat) : sum3 a b c k ≤ a.length + b.length + c.length := by
  unfold sum3
  split <;> omega

theorem cat3_len (a b c : List Ch) (k : Nat) : (cat3 a b c k).length = sum3 a b c k := by
  unfold cat3 sum3
  split <;> simp [Nat.add_assoc]

set_option maxRecDepth 20000 in
set_option maxHeartbeats 800000 in
theorem concat_three (g : Nat) (va vb vc : Value) (a b c : List Ch) (w : World) (h : Three w g va vb vc a b c) (hl : a.length + b.length + c.length ≤ 100000) :
    Calls Try.prog 92 #[.slice (some ⟨g, 0, none⟩) 3 3] w fun e w' => ∃ v, e = .returned v ∧ Own w' w.heap.size v (a ++ b ++ c) ∧ Below w.heap.size w w' := by
  have HT : Hid _ := h
  have hg := h.lt
  have HS : Hid _ := sum3_le a b c
  have HC : Hid _ := cat3_len a b c
  clear h
  go_enter Try.func92, Try.ntmps92
  go_wp2
  go_loop [3, 11] (fun n i => ∃ k : Nat, k ≤ 3 ∧ i = .int .i64 k ∧ n = .int .i64 (sum3 a b c k)) (fun _ i => 3 - (intOf i).toNat)
  case atStart => exact ⟨0, by omega, rfl, rfl⟩
  case round =>
    obtain ⟨k, hk, rfl, rfl⟩ := hrel
    by_cases hlt : k < 3
    · obtain ⟨v, l, hv, hL, hs, _⟩ := HT.out.nth hlt
      have h1 := HS.out k
      have h2 := HS.out (k + 1)
      have HN : Hid _ := hs
      obtain ⟨ad, cap, rfl, _⟩ := hL.len
      generalize sum3 a b c k = n at *
      generalize l.length = m at *
      clear hL
      rw [hs] at h2
      clear hs
      go_wp2
      go_round
      case rel => exact ⟨k + 1, by omega, by go_num, by rw [HN.out]; go_num⟩
      case measure => simp [intOf]; omega
    · obtain rfl : k = 3 := by omega
      have h3 := HS.out 3
      generalize hn : sum3 a b c 3 = n at *
      go_wp2_with fail
      refine (grow_nil n (by omega) _).mono ?_
      rintro e w1 ⟨v0, rfl, hown, hb⟩
      have HO : Hid _ := hown
      have HB : Hid _ := hb
      clear hown hb
      go_wp2
      go_loopw [6, 27] (fun v i wr => ∃ k : Nat, k ≤ 3 ∧ i = .int .i64 k ∧ Hid (Own wr w.heap.size v (cat3 a b c k)) ∧ Hid (Below w.heap.size w wr)) (fun _ i _ => 3 - (intOf i).toNat)
      case atStart => exact ⟨0, by omega, rfl, HO, HB⟩
      case round =>
        obtain ⟨k, hk, rfl, HOk, HBk⟩ := hrel
        by_cases hlt : k < 3
        · obtain ⟨u, l, hu, hL, hs, hcat⟩ := (HT.out.below HBk.out).nth hlt
          have h1 := HS.out (k + 1)
          have hck := HC.out k
          have HN : Hid _ := hcat
          have HL : Hid _ := hL
          obtain ⟨ad, cap, rfl, _⟩ := hL.len
          clear hL hcat
          rw [hs] at h1
          go_wp2_with (at_builtin; refine append_lst _ rfl (.tmp 31) (.tmp 32) rfl w.heap.size rfl rfl HOk.out HL.out ?c0 ?c1 ?_)
          case c0 => rw [hck]; omega
          case c1 => exact HBk.out.size
          · intro v' w2 hown' hgrow
            have HO2 : Hid (Own w2 w.heap.size v' (cat3 a b c (k + 1))) := by show Own _ _ _ _; rw [HN.out]; exact hown'
            have HB2 : Hid (Below w.heap.size w w2) := HBk.out.grown hgrow HBk.out.size (fun j hj => (World.ownsRow.lt HOk.out j hj).1)
            clear hown' hgrow
            go_wp2
            go_roundw
            case rel => exact ⟨k + 1, by omega, by go_num, HO2, HB2⟩
            case measure => simp [intOf]; omega
        · obtain rfl : k = 3 := by omega
          go_wp2
          go_ret
          exact ⟨_, rfl, HOk.out, HBk.out⟩

end Go.Proofs.Ytebhbhcjfnohmab
