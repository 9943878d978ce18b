/-
  The contracts of slices.Clone, slices.Grow and slices.Concat at lists of bytes.
-/
import Derived.Test.YtfpemdbiplfkgacGreatFMem
import Derived.Lib.SliceRun
import Derived.Laws.AppendOwnNone
import Derived.Deep.Quiet
namespace Go.Proofs.YtfpemdbiplfkgacGreat
open Go.RowKit

abbrev zeroCh : Value := .agg #[.int .u8 0, .int .i64 0, .int .i64 0, .int .i64 0, .int .i64 0, .int .i64 0, .int .i64 0]

theorem Tryz.infoChar : (Tryz.prog.info? 71).map (fun i => (i.zero, i.size, i.bytes)) = some (some zeroCh, 7, 56) := by kernel_rfl

/-- A list, as a source of cells: at an address, or nowhere. -/
theorem Lst.src {w : World} {v : Value} {l : List Ch} (h : Lst w v l) :
    (∃ cap, v = .slice none 0 cap ∧ l = []) ∨ ∃ ad cap, v = .slice (some ad) l.length cap ∧ l.length ≤ cap ∧ (∀ j u, (cells7 l)[j]? = some u → w.cell? (ad.add j) = some u) := by
  obtain ⟨a, len, cap, rfl, rfl, h2, h3⟩ := h
  cases a with
  | none =>
    rcases h3 with h3 | ⟨b, off, h3, _⟩
    · exact .inl ⟨cap, by rw [h3], List.length_eq_zero_iff.1 h3⟩
    · cases h3
  | some ad =>
    refine .inr ⟨ad, cap, rfl, h2, ?_⟩
    rcases h3 with h3 | ⟨b, off, h3, hr⟩
    · obtain rfl : l = [] := List.length_eq_zero_iff.1 h3
      intro j u hu
      simp [cells7] at hu
    · cases h3
      exact src_cells l off hr.at_

set_option maxRecDepth 20000 in
set_option maxHeartbeats 400000 in
theorem clone_lst {w : World} {v : Value} {l : List Ch} (h : Lst w v l) (hl : l.length ≤ 100000) :
    Calls Tryz.prog 69 #[v] w fun e w' => ∃ v', e = .returned v' ∧ Own w' w.heap.size v' l ∧ Below w.heap.size w w' := by
  obtain ⟨i0, hi, hz0, hz1, hz2⟩ := info_parts Tryz.infoChar
  have q22 : ∀ (w : World) (a : Option Addr) (n c n' c' : Nat), (binOp .eql 44 (.slice a n c) (.slice none n' c')).run Tryz.prog w = .ok (.bool a.isNone) w := fun w a n c n' c' => Lib.run_eql_slice_nil w _ _ a n c n' c' Tryz.underlying44
  rcases h.src with ⟨cap, rfl, rfl⟩ | ⟨ad, cap, rfl, hc, hs⟩
  · go_enter Tryz.func69, Tryz.ntmps69
    go_wp2
    go_ret
    exact ⟨_, rfl, own_nil _ _, Below.refl _ _⟩
  · have HS : Hid (∀ j u, (cells7 l)[j]? = some u → w.cell? (ad.add j) = some u) := hs
    have HL : Hid _ := cells7_len l
    have HO : Hid _ := cells7_one l
    clear hs h
    generalize hn : l.length = n at *
    go_enter Tryz.func69, Tryz.ntmps69
    go_wp2_with (at_builtin; refine wpList_append_own _ rfl (.tmp 5) (.tmp 6) 44 rfl w.heap.size 71 i0 zeroCh 7 56 Tryz.underlying44 hi hz0 hz1 hz2 rfl (by decide) _ _ _ rfl (World.ownsRow_made w #[] 0 (Nat.le_refl _) (Nat.zero_le _) rfl) ad n cap (cells7 l) rfl ?c0 ?c1 ?c2 ?c3 ?c4 ?c5 ?_)
    case c0 => rw [HL.out]
    case c1 =>
      intro j u hj
      exact Lib.cell?_alloc_some _ (HS.out j u hj)
    case c2 => exact HO.out
    case c3 => unfold maxLen; omega
    case c4 => omega
    case c5 => simp
    · intro v' w1 hown hgrow _
      have HW : Hid _ := hown
      have HB : Hid (Below w.heap.size w w1) := ((Below.refl _ w).alloc (Nat.le_refl _) _).grown hgrow (by simp) (by intro k hk; simp [Value.ownBlock] at hk; omega)
      clear hown hgrow
      go_wp2
      go_ret
      refine ⟨v', rfl, ?_, HB.out⟩
      have := HW.out
      unfold Own
      rw [hn]
      exact this

set_option maxRecDepth 20000 in
set_option maxHeartbeats 400000 in
/-- Grow of no list: memory of the call's own, of no length. -/
theorem grow_nil (n : Nat) (hn : n ≤ 100000) (w : World) :
    Calls Tryz.prog 147 #[.slice none 0 0, .int .i64 n] w fun e w' => ∃ v, e = .returned v ∧ Own w' w.heap.size v [] ∧ Below w.heap.size w w' := by
  by_cases h0 : n = 0
  · subst h0
    go_enter Tryz.func147, Tryz.ntmps147
    go_wp2
    go_ret
    exact ⟨_, rfl, own_nil _ _, Below.refl _ _⟩
  · have hp : 0 < n := by omega
    have e56 : Tryz.t71.bytes = 56 := rfl
    have hx : ¬ 281474976710656 < Builtin.nextslicecap n 0 * Tryz.t71.bytes := by rw [e56, nextslicecap_zero hp]; omega
    have hx7 : ¬ n * 7 = 0 := by omega
    have hx8 : (n : Int) * (Tryz.t71.bytes : Int) ≤ 281474976710656 := by rw [e56]; omega
    have hx9 : (n : Int) ≤ 9223372036854775807 := by omega
    go_enter Tryz.func147, Tryz.ntmps147
    go_wp2
    go_ret
    have g1 := grownCap_ge w n 0 71
    have g2 := grownCap_le_maxLen w n 0 71 (by unfold maxLen; omega)
    unfold grownCap at g1 g2
    refine ⟨_, rfl, ⟨rfl, .inr ⟨w.heap.size, _, _, rfl, Nat.le_refl _, heap_alloc_new w _, Nat.zero_le _, g2, ?_, by simp [cells7]⟩⟩, ((Below.refl _ _).alloc (Nat.le_refl _) _).drew⟩
    rw [Array.size_append, size_zeroCells, size_zeroCells]
    show n * 7 + _ * 7 = _ * 7
    rw [← Nat.add_mul]
    congr 1
    omega

theorem Lst.below' {w w' : World} {v : Value} {l : List Ch} (h : Lst w v l) (hb : Below w.heap.size w w') : Lst w' v l := h.below hb

/-- Three lists in memory, as the cells of a row of slices. -/
structure Three (w : World) (b : Nat) (va vb vc : Value) (a bl c : List Ch) : Prop where
  lt : b < w.heap.size
  c0 : w.cell? ⟨b, 0, none⟩ = some va
  c1 : w.cell? ⟨b, 1, none⟩ = some vb
  c2 : w.cell? ⟨b, 2, none⟩ = some vc
  la : Lst w va a
  lb : Lst w vb bl
  lc : Lst w vc c

theorem Three.below {w w' : World} {b : Nat} {va vb vc : Value} {a bl c : List Ch} (h : Three w b va vb vc a bl c) (hb : Below w.heap.size w w') : Three w' b va vb vc a bl c := by
  obtain ⟨hc, _⟩ := bcell hb
  exact ⟨by have := hb.size; have := h.lt; omega, by rw [hc _ _ h.lt]; exact h.c0, by rw [hc _ _ h.lt]; exact h.c1, by rw [hc _ _ h.lt]; exact h.c2, h.la.below hb, h.lb.below hb, h.lc.below hb⟩

theorem run_append_none (w : World) (base : Nat) (t ty e : TypeId) (i : TypeInfo) (size c : Nat) (ht : Tryz.prog.underlying t = some (.slice e)) (hi : Tryz.prog.info? e = some i)
    (v : Value) (n : Nat) (xs : List Value) (hown : w.ownsRow base e size v n xs) :
    (Builtin.append_ #[t, t] ty #[v, .slice none 0 c]).run Tryz.prog w = .ok v w := by
  rcases hown.2 with ⟨rfl, rfl⟩ | ⟨g, cap, cur, rfl, _, _, hnc, _⟩
  · simp [Builtin.append_, run_underlying ht, sizeOf, typeInfo, hi, Builtin.lenOf, Builtin.firstCells]
  · simp [Builtin.append_, run_underlying ht, sizeOf, typeInfo, hi, Builtin.lenOf, Builtin.firstCells, hnc, storeCells]

theorem grown_refl (w : World) (row : Option Nat) : w.grownBy w row := ⟨rfl, rfl, rfl, Nat.le_refl _, fun _ _ _ => rfl⟩

/-- append of a list to one that the call owns. -/
theorem append_lst {ops : Array Oper} {rest : List Oper} {o : Oper} {act : Act} {Q : Exit → Act → World → Prop} (w : World) (hgd : o.guard = none) (s x : Operand)
    (ho : o.op = .call { callee := .builtin .append, args := #[s, x], argTypes := #[44, 44] }) (base : Nat) {v u : Value} {a b : List Ch} (hs : act.eval s = v) (hx : act.eval x = u) (hv : Own w base v a) (hu : Lst w u b) (hl : a.length + b.length ≤ 100000) (hbase : base ≤ w.heap.size)
    (h : ∀ v' w', Own w' base v' (a ++ b) → w.grownBy w' v.ownBlock → wpList Tryz.prog ops Q rest (act.put o.dst v') w') : wpList Tryz.prog ops Q (o :: rest) act w := by
  obtain ⟨i0, hi, hz0, hz1, hz2⟩ := info_parts Tryz.infoChar
  rcases hu.src with ⟨cap, rfl, rfl⟩ | ⟨ad, cap, rfl, hc, hsrc⟩
  · refine wpList_plain hgd fun K hK => ?_
    have hrun := run_append_none w base 44 o.type 71 i0 7 cap Tryz.underlying44 hi v a.length (cells7 a) hv
    have hh := h v w (by rw [List.append_nil]; exact hv) (grown_refl w _)
    unfold Oper.wp
    simp [execOp, ho, resolve, invoke, builtin, hs, hx, hrun, Result.andThen]
    exact hK _ _ hh
  · refine wpList_append_own w hgd s x 44 ho base 71 i0 zeroCh 7 56 Tryz.underlying44 hi hz0 hz1 hz2 rfl (by decide) v a.length (cells7 a) hs hv ad b.length cap (cells7 b) hx (cells7_len b) hsrc (cells7_one b) (by unfold maxLen; omega) (by omega) hbase ?_
    intro v' w' ho hg _
    refine h v' w' ?_ hg
    unfold Own
    rw [List.length_append, cells7_app]
    exact ho


def sum3 (a b c : List Ch) : Nat → Nat
  | 0 => 0
  | 1 => a.length
  | 2 => a.length + b.length
  | _ => a.length + b.length + c.length

def cat3 (a b c : List Ch) : Nat → List Ch
  | 0 => []
  | 1 => a
  | 2 => a ++ b
  | _ => a ++ b ++ c

theorem Three.nth {w : World} {g : Nat} {va vb vc : Value} {a b c : List Ch} (h : Three w g va vb vc a b c) {k : Nat} (hk : k < 3) :
    ∃ v l, w.cell? ⟨g, k, none⟩ = some v ∧ Lst w v l ∧ sum3 a b c (k + 1) = sum3 a b c k + l.length ∧ cat3 a b c (k + 1) = cat3 a b c k ++ l := by
  rcases (show k = 0 ∨ k = 1 ∨ k = 2 by omega) with rfl | rfl | rfl
  · exact ⟨va, a, h.c0, h.la, by simp [sum3], by simp [cat3]⟩
  · exact ⟨vb, b, h.c1, h.lb, rfl, rfl⟩
  · exact ⟨vc, c, h.c2, h.lc, rfl, rfl⟩

theorem sum3_le (a b c : List Ch) (k : Nat) : sum3 a b c k ≤ a.length + b.length + c.length := by
  unfold sum3
  split <;> omega

theorem cat3_len (a b c : List Ch) (k : Nat) : (cat3 a b c k).length = sum3 a b c k := by
  unfold cat3 sum3
  split <;> simp [Nat.add_assoc]

set_option maxRecDepth 20000 in
set_option maxHeartbeats 800000 in
theorem concat_three (g : Nat) (va vb vc : Value) (a b c : List Ch) (w : World) (h : Three w g va vb vc a b c) (hl : a.length + b.length + c.length ≤ 100000) :
    Calls Tryz.prog 117 #[.slice (some ⟨g, 0, none⟩) 3 3] w fun e w' => ∃ v, e = .returned v ∧ Own w' w.heap.size v (a ++ b ++ c) ∧ Below w.heap.size w w' := by
  have HT : Hid _ := h
  have hg := h.lt
  have HS : Hid _ := sum3_le a b c
  have HC : Hid _ := cat3_len a b c
  clear h
  go_enter Tryz.func117, Tryz.ntmps117
  go_wp2
  go_loop [3, 11] (fun n i => ∃ k : Nat, k ≤ 3 ∧ i = .int .i64 k ∧ n = .int .i64 (sum3 a b c k)) (fun _ i => 3 - (intOf i).toNat)
  case atStart => exact ⟨0, by omega, rfl, rfl⟩
  case round =>
    obtain ⟨k, hk, rfl, rfl⟩ := hrel
    by_cases hlt : k < 3
    · obtain ⟨v, l, hv, hL, hs, _⟩ := HT.out.nth hlt
      have h1 := HS.out k
      have h2 := HS.out (k + 1)
      have HN : Hid _ := hs
      obtain ⟨ad, cap, rfl, _⟩ := hL.len
      generalize sum3 a b c k = n at *
      generalize l.length = m at *
      clear hL
      rw [hs] at h2
      clear hs
      go_wp2
      go_round
      case rel => exact ⟨k + 1, by omega, by go_num, by rw [HN.out]; go_num⟩
      case measure => simp [intOf]; omega
    · obtain rfl : k = 3 := by omega
      have h3 := HS.out 3
      generalize hn : sum3 a b c 3 = n at *
      go_wp2_with fail
      refine (grow_nil n (by omega) _).mono ?_
      rintro e w1 ⟨v0, rfl, hown, hb⟩
      have HO : Hid _ := hown
      have HB : Hid _ := hb
      clear hown hb
      go_wp2
      go_loopw [6, 27] (fun v i wr => ∃ k : Nat, k ≤ 3 ∧ i = .int .i64 k ∧ Hid (Own wr w.heap.size v (cat3 a b c k)) ∧ Hid (Below w.heap.size w wr)) (fun _ i _ => 3 - (intOf i).toNat)
      case atStart => exact ⟨0, by omega, rfl, HO, HB⟩
      case round =>
        obtain ⟨k, hk, rfl, HOk, HBk⟩ := hrel
        by_cases hlt : k < 3
        · obtain ⟨u, l, hu, hL, hs, hcat⟩ := (HT.out.below HBk.out).nth hlt
          have h1 := HS.out (k + 1)
          have hck := HC.out k
          have HN : Hid _ := hcat
          have HL : Hid _ := hL
          obtain ⟨ad, cap, rfl, _⟩ := hL.len
          clear hL hcat
          rw [hs] at h1
          go_wp2_with (at_builtin; refine append_lst _ rfl (.tmp 31) (.tmp 32) rfl w.heap.size rfl rfl HOk.out HL.out ?c0 ?c1 ?_)
          case c0 => rw [hck]; omega
          case c1 => exact HBk.out.size
          · intro v' w2 hown' hgrow
            have HO2 : Hid (Own w2 w.heap.size v' (cat3 a b c (k + 1))) := by show Own _ _ _ _; rw [HN.out]; exact hown'
            have HB2 : Hid (Below w.heap.size w w2) := HBk.out.grown hgrow HBk.out.size (fun j hj => (World.ownsRow.lt HOk.out j hj).1)
            clear hown' hgrow
            go_wp2
            go_roundw
            case rel => exact ⟨k + 1, by omega, by go_num, HO2, HB2⟩
            case measure => simp [intOf]; omega
        · obtain rfl : k = 3 := by omega
          go_wp2
          go_ret
          exact ⟨_, rfl, HOk.out, HBk.out⟩

end Go.Proofs.YtfpemdbiplfkgacGreat

/-
  A region that draws its order, most of whose operations leave the world alone, and a few of which (the SPINE) make or write memory, each waiting for the one ahead of it: one walk in the order of the text serves every order. No walk of the program.
-/
namespace Go.Proofs.YtfpemdbiplfkgacGreat
open Go

section
variable {P : Program} {ops : Array Oper} {md : Region.Mode} {U : World → Prop} {sp : Nat → Bool}

/-- What is asked of an operation of the spine: it yields some value, in a world, of which D' holds. -/
def spineUpon (P : Program) (D' : Value → World → Prop) : Result Next → Prop
  | .ok (.value u) w' => D' u w'
  | .ok .skip w' => D' undef w'
  | .ok (.enter f args) w' => Calls P f args w' (fun e w'' => ∃ v, e = .returned v ∧ D' v w'')
  | _ => False

/-- An operation that leaves the world alone: one value, in every world of the class. -/
def stillIn (P : Program) (U : World → Prop) (o : Oper) (a : Act) (v : Value) : Prop := ∀ w, U w → (execOp a.eval o).run P w = .ok (.value v) w

/-- An operation of the spine, from the class D on. -/
def spineIn (P : Program) (U : World → Prop) (o : Oper) (a : Act) (D : World → Prop) (p : Value → Prop) (D' : Value → World → Prop) : Prop :=
  (∃ v, p v) ∧ (∀ v w, D' v w → U w) ∧ ∀ w, D w → spineUpon P (fun v w' => p v ∧ D' v w') ((execOp a.eval o).run P w)

/-- One operation that is wanted, in the state a and the class D. -/
def stageStep (P : Program) (U : World → Prop) (s : Bool) (o : Oper) (a : Act) (D : World → Prop) (K : Act → (World → Prop) → Prop) : Prop :=
  if s = true then ∃ p D', spineIn P U o a D p D' ∧ ∀ v, p v → K (a.put o.dst v) (D' v)
  else ∃ v, stillIn P U o a v ∧ K (a.put o.dst v) D

/-- THE WALK IN THE ORDER OF THE TEXT. -/
def wpStage (P : Program) (ops : Array Oper) (U : World → Prop) (sp : Nat → Bool) (Q : Act → World → Prop) : List Oper → Nat → Act → (World → Prop) → Prop
  | [], _, a, D => ∀ w, D w → Q a w
  | o :: rest, k, a, D => if Region.wanted o (yielded ops a.tmps) = true then stageStep P U (sp k) o a D (wpStage P ops U sp Q rest (k + 1)) else wpStage P ops U sp Q rest (k + 1) (a.put o.dst undef) D

def stageOp (P : Program) (ops : Array Oper) (U : World → Prop) (sp : Nat → Bool) (i : Nat) (K : Act → (World → Prop) → Prop) (a : Act) (D : World → Prop) : Prop :=
  match ops[i]? with
  | none => K a D
  | some o => if Region.wanted o (yielded ops a.tmps) = true then stageStep P U (sp i) o a D K else K (a.put o.dst undef) D

theorem stageStep_mono {s : Bool} {o : Oper} {a : Act} {D : World → Prop} {K K' : Act → (World → Prop) → Prop} (h : ∀ a D, K a D → K' a D) (hh : stageStep P U s o a D K) : stageStep P U s o a D K' := by
  unfold stageStep at *
  cases s
  · obtain ⟨v, h1, h2⟩ := hh
    exact ⟨v, h1, h _ _ h2⟩
  · obtain ⟨p, D', h1, h2⟩ := hh
    exact ⟨p, D', h1, fun v hv => h _ _ (h2 v hv)⟩

theorem stageOp_mono {i : Nat} {a : Act} {D : World → Prop} {K K' : Act → (World → Prop) → Prop} (h : ∀ a D, K a D → K' a D) (hh : stageOp P ops U sp i K a D) : stageOp P ops U sp i K' a D := by
  unfold stageOp at *
  cases ho : ops[i]? with
  | none => rw [ho] at hh; exact h _ _ hh
  | some o =>
    rw [ho] at hh
    show if _ then _ else _
    have hh' : if Region.wanted o (yielded ops a.tmps) = true then stageStep P U (sp i) o a D K else K (a.put o.dst undef) D := hh
    by_cases hw : Region.wanted o (yielded ops a.tmps) = true
    · rw [if_pos hw] at hh' ⊢; exact stageStep_mono h hh'
    · rw [if_neg hw] at hh' ⊢; exact h _ _ hh'

/-- Whatever order is picked from here on. -/
def wpAnyS (P : Program) (md : Region.Mode) (ops : Array Oper) (U : World → Prop) (sp : Nat → Bool) (Q : Act → World → Prop) : Nat → Array Bool → Act → (World → Prop) → Prop
  | 0, listed, a, D => Region.ready md ops listed = [] ∧ ∀ w, D w → Q a w
  | fuel + 1, listed, a, D =>
    (Region.ready md ops listed = [] → ∀ w, D w → Q a w) ∧
    ∀ i ∈ Region.ready md ops listed, stageOp P ops U sp i (wpAnyS P md ops U sp Q fuel (listed.setIfInBounds i true)) a D

theorem wp_of_step {s : Bool} {o : Oper} {a : Act} {D : World → Prop} {K : Act → (World → Prop) → Prop} {K' : Act → World → Prop} {Q' : Exit → Act → World → Prop} {w : World} (hDU : ∀ w, D w → U w) (hw : D w)
    (h : ∀ a (D' : World → Prop) w', (∀ w, D' w → U w) → D' w' → K a D' → K' a w') (hh : stageStep P U s o a D K) : o.wp P a w K' Q' := by
  unfold stageStep at hh
  unfold Oper.wp
  cases s
  · obtain ⟨v, h1, h2⟩ := hh
    rw [h1 w (hDU w hw)]
    exact h _ D _ hDU hw h2
  · obtain ⟨p, D', ⟨_, hU, h1⟩, h2⟩ := hh
    have h3 := h1 w hw
    generalize (execOp a.eval o).run P w = r at *
    cases r with
    | ok n w' =>
      cases n <;> simp only [spineUpon] at h3 <;> simp only [Oper.upon]
      case value u => exact h _ (D' u) _ (hU u) h3.2 (h2 u h3.1)
      case skip => exact h _ (D' undef) _ (hU undef) h3.2 (h2 undef h3.1)
      case enter f args =>
        exact h3.mono fun e w'' ⟨v, he, hp, hd⟩ => by subst he; exact h _ (D' v) _ (hU v) hd (h2 v hp)
    | halt x w' => simp only [spineUpon] at h3

theorem wpAny_of_stage {Q : Act → World → Prop} {Q' : Exit → Act → World → Prop} (hQ : ∀ a w, Q a w → Q' .normal a w) : ∀ (fuel : Nat) (listed : Array Bool) (a : Act) (D : World → Prop) (w : World), (∀ w, D w → U w) → D w →
    wpAnyS P md ops U sp Q fuel listed a D → wpAny P md ops Q' fuel listed a w
  | 0, _, _, _, _, _, hw, h => ⟨h.1, hQ _ _ (h.2 _ hw)⟩
  | fuel + 1, listed, a, D, w, hU, hw, h => ⟨fun h0 => hQ _ _ (h.1 h0 _ hw), fun i hi => by
      have h1 := h.2 i hi
      unfold stageOp at h1
      unfold wpOp
      cases ho : ops[i]? with
      | none => rw [ho] at h1; exact wpAny_of_stage hQ fuel _ _ D _ hU hw h1
      | some o =>
        rw [ho] at h1
        have h2 : if Region.wanted o (yielded ops a.tmps) = true then stageStep P U (sp i) o a D (wpAnyS P md ops U sp Q fuel (listed.setIfInBounds i true)) else wpAnyS P md ops U sp Q fuel (listed.setIfInBounds i true) (a.put o.dst undef) D := h1
        show if _ then _ else _
        by_cases hwt : Region.wanted o (yielded ops a.tmps) = true
        · rw [if_pos hwt] at h2 ⊢
          exact .inl (wp_of_step hU hw (fun a' D' w' hU' hd hk => wpAny_of_stage hQ fuel _ a' D' w' hU' hd hk) h2)
        · rw [if_neg hwt] at h2 ⊢
          exact wpAny_of_stage hQ fuel _ _ D _ hU hw h2⟩

/-- In the state a the operation leaves v, in every world of the class. -/
def LeavesV (P : Program) (ops : Array Oper) (U : World → Prop) (s : Bool) (o : Oper) (v : Value) (a : Act) : Prop :=
  (s = false ∧ Region.wanted o (yielded ops a.tmps) = true ∧ stillIn P U o a v) ∨ (Region.wanted o (yielded ops a.tmps) = false ∧ v = undef)

theorem LeavesV.put {s : Bool} {o : Oper} {v : Value} {a : Act} {dst : Option Tmp} {u : Value} (hs : ∀ cs b, o.op ≠ .select cs b) (h3 : ∀ d, dst = some d → d ∉ o.looksAt ops) (h : LeavesV P ops U s o v a) : LeavesV P ops U s o v (a.put dst u) := by
  unfold LeavesV stillIn at *
  rw [execOp_put o hs a dst u h3, wanted_put o a dst u h3]
  exact h

/-- An operation that leaves the world alone may be taken ahead of whatever is apart from it. -/
theorem stageOp_put {s : Bool} {j : Nat} {oi oj : Oper} {v : Value} (hj : ops[j]? = some oj) (hap : oi.apart ops oj = true)
    (hsi : ∀ cs b, oi.op ≠ .select cs b) (hsj : ∀ cs b, oj.op ≠ .select cs b) {K : Act → (World → Prop) → Prop} {a : Act} {D : World → Prop}
    (hy : LeavesV P ops U s oi v a) (h : stageOp P ops U sp j K (a.put oi.dst v) D) :
    stageOp P ops U sp j (fun a' D' => LeavesV P ops U s oi v a' ∧ K (a'.put oi.dst v) D') a D := by
  obtain ⟨h1, h2, h3⟩ := Oper.apart_spec hap
  unfold stageOp at *
  simp only [hj] at *
  rw [wanted_put oj a oi.dst v h1] at h
  by_cases hw : Region.wanted oj (yielded ops a.tmps) = true
  · rw [if_pos hw] at h ⊢
    unfold stageStep stillIn spineIn at *
    rw [execOp_put oj hsj a oi.dst v h1] at h
    cases hs : sp j
    · rw [hs] at h
      obtain ⟨u, hu, hn⟩ := h
      exact ⟨u, hu, hy.put hsi h3, by rw [← Act.put_comm a v u h2]; exact hn⟩
    · rw [hs] at h
      obtain ⟨p, D', hu, hn⟩ := h
      exact ⟨p, D', hu, fun u hp => ⟨hy.put hsi h3, by rw [← Act.put_comm a v u h2]; exact hn u hp⟩⟩
  · rw [if_neg hw] at h ⊢
    exact ⟨hy.put hsi h3, by rw [← Act.put_comm a v undef h2]; exact h⟩

theorem not_after {i : Nat} {oj : Oper} {listed : Array Bool} (hr : i ∈ Region.ready md ops listed) (hall : ∀ e ∈ oj.after, Region.binds md e = true → listed.getD e.on false = true) :
    ∀ e ∈ oj.after, Region.binds md e = true → e.on ≠ i := fun e he hb heq => by
  have h1 := hall e he hb
  have h0 := (mem_ready.1 hr).1
  rw [heq] at h1
  rcases Nat.lt_or_ge i listed.size with h' | h'
  · simp [h'] at h0 h1; rw [h0] at h1; cases h1
  · simp [Array.getElem?_eq_none h'] at h1

/-- What is apart from i, of all that have not come up and do not wait for it. -/
abbrev FreeOf (md : Region.Mode) (ops : Array Oper) (oi : Oper) (i : Nat) (listed : Array Bool) : Prop :=
  ∀ j oj, ops[j]? = some oj → j ≠ i → listed.getD j true = false → (∀ e ∈ oj.after, Region.binds md e = true → e.on ≠ i) → oi.apart ops oj = true

theorem FreeOf.later {oi : Oper} {i j : Nat} {listed : Array Bool} (h : FreeOf md ops oi i listed) (hjun : listed.getD j true = false) : FreeOf md ops oi i (listed.setIfInBounds j true) := by
  intro k ok hk hki hun hno
  refine h k ok hk hki ?_ hno
  by_cases hjk : j = k
  · subst hjk; exact hjun
  · rw [getD_set_ne true hjk] at hun; exact hun

theorem first_still {s : Bool} {Q : Act → World → Prop} {i : Nat} {oi : Oper} {v : Value} (hi : ops[i]? = some oi) (hsel : ∀ (j : Nat) (o : Oper) cs b, ops[j]? = some o → o.op ≠ .select cs b)
    (hown : ∀ {K : Act → (World → Prop) → Prop} {a : Act} {D : World → Prop}, LeavesV P ops U s oi v a → K (a.put oi.dst v) D → stageOp P ops U sp i K a D) :
    ∀ (fuel : Nat) (listed : Array Bool) (a : Act) (D : World → Prop), FreeOf md ops oi i listed → i ∈ Region.ready md ops listed → LeavesV P ops U s oi v a →
      wpAnyS P md ops U sp Q fuel (listed.setIfInBounds i true) (a.put oi.dst v) D → wpAnyS P md ops U sp Q (fuel + 1) listed a D := by
  intro fuel
  induction fuel with
  | zero =>
    intro listed a D _ hr hy H
    refine ⟨fun h => (by rw [h] at hr; cases hr), fun j hj => ?_⟩
    by_cases hji : j = i
    · subst hji; exact hown hy H
    · have := ready_mono hj hji
      rw [H.1] at this
      cases this
  | succ fuel ih =>
    intro listed a D hfree hr hy H
    refine ⟨fun h => (by rw [h] at hr; cases hr), fun j hj => ?_⟩
    by_cases hji : j = i
    · subst hji; exact hown hy H
    · have h1 := H.2 j (ready_mono hj hji)
      obtain ⟨hjun, oj, hoj, hall⟩ := mem_ready.1 hj
      have h2 := stageOp_put hoj (hfree j oj hoj hji hjun (not_after hr hall)) (fun cs b => hsel i oi cs b hi) (fun cs b => hsel j oj cs b hoj) hy h1
      refine stageOp_mono (fun a' D' h3 => ih (listed.setIfInBounds j true) a' D' (hfree.later hjun) (ready_mono hr (Ne.symm hji)) h3.1 ?_) h2
      rw [Array.setIfInBounds_comm _ _ hji]
      exact h3.2

/-- While i has not come up, of the spine nothing else may come up. -/
def Alone (md : Region.Mode) (ops : Array Oper) (sp : Nat → Bool) (i : Nat) (listed : Array Bool) : Prop :=
  ∀ j oj, sp j = true → j ≠ i → ops[j]? = some oj → listed.getD j true = false → ∃ e ∈ oj.after, Region.binds md e = true ∧ sp e.on = true ∧ listed.getD e.on false = false

theorem Alone.not_ready {i j : Nat} {listed : Array Bool} (h : Alone md ops sp i listed) (hj : j ∈ Region.ready md ops listed) (hji : j ≠ i) : sp j = false := by
  obtain ⟨hun, oj, hoj, hall⟩ := mem_ready.1 hj
  cases hs : sp j
  · rfl
  · obtain ⟨e, he, hb, _, hl⟩ := h j oj hs hji hoj hun
    rw [hall e he hb] at hl
    cases hl

theorem Alone.later {i j : Nat} {listed : Array Bool} (h : Alone md ops sp i listed) (hs : sp j = false) : Alone md ops sp i (listed.setIfInBounds j true) := by
  intro k ok hk hki hok hun
  have hjk : j ≠ k := fun e => by rw [e, hk] at hs; cases hs
  rw [getD_set_ne true hjk] at hun
  obtain ⟨e, he, hb, hse, hl⟩ := h k ok hk hki hok hun
  have hje : j ≠ e.on := fun e' => by rw [e', hse] at hs; cases hs
  exact ⟨e, he, hb, hse, by rw [getD_set_ne false hje]; exact hl⟩

theorem first_spine {Q : Act → World → Prop} {i : Nat} {oi : Oper} {p : Value → Prop} {D' : Value → World → Prop} {w0 : World} (hw0 : U w0) (hi : ops[i]? = some oi) (hsi : sp i = true) (hsel : ∀ (j : Nat) (o : Oper) cs b, ops[j]? = some o → o.op ≠ .select cs b) :
    ∀ (fuel : Nat) (listed : Array Bool) (a : Act) (D : World → Prop), FreeOf md ops oi i listed → Alone md ops sp i listed → i ∈ Region.ready md ops listed → Region.wanted oi (yielded ops a.tmps) = true → spineIn P U oi a D p D' →
      (∀ v, p v → wpAnyS P md ops U sp Q fuel (listed.setIfInBounds i true) (a.put oi.dst v) (D' v)) → wpAnyS P md ops U sp Q (fuel + 1) listed a D := by
  intro fuel
  induction fuel with
  | zero =>
    intro listed a D _ _ hr hw hy H
    refine ⟨fun h => (by rw [h] at hr; cases hr), fun j hj => ?_⟩
    by_cases hji : j = i
    · subst hji
      unfold stageOp
      simp only [hi, if_pos hw]
      unfold stageStep
      rw [if_pos hsi]
      exact ⟨p, D', hy, H⟩
    · obtain ⟨v0, hv0⟩ := hy.1
      have := ready_mono hj hji
      rw [(H v0 hv0).1] at this
      cases this
  | succ fuel ih =>
    intro listed a D hfree hal hr hw hy H
    refine ⟨fun h => (by rw [h] at hr; cases hr), fun j hj => ?_⟩
    by_cases hji : j = i
    · subst hji
      unfold stageOp
      simp only [hi, if_pos hw]
      unfold stageStep
      rw [if_pos hsi]
      exact ⟨p, D', hy, H⟩
    · obtain ⟨hjun, oj, hoj, hall⟩ := mem_ready.1 hj
      have hsj := hal.not_ready hj hji
      have hap := hfree j oj hoj hji hjun (not_after hr hall)
      obtain ⟨h1, h2, h3⟩ := Oper.apart_spec hap
      have seli := fun cs b => hsel i oi cs b hi
      have selj := fun cs b => hsel j oj cs b hoj
      have hw' : ∀ u, Region.wanted oi (yielded ops (a.put oj.dst u).tmps) = true := fun u => by rw [wanted_put oi a oj.dst u h3]; exact hw
      have hy' : ∀ u, spineIn P U oi (a.put oj.dst u) D p D' := fun u => by unfold spineIn at *; rw [execOp_put oi seli a oj.dst u h3]; exact hy
      have hop : ∀ v, p v → stageOp P ops U sp j (wpAnyS P md ops U sp Q fuel ((listed.setIfInBounds i true).setIfInBounds j true)) (a.put oi.dst v) (D' v) := fun v hv => (H v hv).2 j (ready_mono hj hji)
      unfold stageOp at hop ⊢
      simp only [hoj] at hop ⊢
      by_cases hwj : Region.wanted oj (yielded ops a.tmps) = true
      · rw [if_pos hwj]
        unfold stageStep
        rw [if_neg (by simp [hsj])]
        have hst : ∀ v, p v → ∃ u, stillIn P U oj a u ∧ wpAnyS P md ops U sp Q fuel ((listed.setIfInBounds i true).setIfInBounds j true) ((a.put oi.dst v).put oj.dst u) (D' v) := fun v hv => by
          have h4 := hop v hv
          rw [wanted_put oj a oi.dst v h1, if_pos hwj] at h4
          unfold stageStep at h4
          rw [if_neg (by simp [hsj])] at h4
          obtain ⟨u, hu, hk⟩ := h4
          refine ⟨u, ?_, hk⟩
          unfold stillIn at hu ⊢
          rw [execOp_put oj selj a oi.dst v h1] at hu
          exact hu
        obtain ⟨v0, hv0⟩ := hy.1
        obtain ⟨u, hu, _⟩ := hst v0 hv0
        refine ⟨u, hu, ih (listed.setIfInBounds j true) _ D (hfree.later hjun) (hal.later hsj) (ready_mono hr (Ne.symm hji)) (hw' u) (hy' u) (fun v hv => ?_)⟩
        obtain ⟨u', hu', hk⟩ := hst v hv
        have e : u' = u := by
          have e1 := hu' w0 hw0
          rw [hu w0 hw0] at e1
          simp at e1
          exact e1.symm
        subst e
        rw [← Act.put_comm a v u' h2, Array.setIfInBounds_comm _ _ hji]
        exact hk
      · rw [if_neg hwj]
        refine ih (listed.setIfInBounds j true) _ D (hfree.later hjun) (hal.later hsj) (ready_mono hr (Ne.symm hji)) (hw' undef) (hy' undef) (fun v hv => ?_)
        have h4 := hop v hv
        rw [wanted_put oj a oi.dst v h1, if_neg hwj] at h4
        rw [← Act.put_comm a v undef h2, Array.setIfInBounds_comm _ _ hji]
        exact h4

/-- Of the spine each but the first waits for one of it that stands ahead. -/
def chainB (md : Region.Mode) (ops : Array Oper) (sp : Nat → Bool) : Bool :=
  (List.range ops.size).all fun j => !sp j || (List.range j).all (fun i => !sp i) ||
    match ops[j]? with
    | some oj => oj.after.any fun e => Region.binds md e && sp e.on && decide (e.on < j) && (List.range ops.size).all fun i => !sp i || decide (i ≤ e.on) || decide (j ≤ i)
    | none => true

theorem chain_spec (h : chainB md ops sp = true) {i : Nat} {listed : Array Bool} (hi : sp i = true) (hlow : ∀ j, j < i → listed.getD j false = true) (hhigh' : ∀ j, i ≤ j → j < ops.size → listed.getD j false = false) : Alone md ops sp i listed := by
  intro j oj hs hji hoj hun
  have hjs : j < ops.size := (Array.getElem?_eq_some_iff.1 hoj).1
  unfold chainB at h
  rw [List.all_eq_true] at h
  have h1 := h j (List.mem_range.2 hjs)
  simp only [hs, hoj, Bool.not_true, Bool.false_or, Bool.or_eq_true, List.all_eq_true, List.mem_range, Bool.not_eq_true'] at h1
  by_cases hlt : j < i
  · have h2 := hlow j hlt
    rcases Nat.lt_or_ge j listed.size with h' | h'
    · simp [h'] at h2 hun; rw [h2] at hun; cases hun
    · simp [Array.getElem?_eq_none h'] at h2
  · have hij : i < j := by omega
    rcases h1 with h1 | h1
    · have := h1 i hij
      rw [hi] at this; cases this
    · obtain ⟨e, he, hb⟩ := Array.any_eq_true'.1 h1
      simp only [Bool.and_eq_true, decide_eq_true_eq, List.all_eq_true, List.mem_range, Bool.or_eq_true, Bool.not_eq_true'] at hb
      obtain ⟨⟨⟨hb1, hb2⟩, hb3⟩, hb4⟩ := hb
      have hie : i ≤ e.on := by
        rcases hb4 i (by omega) with (h5 | h5) | h5
        · rw [hi] at h5; cases h5
        · exact h5
        · omega
      exact ⟨e, he, hb1, hb2, hhigh' e.on hie (by omega)⟩

/-- Which have come up: those below k. -/
def upto (n k : Nat) : Array Bool := (List.range n).map (fun j => decide (j < k)) |>.toArray

theorem upto_lt {n k j : Nat} (h : j < n) (d : Bool) : (upto n k).getD j d = decide (j < k) := by
  simp [upto, h]

theorem upto_succ {n k : Nat} : (upto n k).setIfInBounds k true = upto n (k + 1) := by
  apply Array.ext
  · simp [upto]
  · intro j h1 h2
    have h3 : j < n := by simpa [upto] using h2
    rw [Array.getElem_setIfInBounds (by simpa [upto] using h3)]
    by_cases hj : k = j
    · simp [hj, upto]
    · rw [if_neg hj]
      simp [upto]
      omega

theorem upto_zero {n : Nat} : upto n 0 = Array.replicate n false := by
  apply Array.ext
  · simp [upto]
  · intro j h1 h2
    simp [upto]

theorem wpAnyS_lex {Q : Act → World → Prop} {w0 : World} (hw0 : U w0) (hs : Region.noSelect ops = true) (hc : chainB md ops sp = true) : ∀ (l : List Oper) (k : Nat) (a : Act) (D : World → Prop), (∀ j, l[j]? = ops[k + j]?) → k + l.length = ops.size →
    Region.lexFrom md ops l.length k (upto ops.size k) = true → wpStage P ops U sp Q l k a D → wpAnyS P md ops U sp Q l.length (upto ops.size k) a D
  | [], _, _, _, _, _, hB, h => ⟨by simpa [Region.lexFrom] using hB, h⟩
  | o :: l, k, a, D, hl, hsz, hB, h => by
    have h0 : ops[k]? = some o := by simpa using (hl 0).symm
    simp only [List.length_cons, Region.lexFrom, Bool.and_eq_true] at hB
    obtain ⟨⟨hr, hf⟩, hB'⟩ := hB
    rw [upto_succ] at hB'
    have hr' : k ∈ Region.ready md ops (upto ops.size k) := by simpa using hr
    have hfree : FreeOf md ops o k (upto ops.size k) := Region.free_spec h0 hf
    have next : ∀ a' D', wpStage P ops U sp Q l (k + 1) a' D' → wpAnyS P md ops U sp Q l.length ((upto ops.size k).setIfInBounds k true) a' D' := fun a' D' hh => by
      rw [upto_succ]
      exact wpAnyS_lex hw0 hs hc l (k + 1) a' D' (fun j => by have := hl (j + 1); simpa [Nat.add_assoc, Nat.add_comm 1 j] using this) (by simp at hsz; omega) hB' hh
    have h' : if Region.wanted o (yielded ops a.tmps) = true then stageStep P U (sp k) o a D (wpStage P ops U sp Q l (k + 1)) else wpStage P ops U sp Q l (k + 1) (a.put o.dst undef) D := h
    by_cases hw : Region.wanted o (yielded ops a.tmps) = true
    · rw [if_pos hw] at h'
      unfold stageStep at h'
      cases hsp : sp k
      · rw [hsp] at h'
        obtain ⟨v, hv, hk⟩ := h'
        refine first_still (s := false) h0 (Region.noSelect_spec hs) ?_ l.length _ a D hfree hr' (.inl ⟨rfl, hw, hv⟩) (next _ _ hk)
        intro K a D hy hK
        unfold stageOp
        simp only [h0]
        rcases hy with ⟨_, hw2, hv2⟩ | ⟨hw2, rfl⟩
        · rw [if_pos hw2]
          unfold stageStep
          rw [hsp]
          exact ⟨v, hv2, hK⟩
        · rw [if_neg (by simp [hw2])]
          exact hK
      · rw [hsp] at h'
        obtain ⟨p, D', hy, hk⟩ := h'
        have hks : k < ops.size := by simp at hsz; omega
        refine first_spine hw0 h0 hsp (Region.noSelect_spec hs) l.length _ a D hfree (chain_spec hc hsp (fun j hj => ?_) (fun j hj hjs => ?_)) hr' hw hy (fun v hv => next _ _ (hk v hv))
        · rw [upto_lt (by omega)]; exact decide_eq_true hj
        · rw [upto_lt hjs]; exact decide_eq_false (by omega)
    · rw [if_neg hw] at h'
      have hw' : Region.wanted o (yielded ops a.tmps) = false := by simpa using hw
      refine first_still (s := true) h0 (Region.noSelect_spec hs) ?_ l.length _ a D hfree hr' (.inr ⟨hw', rfl⟩) (next _ _ h')
      intro K a D hy hK
      unfold stageOp
      simp only [h0]
      rcases hy with ⟨hf, _⟩ | ⟨hw2, _⟩
      · cases hf
      · rw [if_neg (by simp [hw2])]
        exact hK

/-- ONE WALK IN THE ORDER OF THE TEXT SERVES EVERY ORDER. -/
theorem wp_region_stage {id : Nat} {Q : Exit → Act → World → Prop} {a : Act} {w : World} (U : World → Prop) (sp : Nat → Bool) (D : World → Prop) (hm : P.follows .mixedOrders = true) (hB : Region.lexB .any ops = true) (hc : chainB .any ops sp = true)
    (hU : ∀ w, D w → U w) (hD : D w.drew) (h : wpStage P ops U sp (fun a' w' => Q .normal a' w') ops.toList 0 a D) : (Code.region id ops true).wp P Q a w := by
  simp only [Region.lexB, Bool.and_eq_true] at hB
  have hD' : D { w with drawn := w.drawn + 1 } := hD
  refine wp_region_any hm (wpAny_of_stage (U := U) (sp := sp) (Q := fun a' w' => Q .normal a' w') (fun _ _ h => h) _ _ _ D _ hU hD' ?_)
  have := wpAnyS_lex (md := .any) (hU _ hD') hB.1 hc ops.toList 0 a D (by simp) (by simp) (by rw [upto_zero]; simpa using hB.2) h
  rw [upto_zero] at this
  simpa using this

theorem wpStage_nil {Q : Act → World → Prop} {a : Act} {k : Nat} {D : World → Prop} (h : ∀ w, D w → Q a w) : wpStage P ops U sp Q [] k a D := h

/-- One operation at a time, what follows behind a variable: one that leaves the world alone, .. -/
theorem wpStage_still {Q : Act → World → Prop} {a : Act} {o : Oper} {rest : List Oper} {k : Nat} {D : World → Prop} (hs : sp k = false)
    (h : ∀ K : Act → Prop, (∀ a, wpStage P ops U sp Q rest (k + 1) a D → K a) → if Region.wanted o (yielded ops a.tmps) = true then ∃ v, (∀ w, U w → (execOp a.eval o).run P w = .ok (.value v) w) ∧ K (a.put o.dst v) else K (a.put o.dst undef)) : wpStage P ops U sp Q (o :: rest) k a D := by
  have h1 := h (fun a => wpStage P ops U sp Q rest (k + 1) a D) (fun _ h => h)
  show if _ then _ else _
  by_cases hw : Region.wanted o (yielded ops a.tmps) = true
  · rw [if_pos hw] at h1 ⊢
    unfold stageStep
    rw [hs]
    exact h1
  · rw [if_neg hw] at h1 ⊢
    exact h1

/-- .. one of the spine. -/
theorem wpStage_spine {Q : Act → World → Prop} {a : Act} {o : Oper} {rest : List Oper} {k : Nat} {D : World → Prop} (hs : sp k = true) (hg : o.guard = none) (p : Value → Prop) (D' : Value → World → Prop) (hp : ∃ v, p v) (hU : ∀ v w, D' v w → U w)
    (hrun : ∀ w, D w → spineUpon P (fun v w' => p v ∧ D' v w') ((execOp a.eval o).run P w)) (h : ∀ v, p v → wpStage P ops U sp Q rest (k + 1) (a.put o.dst v) (D' v)) : wpStage P ops U sp Q (o :: rest) k a D := by
  show if _ then _ else _
  have hw : Region.wanted o (yielded ops a.tmps) = true := by unfold Region.wanted; rw [hg]
  rw [if_pos hw]
  unfold stageStep
  rw [hs]
  exact ⟨p, D', ⟨hp, hU, hrun⟩, h⟩

end
end Go.Proofs.YtfpemdbiplfkgacGreat
