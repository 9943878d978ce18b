/-
  A region that draws its order, whose operations may lay blocks of their own wherever they come: one value each, in every world of the class; and a spine of operations that nothing else can overtake, whose value may differ with the order (an allocation, a store). No walk of the program.
-/
import Derived.Test.YtcbnnfeelhlapadGreatDoorFFin
import Derived.Test.YtcbnnfeelhlapadGreatDoorFClone
import Derived.Test.YtcbnnfeelhlapadGreatDoorFLists
import Derived.Test.YtcbnnfeelhlapadGreatDoorFAll
import Derived.Test.YtcbnnfeelhlapadGreatDoorLPlain
namespace Go.Proofs.YtcbnnfeelhlapadGreatDoor
open Go Go.RowKit
section
variable {P : Program} {ops : Array Oper} {md : Region.Mode} {U : World → Prop} {sp : Nat → Bool}
def growUpon (P : Program) (v : Value) (w : World) : Result Next → Prop
 | .ok (.value u) w' => u = v ∧ Below w.heap.size w w'
 | .ok (.enter f args) w' => w' = w ∧ Calls P f args w (fun e w'' => e = .returned v ∧ Below w.heap.size w w'')
 | _ => False
def growIn (P : Program) (U : World → Prop) (o : Oper) (a : Act) (v : Value) : Prop := ∀ w, U w → growUpon P v w ((execOp a.eval o).run P w)
def Shut (D : World → Prop) : Prop := ∀ w w', D w → Below w.heap.size w w' → D w'
def growStep (P : Program) (U : World → Prop) (s : Bool) (o : Oper) (a : Act) (D : World → Prop) (K : Act → (World → Prop) → Prop) : Prop :=
 if s = true then ∃ p D', spineIn P U o a D p D' ∧ (∀ v, Shut (D' v)) ∧ ∀ v, p v → K (a.put o.dst v) (D' v)
 else ∃ v, growIn P U o a v ∧ K (a.put o.dst v) D
def wpGrow (P : Program) (ops : Array Oper) (U : World → Prop) (sp : Nat → Bool) (Q : Act → World → Prop) : List Oper → Nat → Act → (World → Prop) → Prop
 | [], _, a, D => ∀ w, D w → Q a w
 | o :: rest, k, a, D => if Region.wanted o (yielded ops a.tmps) = true then growStep P U (sp k) o a D (wpGrow P ops U sp Q rest (k + 1)) else wpGrow P ops U sp Q rest (k + 1) (a.put o.dst undef) D
def growOp (P : Program) (ops : Array Oper) (U : World → Prop) (sp : Nat → Bool) (i : Nat) (K : Act → (World → Prop) → Prop) (a : Act) (D : World → Prop) : Prop :=
 match ops[i]? with
 | none => K a D
 | some o => if Region.wanted o (yielded ops a.tmps) = true then growStep P U (sp i) o a D K else K (a.put o.dst undef) D
theorem growStep_mono {s : Bool} {o : Oper} {a : Act} {D : World → Prop} {K K' : Act → (World → Prop) → Prop} (h : ∀ a D, K a D → K' a D) (hh : growStep P U s o a D K) : growStep P U s o a D K' := by
 unfold growStep at *
 cases s
 ·obtain ⟨v, h1, h2⟩ := hh
  exact ⟨v, h1, h _ _ h2⟩
 ·obtain ⟨p, D', h1, hs, h2⟩ := hh
  exact ⟨p, D', h1, hs, fun v hv => h _ _ (h2 v hv)⟩
theorem growOp_mono {i : Nat} {a : Act} {D : World → Prop} {K K' : Act → (World → Prop) → Prop} (h : ∀ a D, K a D → K' a D) (hh : growOp P ops U sp i K a D) : growOp P ops U sp i K' a D := by
 unfold growOp at *
 cases ho : ops[i]? with
 | none => rw [ho] at hh; exact h _ _ hh
 | some o =>
  rw [ho] at hh
  show if _ then _ else _
  have hh' : if Region.wanted o (yielded ops a.tmps) = true then growStep P U (sp i) o a D K else K (a.put o.dst undef) D := hh
  by_cases hw : Region.wanted o (yielded ops a.tmps) = true
  ·rw [if_pos hw] at hh' ⊢; exact growStep_mono h hh'
  ·rw [if_neg hw] at hh' ⊢; exact h _ _ hh'
def wpAnyG (P : Program) (md : Region.Mode) (ops : Array Oper) (U : World → Prop) (sp : Nat → Bool) (Q : Act → World → Prop) : Nat → Array Bool → Act → (World → Prop) → Prop
 | 0, listed, a, D => Region.ready md ops listed = [] ∧ ∀ w, D w → Q a w
 | fuel + 1, listed, a, D =>
  (Region.ready md ops listed = [] → ∀ w, D w → Q a w) ∧
  ∀ i ∈ Region.ready md ops listed, growOp P ops U sp i (wpAnyG P md ops U sp Q fuel (listed.setIfInBounds i true)) a D
theorem wp_of_grow {s : Bool} {o : Oper} {a : Act} {D : World → Prop} {K : Act → (World → Prop) → Prop} {K' : Act → World → Prop} {Q' : Exit → Act → World → Prop} {w : World} (hDU : ∀ w, D w → U w) (hsh : Shut D) (hw : D w)
 (h : ∀ a (D' : World → Prop) w', (∀ w, D' w → U w) → Shut D' → D' w' → K a D' → K' a w') (hh : growStep P U s o a D K) : o.wp P a w K' Q' := by
 unfold growStep at hh
 unfold Oper.wp
 cases s
 ·obtain ⟨v, h1, h2⟩ := hh
  have h3 := h1 w (hDU w hw)
  generalize (execOp a.eval o).run P w = r at *
  cases r with
  | ok n w' =>
   cases n <;> simp only [growUpon] at h3 <;> simp only [Oper.upon]
   case value u =>
    obtain ⟨rfl, hb⟩ := h3
    exact h _ D _ hDU hsh (hsh _ _ hw hb) h2
   case enter f args =>
    obtain ⟨rfl, h3⟩ := h3
    exact h3.mono fun e w'' ⟨he, hb⟩ => by subst he; exact h _ D _ hDU hsh (hsh _ _ hw hb) h2
  | halt x w' => simp only [growUpon] at h3
 ·obtain ⟨p, D', ⟨_, hU, h1⟩, hs, h2⟩ := hh
  have h3 := h1 w hw
  generalize (execOp a.eval o).run P w = r at *
  cases r with
  | ok n w' =>
   cases n <;> simp only [spineUpon] at h3 <;> simp only [Oper.upon]
   case value u => exact h _ (D' u) _ (hU u) (hs u) h3.2 (h2 u h3.1)
   case skip => exact h _ (D' undef) _ (hU undef) (hs undef) h3.2 (h2 undef h3.1)
   case enter f args =>
    exact h3.mono fun e w'' ⟨v, he, hp, hd⟩ => by subst he; exact h _ (D' v) _ (hU v) (hs v) hd (h2 v hp)
  | halt x w' => simp only [spineUpon] at h3
theorem wpAny_of_grow {Q : Act → World → Prop} {Q' : Exit → Act → World → Prop} (hQ : ∀ a w, Q a w → Q' .normal a w) : ∀ (fuel : Nat) (listed : Array Bool) (a : Act) (D : World → Prop) (w : World), (∀ w, D w → U w) → Shut D → D w →
 wpAnyG P md ops U sp Q fuel listed a D → wpAny P md ops Q' fuel listed a w
 | 0, _, _, _, _, _, _, hw, h => ⟨h.1, hQ _ _ (h.2 _ hw)⟩
 | fuel + 1, listed, a, D, w, hU, hsh, hw, h => ⟨fun h0 => hQ _ _ (h.1 h0 _ hw), fun i hi => by
  have h1 := h.2 i hi
  unfold growOp at h1
  unfold wpOp
  cases ho : ops[i]? with
  | none => rw [ho] at h1; exact wpAny_of_grow hQ fuel _ _ D _ hU hsh hw h1
  | some o =>
   rw [ho] at h1
   have h2 : if Region.wanted o (yielded ops a.tmps) = true then growStep P U (sp i) o a D (wpAnyG P md ops U sp Q fuel (listed.setIfInBounds i true)) else wpAnyG P md ops U sp Q fuel (listed.setIfInBounds i true) (a.put o.dst undef) D := h1
   show if _ then _ else _
   by_cases hwt : Region.wanted o (yielded ops a.tmps) = true
   ·rw [if_pos hwt] at h2 ⊢
    exact .inl (wp_of_grow hU hsh hw (fun a' D' w' hU' hs' hd hk => wpAny_of_grow hQ fuel _ a' D' w' hU' hs' hd hk) h2)
   ·rw [if_neg hwt] at h2 ⊢
    exact wpAny_of_grow hQ fuel _ _ D _ hU hsh hw h2⟩
def LeavesG (P : Program) (ops : Array Oper) (U : World → Prop) (s : Bool) (o : Oper) (v : Value) (a : Act) : Prop :=
 (s = false ∧ Region.wanted o (yielded ops a.tmps) = true ∧ growIn P U o a v) ∨ (Region.wanted o (yielded ops a.tmps) = false ∧ v = undef)
theorem LeavesG.put {s : Bool} {o : Oper} {v : Value} {a : Act} {dst : Option Tmp} {u : Value} (hs : ∀ cs b, o.op ≠ .select cs b) (h3 : ∀ d, dst = some d → d ∉ o.looksAt ops) (h : LeavesG P ops U s o v a) : LeavesG P ops U s o v (a.put dst u) := by
 unfold LeavesG growIn at *
 rw [execOp_put o hs a dst u h3, wanted_put o a dst u h3]
 exact h
theorem growOp_put {s : Bool} {j : Nat} {oi oj : Oper} {v : Value} (hj : ops[j]? = some oj) (hap : oi.apart ops oj = true)
 (hsi : ∀ cs b, oi.op ≠ .select cs b) (hsj : ∀ cs b, oj.op ≠ .select cs b) {K : Act → (World → Prop) → Prop} {a : Act} {D : World → Prop}
 (hy : LeavesG P ops U s oi v a) (h : growOp P ops U sp j K (a.put oi.dst v) D) :
 growOp P ops U sp j (fun a' D' => LeavesG P ops U s oi v a' ∧ K (a'.put oi.dst v) D') a D := by
 obtain ⟨h1, h2, h3⟩ := Oper.apart_spec hap
 unfold growOp at *
 simp only [hj] at *
 rw [wanted_put oj a oi.dst v h1] at h
 by_cases hw : Region.wanted oj (yielded ops a.tmps) = true
 ·rw [if_pos hw] at h ⊢
  unfold growStep growIn spineIn at *
  rw [execOp_put oj hsj a oi.dst v h1] at h
  cases hs : sp j
  ·rw [hs] at h
   obtain ⟨u, hu, hn⟩ := h
   exact ⟨u, hu, hy.put hsi h3, by rw [← Act.put_comm a v u h2]; exact hn⟩
  ·rw [hs] at h
   obtain ⟨p, D', hu, hsh, hn⟩ := h
   exact ⟨p, D', hu, hsh, fun u hp => ⟨hy.put hsi h3, by rw [← Act.put_comm a v u h2]; exact hn u hp⟩⟩
 ·rw [if_neg hw] at h ⊢
  exact ⟨hy.put hsi h3, by rw [← Act.put_comm a v undef h2]; exact h⟩
theorem first_stillG {s : Bool} {Q : Act → World → Prop} {i : Nat} {oi : Oper} {v : Value} (hi : ops[i]? = some oi) (hsel : ∀ (j : Nat) (o : Oper) cs b, ops[j]? = some o → o.op ≠ .select cs b)
 (hown : ∀ {K : Act → (World → Prop) → Prop} {a : Act} {D : World → Prop}, LeavesG P ops U s oi v a → K (a.put oi.dst v) D → growOp P ops U sp i K a D) :
 ∀ (fuel : Nat) (listed : Array Bool) (a : Act) (D : World → Prop), FreeOf md ops oi i listed → i ∈ Region.ready md ops listed → LeavesG P ops U s oi v a →
  wpAnyG P md ops U sp Q fuel (listed.setIfInBounds i true) (a.put oi.dst v) D → wpAnyG P md ops U sp Q (fuel + 1) listed a D := by
 intro fuel
 induction fuel with
 | zero =>
  intro listed a D _ hr hy H
  refine ⟨fun h => (by rw [h] at hr; cases hr), fun j hj => ?_⟩
  by_cases hji : j = i
  ·subst hji; exact hown hy H
  ·have := ready_mono hj hji
   rw [H.1] at this
   cases this
 | succ fuel ih =>
  intro listed a D hfree hr hy H
  refine ⟨fun h => (by rw [h] at hr; cases hr), fun j hj => ?_⟩
  by_cases hji : j = i
  ·subst hji; exact hown hy H
  ·have h1 := H.2 j (ready_mono hj hji)
   obtain ⟨hjun, oj, hoj, hall⟩ := mem_ready.1 hj
   have h2 := growOp_put hoj (hfree j oj hoj hji hjun (not_after hr hall)) (fun cs b => hsel i oi cs b hi) (fun cs b => hsel j oj cs b hoj) hy h1
   refine growOp_mono (fun a' D' h3 => ih (listed.setIfInBounds j true) a' D' (hfree.later hjun) (ready_mono hr (Ne.symm hji)) h3.1 ?_) h2
   rw [Array.setIfInBounds_comm _ _ hji]
   exact h3.2
def aloneB (md : Region.Mode) (ops : Array Oper) (sp : Nat → Bool) : Bool := (List.range ops.size).all fun k => !sp k || Region.ready md ops (upto ops.size k) == [k]
theorem wpAnyG_lex {Q : Act → World → Prop} (hs : Region.noSelect ops = true) (hc : aloneB md ops sp = true) : ∀ (l : List Oper) (k : Nat) (a : Act) (D : World → Prop), (∀ j, l[j]? = ops[k + j]?) → k + l.length = ops.size →
 Region.lexFrom md ops l.length k (upto ops.size k) = true → wpGrow P ops U sp Q l k a D → wpAnyG P md ops U sp Q l.length (upto ops.size k) a D
 | [], _, _, _, _, _, hB, h => ⟨by simpa [Region.lexFrom] using hB, h⟩
 | o :: l, k, a, D, hl, hsz, hB, h => by
  have h0 : ops[k]? = some o := by simpa using (hl 0).symm
  simp only [List.length_cons, Region.lexFrom, Bool.and_eq_true] at hB
  obtain ⟨⟨hr, hf⟩, hB'⟩ := hB
  rw [upto_succ] at hB'
  have hr' : k ∈ Region.ready md ops (upto ops.size k) := by simpa using hr
  have hfree : FreeOf md ops o k (upto ops.size k) := Region.free_spec h0 hf
  have next : ∀ a' D', wpGrow P ops U sp Q l (k + 1) a' D' → wpAnyG P md ops U sp Q l.length ((upto ops.size k).setIfInBounds k true) a' D' := fun a' D' hh => by
   rw [upto_succ]
   exact wpAnyG_lex hs hc l (k + 1) a' D' (fun j => by have := hl (j + 1); simpa [Nat.add_assoc, Nat.add_comm 1 j] using this) (by simp at hsz; omega) hB' hh
  have h' : if Region.wanted o (yielded ops a.tmps) = true then growStep P U (sp k) o a D (wpGrow P ops U sp Q l (k + 1)) else wpGrow P ops U sp Q l (k + 1) (a.put o.dst undef) D := h
  by_cases hw : Region.wanted o (yielded ops a.tmps) = true
  ·rw [if_pos hw] at h'
   cases hsp : sp k
   ·rw [hsp] at h'
    unfold growStep at h'
    obtain ⟨v, hv, hk⟩ := h'
    refine first_stillG (s := false) h0 (Region.noSelect_spec hs) ?_ l.length _ a D hfree hr' (.inl ⟨rfl, hw, hv⟩) (next _ _ hk)
    intro K a D hy hK
    unfold growOp
    simp only [h0]
    rcases hy with ⟨_, hw2, hv2⟩ | ⟨hw2, rfl⟩
    ·rw [if_pos hw2]
     unfold growStep
     rw [hsp]
     exact ⟨v, hv2, hK⟩
    ·rw [if_neg (by simp [hw2])]
     exact hK
   ·have hks : k < ops.size := by simp at hsz; omega
    have hal : Region.ready md ops (upto ops.size k) = [k] := by
     unfold aloneB at hc
     rw [List.all_eq_true] at hc
     have := hc k (List.mem_range.2 hks)
     simpa [hsp] using this
    refine ⟨fun h => (by rw [h] at hr'; cases hr'), fun j hj => ?_⟩
    rw [hal] at hj
    obtain rfl : j = k := by simpa using hj
    unfold growOp
    simp only [h0, if_pos hw]
    exact growStep_mono next h'
  ·rw [if_neg hw] at h'
   have hw' : Region.wanted o (yielded ops a.tmps) = false := by simpa using hw
   refine first_stillG (s := true) h0 (Region.noSelect_spec hs) ?_ l.length _ a D hfree hr' (.inr ⟨hw', rfl⟩) (next _ _ h')
   intro K a D hy hK
   unfold growOp
   simp only [h0]
   rcases hy with ⟨hf, _⟩ | ⟨hw2, _⟩
   ·cases hf
   ·rw [if_neg (by simp [hw2])]
    exact hK
theorem wp_region_grow {id : Nat} {Q : Exit → Act → World → Prop} {a : Act} {w : World} (U : World → Prop) (sp : Nat → Bool) (D : World → Prop) (hm : P.follows .mixedOrders = true) (hB : Region.lexB .any ops = true) (hc : aloneB .any ops sp = true)
 (hU : ∀ w, D w → U w) (hsh : Shut D) (hD : D w.drew) (h : wpGrow P ops U sp (fun a' w' => Q .normal a' w') ops.toList 0 a D) : (Code.region id ops true).wp P Q a w := by
 simp only [Region.lexB, Bool.and_eq_true] at hB
 have hD' : D { w with drawn := w.drawn + 1 } := hD
 refine wp_region_any hm (wpAny_of_grow (U := U) (sp := sp) (Q := fun a' w' => Q .normal a' w') (fun _ _ h => h) _ _ _ D _ hU hsh hD' ?_)
 have := wpAnyG_lex (md := .any) hB.1 hc ops.toList 0 a D (by simp) (by simp) (by rw [upto_zero]; simpa using hB.2) h
 rw [upto_zero] at this
 simpa using this
theorem wpGrow_nil {Q : Act → World → Prop} {a : Act} {k : Nat} {D : World → Prop} (h : ∀ w, D w → Q a w) : wpGrow P ops U sp Q [] k a D := h
theorem gus {v : Value} {w : World} {r : Result Next} (h : r = .ok (.value v) w) : growUpon P v w r := by rw [h]; exact ⟨rfl, Below.refl _ _⟩
theorem wgb {Q : Act → World → Prop} {a : Act} {o : Oper} {rest : List Oper} {k : Nat} {D : World → Prop} (d : Option Tmp) (w0 : World) (hs : sp k = false) (v : Value) (hd : o.dst = d) (hw : Region.wanted o (yielded ops a.tmps) = true)
 (hrun : ∀ w, U w → growUpon P v w ((execOp a.eval o).run P w)) (h : Oper.quiet P ⟨d, .move (.const v), 0, "", #[], none⟩ a (fun _ => True) (fun a' => wpGrow P ops U sp Q rest (k + 1) a' D)) : wpGrow P ops U sp Q (o :: rest) k a D := by
 show if _ then _ else _
 rw [if_pos hw]
 unfold growStep
 rw [if_neg (by simp [hs])]
 refine ⟨v, hrun, ?_⟩
 rw [hd]
 exact put_of_quiet w0 h
theorem wpGrow_bigSpine {Q : Act → World → Prop} {a : Act} {o : Oper} {rest : List Oper} {k : Nat} {D : World → Prop} (d : Option Tmp) (w0 : World) (hs : sp k = true) (hg : o.guard = none) (hd : o.dst = d) (p : Value → Prop) (D' : Value → World → Prop) (hp : ∃ v, p v) (hU : ∀ v w, D' v w → U w) (hsh : ∀ v, Shut (D' v))
 (hrun : ∀ w, D w → spineUpon P (fun v w' => p v ∧ D' v w') ((execOp a.eval o).run P w)) (h : ∀ v, p v → Oper.quiet P ⟨d, .move (.const v), 0, "", #[], none⟩ a (fun _ => True) (fun a' => wpGrow P ops U sp Q rest (k + 1) a' (D' v))) : wpGrow P ops U sp Q (o :: rest) k a D := by
 show if _ then _ else _
 have hw : Region.wanted o (yielded ops a.tmps) = true := by unfold Region.wanted; rw [hg]
 rw [if_pos hw]
 unfold growStep
 rw [if_pos hs]
 refine ⟨p, D', ⟨hp, hU, hrun⟩, hsh, fun v hv => ?_⟩
 rw [hd]
 exact put_of_quiet w0 (h v hv)
theorem wpGrow_bigStore {Q : Act → World → Prop} {a : Act} {o : Oper} {rest : List Oper} {k : Nat} {D : World → Prop} (hs : sp k = true) (hg : o.guard = none) (hd : o.dst = none) (D' : World → Prop) (hU : ∀ w, D' w → U w) (hsh : Shut D')
 (hrun : ∀ w, D w → spineUpon P (fun _ w' => D' w') ((execOp a.eval o).run P w)) (h : wpGrow P ops U sp Q rest (k + 1) a D') : wpGrow P ops U sp Q (o :: rest) k a D := by
 show if _ then _ else _
 have hw : Region.wanted o (yielded ops a.tmps) = true := by unfold Region.wanted; rw [hg]
 rw [if_pos hw]
 unfold growStep
 rw [if_pos hs]
 refine ⟨fun _ => True, fun _ => D', ⟨⟨undef, trivial⟩, fun _ => hU, fun w hw => ?_⟩, fun _ => hsh, fun v _ => ?_⟩
 ·have := hrun w hw
  revert this
  cases (execOp a.eval o).run P w <;> simp [spineUpon]
 ·rw [hd]
  exact h
end
end Go.Proofs.YtcbnnfeelhlapadGreatDoor

/-
  Plain mathematics: where the old bytes and the new ones stand behind a deed; and two texts at the same place, neither of whose writers knew of the other one. No walk.
-/
namespace Go.Proofs.YtcbnnfeelhlapadGreatDoor
end Go.Proofs.YtcbnnfeelhlapadGreatDoor

/-
  Lists of deeds in memory that the call owns. No walk.
-/
namespace Go.Proofs.YtcbnnfeelhlapadGreatDoor
open Go.RowKit
def ddCells (x : Dd) : List Value := [.int .i64 x.kind, .int .i64 x.by_, .int .i64 x.no, .int .i64 x.seen, .int .i64 x.at_, .int .i64 x.many, .string x.text]
def cellsD : List Dd → List Value
 | [] => []
 | x :: r => ddCells x ++ cellsD r
theorem cellsD_len : ∀ l : List Dd, (cellsD l).length = l.length * 7
 | [] => rfl
 | x :: r => by
  rw [cellsD, List.length_append, cellsD_len r, List.length_cons]
  show 7 + _ = _
  omega
theorem cellsD_app : ∀ a b : List Dd, cellsD (a ++ b) = cellsD a ++ cellsD b
 | [], b => rfl
 | x :: r, b => by rw [List.cons_append, cellsD, cellsD_app r b, cellsD, List.append_assoc]
theorem cellsD_one : ∀ (l : List Dd) (u : Value), u ∈ cellsD l → u.oneCell' = true
 | [], u, h => by simp [cellsD] at h
 | x :: r, u, h => by
  rw [cellsD, List.mem_append] at h
  rcases h with h | h
  ·simp [ddCells] at h
   rcases h with rfl | rfl | rfl | rfl | rfl | rfl | rfl <;> rfl
  ·exact cellsD_one r u h
theorem cellsD_get : ∀ (l : List Dd) (i r : Nat) (hi : i < l.length), r < 7 → (cellsD l)[i * 7 + r]? = (ddCells l[i])[r]?
 | [], i, r, hi, _ => absurd hi (Nat.not_lt_zero _)
 | x :: l, 0, r, _, hr => by
  rw [cellsD, Nat.zero_mul, Nat.zero_add, List.getElem?_append_left (by exact hr)]
  rfl
 | x :: l, i + 1, r, hi, hr => by
  rw [cellsD, List.getElem?_append_right (by show 7 ≤ _; omega)]
  show (cellsD l)[(i + 1) * 7 + r - 7]? = _
  rw [show (i + 1) * 7 + r - 7 = i * 7 + r by omega, cellsD_get l i r (by simpa using hi) hr]
  rfl
def OwnD (w : World) (base : Nat) (v : Value) (l : List Dd) : Prop := w.ownsRow base 124 7 v l.length (cellsD l)
theorem OwnD.dlst {w : World} {base : Nat} {v : Value} {l : List Dd} (h : OwnD w base v l) : DLst w v l := by
 have h' := h
 obtain ⟨_, h2⟩ := h
 rcases h2 with ⟨rfl, hn⟩ | ⟨g, cap, cur, rfl, hb, hg, hnc, _⟩
 ·exact ⟨none, 0, 0, rfl, hn, Nat.le_refl _, .inl rfl⟩
 ·have hlt := (Array.getElem?_eq_some_iff.1 hg).1
  refine ⟨_, _, _, rfl, rfl, hnc, .inr ⟨g, 0, rfl, ⟨hlt, fun i hi => ?_⟩⟩⟩
  have key : ∀ r, r < 7 → w.cell? ⟨g, 0 + i * 7 + r, none⟩ = (ddCells l[i])[r]? := fun r hr => by
   rw [Nat.zero_add, World.ownsRow.cellAt h' (i * 7 + r) (by omega), cellsD_get l i r hi hr]
  exact ⟨hlt, key 0 (by omega), key 1 (by omega), key 2 (by omega), key 3 (by omega), key 4 (by omega), key 5 (by omega), key 6 (by omega)⟩
theorem OwnD.below {w w' : World} {base : Nat} {v : Value} {l : List Dd} (h : OwnD w base v l) (hb : Below w.heap.size w w') : OwnD w' base v l := by
 exact World.ownsRow.kept (row := none) h ⟨hb.os, hb.tape, hb.output, hb.size, fun k hk _ => hb.block k hk⟩ (by cases h' : v.ownBlock <;> simp)
abbrev zeroDdV : Value := .agg #[.int .i64 0, .int .i64 0, .int .i64 0, .int .i64 0, .int .i64 0, .int .i64 0, .string ⟨#[]⟩]
theorem Tryz.infoDeed : (Tryz.prog.info? 124).map (fun i => (i.zero, i.size, i.bytes)) = some (some zeroDdV, 7, 64) := by kernel_rfl
theorem src_new (w : World) (b : List Dd) (cs : Array Value) (h : cs.toList = cellsD b) : ∀ j u, (cellsD b)[j]? = some u → (w.alloc (.cells cs 124)).cell? ((⟨w.heap.size, 0, none⟩ : Addr).add j) = some u := by
 intro j u hu
 rw [addr_add, Nat.zero_add]
 rw [← h] at hu
 have hu' : cs[j]? = some u := by simpa using hu
 rw [cell_of_row (w.alloc (.cells cs 124)) w.heap.size j cs 124 (0, 0) (heap_alloc_new w _)]
 exact hu'
end Go.Proofs.YtcbnnfeelhlapadGreatDoor

/-
  A log and a book in memory: which blocks are theirs, and what a step on one of them leaves of the other one. No walk.
-/
namespace Go.Proofs.YtcbnnfeelhlapadGreatDoor
open Go.RowKit
structure Kept (S : Nat → Prop) (w w' : World) : Prop where
 os : w'.os = w.os
 tape : w'.tape = w.tape
 output : w'.output = w.output
 size : w.heap.size ≤ w'.heap.size
 block : ∀ k, k < w.heap.size → ¬ S k → w'.heap[k]? = w.heap[k]?
theorem Kept.refl (S : Nat → Prop) (w : World) : Kept S w w := ⟨rfl, rfl, rfl, Nat.le_refl _, fun _ _ _ => rfl⟩
theorem Kept.of_below {S : Nat → Prop} {w w' : World} (h : Below w.heap.size w w') : Kept S w w' := ⟨h.os, h.tape, h.output, h.size, fun k hk _ => h.block k hk⟩
def grow (S : Nat → Prop) (w w' : World) : Nat → Prop := fun k => S k ∨ (w.heap.size ≤ k ∧ k < w'.heap.size)
theorem Kept.trans {S : Nat → Prop} {a b c : World} (h : Kept S a b) (k : Kept (grow S a b) b c) : Kept S a c :=
 ⟨k.os.trans h.os, k.tape.trans h.tape, k.output.trans h.output, Nat.le_trans h.size k.size, fun i hi hs => (k.block i (Nat.lt_of_lt_of_le hi h.size) (fun e => e.elim hs (fun e => by omega))).trans (h.block i hi hs)⟩
theorem Kept.trans' {S : Nat → Prop} {a b c : World} (h : Kept S a b) (k : Kept S b c) : Kept S a c :=
 ⟨k.os.trans h.os, k.tape.trans h.tape, k.output.trans h.output, Nat.le_trans h.size k.size, fun i hi hs => (k.block i (Nat.lt_of_lt_of_le hi h.size) hs).trans (h.block i hi hs)⟩
theorem Kept.below {S : Nat → Prop} {base : Nat} {w w' : World} (h : Kept S w w') (hb : ∀ k, S k → base ≤ k) (hs : base ≤ w.heap.size) : Below base w w' :=
 ⟨h.os, h.tape, h.output, h.size, fun k hk => h.block k (by omega) (fun e => by have := hb k e; omega)⟩
theorem Kept.set {S : Nat → Prop} {w w' : World} (h : Kept S w w') {p : Addr} (hp : S p.block) (u : Value) : Kept S w (w'.setCell p u) :=
 ⟨h.os, h.tape, h.output, by simpa [World.setCell] using h.size, fun k hk hs => by
  rw [Below.heap_setCell w' p u k (fun e => hs (by rw [e]; exact hp))]
  exact h.block k hk hs⟩
theorem Kept.after {S : Nat → Prop} {a b c : World} (h : Kept S a b) (hb : Below b.heap.size b c) : Kept S a c := h.trans' (.of_below hb)
theorem Kept.grown {S : Nat → Prop} {a b c : World} {row : Option Nat} (h : Kept S a b) (hg : b.grownBy c row) (hr : ∀ k, row = some k → S k ∨ a.heap.size ≤ k) : Kept S a c :=
 ⟨hg.os.trans h.os, hg.tape.trans h.tape, hg.output.trans h.output, Nat.le_trans h.size hg.size, fun k hk hs => by
  rw [hg.block k (Nat.lt_of_lt_of_le hk h.size) (fun e => by rcases hr k e.symm with x | x; exact hs x; omega)]
  exact h.block k hk hs⟩
structure LogC (w : World) (G : Nat) (dv lv : Value) (b : Bk) : Prop where
 lt : G < w.heap.size
 here : ∀ j, j < 4 → w.cell? ⟨G, j * 3, none⟩ = some (.bool (b.here j))
 last : ∀ j, j < 4 → w.cell? ⟨G, j * 3 + 1, none⟩ = some (.int .i64 (b.last j))
 said : ∀ j, j < 4 → w.cell? ⟨G, j * 3 + 2, none⟩ = some (.int .i64 (b.said j))
 deeds : w.cell? ⟨G, 12, none⟩ = some dv
 list : w.cell? ⟨G, 13, none⟩ = some lv
 free : ∀ o, o < 14 → w.frozen? ⟨G, o, none⟩ = false
structure LogAt (w : World) (base : Nat) (S : Nat → Prop) (G : Nat) (dv lv : Value) (b : Bk) : Prop where
 lo : ∀ k, S k → base ≤ k ∧ k < w.heap.size
 hG : S G
 cells : LogC w G dv lv b
 ownD : OwnD w base dv b.ds
 ownL : Own w base lv b.chars
 dB : ∀ k, dv.ownBlock = some k → S k ∧ k ≠ G
 lB : ∀ k, lv.ownBlock = some k → S k ∧ k ≠ G ∧ dv.ownBlock ≠ some k
theorem LogC.kept {w w' : World} {G : Nat} {dv lv : Value} {b : Bk} (h : LogC w G dv lv b) (hs : w.heap.size ≤ w'.heap.size) (hb : w'.heap[G]? = w.heap[G]?) : LogC w' G dv lv b := by
 have hc : ∀ o, w'.cell? ⟨G, o, none⟩ = w.cell? ⟨G, o, none⟩ := fun o => World.cell?_of_block (a := ⟨G, o, none⟩) hb
 have hf : ∀ o, w'.frozen? ⟨G, o, none⟩ = w.frozen? ⟨G, o, none⟩ := fun o => World.frozen?_of_block (a := ⟨G, o, none⟩) hb
 exact ⟨Nat.lt_of_lt_of_le h.lt hs, fun j hj => by rw [hc]; exact h.here j hj, fun j hj => by rw [hc]; exact h.last j hj, fun j hj => by rw [hc]; exact h.said j hj, by rw [hc]; exact h.deeds, by rw [hc]; exact h.list, fun o ho => by rw [hf]; exact h.free o ho⟩
theorem owns_block {w w' : World} {base : Nat} {e : TypeId} {size n : Nat} {v : Value} {xs : List Value} (h : w.ownsRow base e size v n xs) (hb : ∀ k, v.ownBlock = some k → w'.heap[k]? = w.heap[k]?) : w'.ownsRow base e size v n xs := by
 refine ⟨h.1, ?_⟩
 rcases h.2 with hn | ⟨g, cap, cur, rfl, hb', hgg, rest⟩
 ·exact .inl hn
 ·exact .inr ⟨g, cap, cur, rfl, hb', by rw [hb g rfl]; exact hgg, rest⟩
theorem LogAt.kept {w w' : World} {base G : Nat} {S T : Nat → Prop} {dv lv : Value} {b : Bk} (h : LogAt w base S G dv lv b) (hk : Kept T w w') (hd : ∀ k, S k → ¬ T k) : LogAt w' base S G dv lv b := by
 have hb : ∀ k, S k → w'.heap[k]? = w.heap[k]? := fun k hs => hk.block k (h.lo k hs).2 (hd k hs)
 exact ⟨fun k hs => ⟨(h.lo k hs).1, Nat.lt_of_lt_of_le (h.lo k hs).2 hk.size⟩, h.hG, h.cells.kept hk.size (hb G h.hG), owns_block h.ownD (fun k e => hb k (h.dB k e).1), owns_block h.ownL (fun k e => hb k (h.lB k e).1), h.dB, h.lB⟩
theorem LogAt.below {w w' : World} {base G : Nat} {S : Nat → Prop} {dv lv : Value} {b : Bk} (h : LogAt w base S G dv lv b) (hb : Below w.heap.size w w') : LogAt w' base S G dv lv b :=
 h.kept (T := fun _ => False) (.of_below hb) (fun _ _ e => e)
theorem LogAt.cells_of {w w' : World} {base G : Nat} {S : Nat → Prop} {dv lv : Value} {b b' : Bk} (h : LogAt w base S G dv lv b) (hk : ∀ k, k ≠ G → w'.heap[k]? = w.heap[k]?) (hs : w.heap.size ≤ w'.heap.size) (hc : LogC w' G dv lv b') (hd : b'.ds = b.ds) : LogAt w' base S G dv lv b' := by
 refine ⟨fun k hs' => ⟨(h.lo k hs').1, Nat.lt_of_lt_of_le (h.lo k hs').2 hs⟩, h.hG, hc, ?_, ?_, h.dB, h.lB⟩
 ·rw [hd]; exact owns_block h.ownD (fun k e => hk k (h.dB k e).2)
 ·rw [show b'.chars = b.chars by unfold Bk.chars; rw [hd]]; exact owns_block h.ownL (fun k e => hk k (h.lB k e).2.1)
theorem LogAt.grow {w w' : World} {base G : Nat} {S : Nat → Prop} {dv lv : Value} {b : Bk} (h : LogAt w' base S G dv lv b) (hb : base ≤ w.heap.size) : LogAt w' base (grow S w w') G dv lv b :=
 ⟨fun k hs => hs.elim (h.lo k) (fun e => ⟨by omega, e.2⟩), .inl h.hG, h.cells, h.ownD, h.ownL, fun k e => ⟨.inl (h.dB k e).1, (h.dB k e).2⟩, fun k e => ⟨.inl (h.lB k e).1, (h.lB k e).2⟩⟩
end Go.Proofs.YtcbnnfeelhlapadGreatDoor
