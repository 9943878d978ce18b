/-
  A region that draws its order, most of whose operations leave the world alone, and a few of which (the SPINE) make or write memory, each waiting for the one ahead of it: one walk in the order of the text serves every order. No walk of the program.
-/
import Derived.Deep.Quiet
import Derived.Test.YtcbnnfeelhlapadGreatDoorFClone
import Derived.BigRegion
import Derived.Test.YtcbnnfeelhlapadGreatDoorDPlain
import Derived.Deep.QuietTactic
import Derived.BigQuiet
namespace Go.Proofs.YtcbnnfeelhlapadGreatDoor
open Go
section
variable {P : Program} {ops : Array Oper} {md : Region.Mode} {U : World → Prop} {sp : Nat → Bool}
def spineUpon (P : Program) (D' : Value → World → Prop) : Result Next → Prop
 | .ok (.value u) w' => D' u w'
 | .ok .skip w' => D' undef w'
 | .ok (.enter f args) w' => Calls P f args w' (fun e w'' => ∃ v, e = .returned v ∧ D' v w'')
 | _ => False
def stillIn (P : Program) (U : World → Prop) (o : Oper) (a : Act) (v : Value) : Prop := ∀ w, U w → (execOp a.eval o).run P w = .ok (.value v) w
def spineIn (P : Program) (U : World → Prop) (o : Oper) (a : Act) (D : World → Prop) (p : Value → Prop) (D' : Value → World → Prop) : Prop :=
 (∃ v, p v) ∧ (∀ v w, D' v w → U w) ∧ ∀ w, D w → spineUpon P (fun v w' => p v ∧ D' v w') ((execOp a.eval o).run P w)
def stageStep (P : Program) (U : World → Prop) (s : Bool) (o : Oper) (a : Act) (D : World → Prop) (K : Act → (World → Prop) → Prop) : Prop :=
 if s = true then ∃ p D', spineIn P U o a D p D' ∧ ∀ v, p v → K (a.put o.dst v) (D' v)
 else ∃ v, stillIn P U o a v ∧ K (a.put o.dst v) D
def wpStage (P : Program) (ops : Array Oper) (U : World → Prop) (sp : Nat → Bool) (Q : Act → World → Prop) : List Oper → Nat → Act → (World → Prop) → Prop
 | [], _, a, D => ∀ w, D w → Q a w
 | o :: rest, k, a, D => if Region.wanted o (yielded ops a.tmps) = true then stageStep P U (sp k) o a D (wpStage P ops U sp Q rest (k + 1)) else wpStage P ops U sp Q rest (k + 1) (a.put o.dst undef) D
def stageOp (P : Program) (ops : Array Oper) (U : World → Prop) (sp : Nat → Bool) (i : Nat) (K : Act → (World → Prop) → Prop) (a : Act) (D : World → Prop) : Prop :=
 match ops[i]? with
 | none => K a D
 | some o => if Region.wanted o (yielded ops a.tmps) = true then stageStep P U (sp i) o a D K else K (a.put o.dst undef) D
theorem stageStep_mono {s : Bool} {o : Oper} {a : Act} {D : World → Prop} {K K' : Act → (World → Prop) → Prop} (h : ∀ a D, K a D → K' a D) (hh : stageStep P U s o a D K) : stageStep P U s o a D K' := by
 unfold stageStep at *
 cases s
 ·obtain ⟨v, h1, h2⟩ := hh
  exact ⟨v, h1, h _ _ h2⟩
 ·obtain ⟨p, D', h1, h2⟩ := hh
  exact ⟨p, D', h1, fun v hv => h _ _ (h2 v hv)⟩
theorem stageOp_mono {i : Nat} {a : Act} {D : World → Prop} {K K' : Act → (World → Prop) → Prop} (h : ∀ a D, K a D → K' a D) (hh : stageOp P ops U sp i K a D) : stageOp P ops U sp i K' a D := by
 unfold stageOp at *
 cases ho : ops[i]? with
 | none => rw [ho] at hh; exact h _ _ hh
 | some o =>
  rw [ho] at hh
  show if _ then _ else _
  have hh' : if Region.wanted o (yielded ops a.tmps) = true then stageStep P U (sp i) o a D K else K (a.put o.dst undef) D := hh
  by_cases hw : Region.wanted o (yielded ops a.tmps) = true
  ·rw [if_pos hw] at hh' ⊢; exact stageStep_mono h hh'
  ·rw [if_neg hw] at hh' ⊢; exact h _ _ hh'
def wpAnyS (P : Program) (md : Region.Mode) (ops : Array Oper) (U : World → Prop) (sp : Nat → Bool) (Q : Act → World → Prop) : Nat → Array Bool → Act → (World → Prop) → Prop
 | 0, listed, a, D => Region.ready md ops listed = [] ∧ ∀ w, D w → Q a w
 | fuel + 1, listed, a, D =>
  (Region.ready md ops listed = [] → ∀ w, D w → Q a w) ∧
  ∀ i ∈ Region.ready md ops listed, stageOp P ops U sp i (wpAnyS P md ops U sp Q fuel (listed.setIfInBounds i true)) a D
theorem wp_of_step {s : Bool} {o : Oper} {a : Act} {D : World → Prop} {K : Act → (World → Prop) → Prop} {K' : Act → World → Prop} {Q' : Exit → Act → World → Prop} {w : World} (hDU : ∀ w, D w → U w) (hw : D w)
 (h : ∀ a (D' : World → Prop) w', (∀ w, D' w → U w) → D' w' → K a D' → K' a w') (hh : stageStep P U s o a D K) : o.wp P a w K' Q' := by
 unfold stageStep at hh
 unfold Oper.wp
 cases s
 ·obtain ⟨v, h1, h2⟩ := hh
  rw [h1 w (hDU w hw)]
  exact h _ D _ hDU hw h2
 ·obtain ⟨p, D', ⟨_, hU, h1⟩, h2⟩ := hh
  have h3 := h1 w hw
  generalize (execOp a.eval o).run P w = r at *
  cases r with
  | ok n w' =>
   cases n <;> simp only [spineUpon] at h3 <;> simp only [Oper.upon]
   case value u => exact h _ (D' u) _ (hU u) h3.2 (h2 u h3.1)
   case skip => exact h _ (D' undef) _ (hU undef) h3.2 (h2 undef h3.1)
   case enter f args =>
    exact h3.mono fun e w'' ⟨v, he, hp, hd⟩ => by subst he; exact h _ (D' v) _ (hU v) hd (h2 v hp)
  | halt x w' => simp only [spineUpon] at h3
theorem wpAny_of_stage {Q : Act → World → Prop} {Q' : Exit → Act → World → Prop} (hQ : ∀ a w, Q a w → Q' .normal a w) : ∀ (fuel : Nat) (listed : Array Bool) (a : Act) (D : World → Prop) (w : World), (∀ w, D w → U w) → D w →
 wpAnyS P md ops U sp Q fuel listed a D → wpAny P md ops Q' fuel listed a w
 | 0, _, _, _, _, _, hw, h => ⟨h.1, hQ _ _ (h.2 _ hw)⟩
 | fuel + 1, listed, a, D, w, hU, hw, h => ⟨fun h0 => hQ _ _ (h.1 h0 _ hw), fun i hi => by
  have h1 := h.2 i hi
  unfold stageOp at h1
  unfold wpOp
  cases ho : ops[i]? with
  | none => rw [ho] at h1; exact wpAny_of_stage hQ fuel _ _ D _ hU hw h1
  | some o =>
   rw [ho] at h1
   have h2 : if Region.wanted o (yielded ops a.tmps) = true then stageStep P U (sp i) o a D (wpAnyS P md ops U sp Q fuel (listed.setIfInBounds i true)) else wpAnyS P md ops U sp Q fuel (listed.setIfInBounds i true) (a.put o.dst undef) D := h1
   show if _ then _ else _
   by_cases hwt : Region.wanted o (yielded ops a.tmps) = true
   ·rw [if_pos hwt] at h2 ⊢
    exact .inl (wp_of_step hU hw (fun a' D' w' hU' hd hk => wpAny_of_stage hQ fuel _ a' D' w' hU' hd hk) h2)
   ·rw [if_neg hwt] at h2 ⊢
    exact wpAny_of_stage hQ fuel _ _ D _ hU hw h2⟩
def LeavesV (P : Program) (ops : Array Oper) (U : World → Prop) (s : Bool) (o : Oper) (v : Value) (a : Act) : Prop :=
 (s = false ∧ Region.wanted o (yielded ops a.tmps) = true ∧ stillIn P U o a v) ∨ (Region.wanted o (yielded ops a.tmps) = false ∧ v = undef)
theorem LeavesV.put {s : Bool} {o : Oper} {v : Value} {a : Act} {dst : Option Tmp} {u : Value} (hs : ∀ cs b, o.op ≠ .select cs b) (h3 : ∀ d, dst = some d → d ∉ o.looksAt ops) (h : LeavesV P ops U s o v a) : LeavesV P ops U s o v (a.put dst u) := by
 unfold LeavesV stillIn at *
 rw [execOp_put o hs a dst u h3, wanted_put o a dst u h3]
 exact h
theorem stageOp_put {s : Bool} {j : Nat} {oi oj : Oper} {v : Value} (hj : ops[j]? = some oj) (hap : oi.apart ops oj = true)
 (hsi : ∀ cs b, oi.op ≠ .select cs b) (hsj : ∀ cs b, oj.op ≠ .select cs b) {K : Act → (World → Prop) → Prop} {a : Act} {D : World → Prop}
 (hy : LeavesV P ops U s oi v a) (h : stageOp P ops U sp j K (a.put oi.dst v) D) :
 stageOp P ops U sp j (fun a' D' => LeavesV P ops U s oi v a' ∧ K (a'.put oi.dst v) D') a D := by
 obtain ⟨h1, h2, h3⟩ := Oper.apart_spec hap
 unfold stageOp at *
 simp only [hj] at *
 rw [wanted_put oj a oi.dst v h1] at h
 by_cases hw : Region.wanted oj (yielded ops a.tmps) = true
 ·rw [if_pos hw] at h ⊢
  unfold stageStep stillIn spineIn at *
  rw [execOp_put oj hsj a oi.dst v h1] at h
  cases hs : sp j
  ·rw [hs] at h
   obtain ⟨u, hu, hn⟩ := h
   exact ⟨u, hu, hy.put hsi h3, by rw [← Act.put_comm a v u h2]; exact hn⟩
  ·rw [hs] at h
   obtain ⟨p, D', hu, hn⟩ := h
   exact ⟨p, D', hu, fun u hp => ⟨hy.put hsi h3, by rw [← Act.put_comm a v u h2]; exact hn u hp⟩⟩
 ·rw [if_neg hw] at h ⊢
  exact ⟨hy.put hsi h3, by rw [← Act.put_comm a v undef h2]; exact h⟩
theorem not_after {i : Nat} {oj : Oper} {listed : Array Bool} (hr : i ∈ Region.ready md ops listed) (hall : ∀ e ∈ oj.after, Region.binds md e = true → listed.getD e.on false = true) :
 ∀ e ∈ oj.after, Region.binds md e = true → e.on ≠ i := fun e he hb heq => by
 have h1 := hall e he hb
 have h0 := (mem_ready.1 hr).1
 rw [heq] at h1
 rcases Nat.lt_or_ge i listed.size with h' | h'
 ·simp [h'] at h0 h1; rw [h0] at h1; cases h1
 ·simp [Array.getElem?_eq_none h'] at h1
abbrev FreeOf (md : Region.Mode) (ops : Array Oper) (oi : Oper) (i : Nat) (listed : Array Bool) : Prop :=
 ∀ j oj, ops[j]? = some oj → j ≠ i → listed.getD j true = false → (∀ e ∈ oj.after, Region.binds md e = true → e.on ≠ i) → oi.apart ops oj = true
theorem FreeOf.later {oi : Oper} {i j : Nat} {listed : Array Bool} (h : FreeOf md ops oi i listed) (hjun : listed.getD j true = false) : FreeOf md ops oi i (listed.setIfInBounds j true) := by
 intro k ok hk hki hun hno
 refine h k ok hk hki ?_ hno
 by_cases hjk : j = k
 ·subst hjk; exact hjun
 ·rw [getD_set_ne true hjk] at hun; exact hun
theorem first_still {s : Bool} {Q : Act → World → Prop} {i : Nat} {oi : Oper} {v : Value} (hi : ops[i]? = some oi) (hsel : ∀ (j : Nat) (o : Oper) cs b, ops[j]? = some o → o.op ≠ .select cs b)
 (hown : ∀ {K : Act → (World → Prop) → Prop} {a : Act} {D : World → Prop}, LeavesV P ops U s oi v a → K (a.put oi.dst v) D → stageOp P ops U sp i K a D) :
 ∀ (fuel : Nat) (listed : Array Bool) (a : Act) (D : World → Prop), FreeOf md ops oi i listed → i ∈ Region.ready md ops listed → LeavesV P ops U s oi v a →
  wpAnyS P md ops U sp Q fuel (listed.setIfInBounds i true) (a.put oi.dst v) D → wpAnyS P md ops U sp Q (fuel + 1) listed a D := by
 intro fuel
 induction fuel with
 | zero =>
  intro listed a D _ hr hy H
  refine ⟨fun h => (by rw [h] at hr; cases hr), fun j hj => ?_⟩
  by_cases hji : j = i
  ·subst hji; exact hown hy H
  ·have := ready_mono hj hji
   rw [H.1] at this
   cases this
 | succ fuel ih =>
  intro listed a D hfree hr hy H
  refine ⟨fun h => (by rw [h] at hr; cases hr), fun j hj => ?_⟩
  by_cases hji : j = i
  ·subst hji; exact hown hy H
  ·have h1 := H.2 j (ready_mono hj hji)
   obtain ⟨hjun, oj, hoj, hall⟩ := mem_ready.1 hj
   have h2 := stageOp_put hoj (hfree j oj hoj hji hjun (not_after hr hall)) (fun cs b => hsel i oi cs b hi) (fun cs b => hsel j oj cs b hoj) hy h1
   refine stageOp_mono (fun a' D' h3 => ih (listed.setIfInBounds j true) a' D' (hfree.later hjun) (ready_mono hr (Ne.symm hji)) h3.1 ?_) h2
   rw [Array.setIfInBounds_comm _ _ hji]
   exact h3.2
def Alone (md : Region.Mode) (ops : Array Oper) (sp : Nat → Bool) (i : Nat) (listed : Array Bool) : Prop :=
 ∀ j oj, sp j = true → j ≠ i → ops[j]? = some oj → listed.getD j true = false → ∃ e ∈ oj.after, Region.binds md e = true ∧ sp e.on = true ∧ listed.getD e.on false = false
theorem Alone.not_ready {i j : Nat} {listed : Array Bool} (h : Alone md ops sp i listed) (hj : j ∈ Region.ready md ops listed) (hji : j ≠ i) : sp j = false := by
 obtain ⟨hun, oj, hoj, hall⟩ := mem_ready.1 hj
 cases hs : sp j
 ·rfl
 ·obtain ⟨e, he, hb, _, hl⟩ := h j oj hs hji hoj hun
  rw [hall e he hb] at hl
  cases hl
theorem Alone.later {i j : Nat} {listed : Array Bool} (h : Alone md ops sp i listed) (hs : sp j = false) : Alone md ops sp i (listed.setIfInBounds j true) := by
 intro k ok hk hki hok hun
 have hjk : j ≠ k := fun e => by rw [e, hk] at hs; cases hs
 rw [getD_set_ne true hjk] at hun
 obtain ⟨e, he, hb, hse, hl⟩ := h k ok hk hki hok hun
 have hje : j ≠ e.on := fun e' => by rw [e', hse] at hs; cases hs
 exact ⟨e, he, hb, hse, by rw [getD_set_ne false hje]; exact hl⟩
theorem first_spine {Q : Act → World → Prop} {i : Nat} {oi : Oper} {p : Value → Prop} {D' : Value → World → Prop} {w0 : World} (hw0 : U w0) (hi : ops[i]? = some oi) (hsi : sp i = true) (hsel : ∀ (j : Nat) (o : Oper) cs b, ops[j]? = some o → o.op ≠ .select cs b) :
 ∀ (fuel : Nat) (listed : Array Bool) (a : Act) (D : World → Prop), FreeOf md ops oi i listed → Alone md ops sp i listed → i ∈ Region.ready md ops listed → Region.wanted oi (yielded ops a.tmps) = true → spineIn P U oi a D p D' →
  (∀ v, p v → wpAnyS P md ops U sp Q fuel (listed.setIfInBounds i true) (a.put oi.dst v) (D' v)) → wpAnyS P md ops U sp Q (fuel + 1) listed a D := by
 intro fuel
 induction fuel with
 | zero =>
  intro listed a D _ _ hr hw hy H
  refine ⟨fun h => (by rw [h] at hr; cases hr), fun j hj => ?_⟩
  by_cases hji : j = i
  ·subst hji
   unfold stageOp
   simp only [hi, if_pos hw]
   unfold stageStep
   rw [if_pos hsi]
   exact ⟨p, D', hy, H⟩
  ·obtain ⟨v0, hv0⟩ := hy.1
   have := ready_mono hj hji
   rw [(H v0 hv0).1] at this
   cases this
 | succ fuel ih =>
  intro listed a D hfree hal hr hw hy H
  refine ⟨fun h => (by rw [h] at hr; cases hr), fun j hj => ?_⟩
  by_cases hji : j = i
  ·subst hji
   unfold stageOp
   simp only [hi, if_pos hw]
   unfold stageStep
   rw [if_pos hsi]
   exact ⟨p, D', hy, H⟩
  ·obtain ⟨hjun, oj, hoj, hall⟩ := mem_ready.1 hj
   have hsj := hal.not_ready hj hji
   have hap := hfree j oj hoj hji hjun (not_after hr hall)
   obtain ⟨h1, h2, h3⟩ := Oper.apart_spec hap
   have seli := fun cs b => hsel i oi cs b hi
   have selj := fun cs b => hsel j oj cs b hoj
   have hw' : ∀ u, Region.wanted oi (yielded ops (a.put oj.dst u).tmps) = true := fun u => by rw [wanted_put oi a oj.dst u h3]; exact hw
   have hy' : ∀ u, spineIn P U oi (a.put oj.dst u) D p D' := fun u => by unfold spineIn at *; rw [execOp_put oi seli a oj.dst u h3]; exact hy
   have hop : ∀ v, p v → stageOp P ops U sp j (wpAnyS P md ops U sp Q fuel ((listed.setIfInBounds i true).setIfInBounds j true)) (a.put oi.dst v) (D' v) := fun v hv => (H v hv).2 j (ready_mono hj hji)
   unfold stageOp at hop ⊢
   simp only [hoj] at hop ⊢
   by_cases hwj : Region.wanted oj (yielded ops a.tmps) = true
   ·rw [if_pos hwj]
    unfold stageStep
    rw [if_neg (by simp [hsj])]
    have hst : ∀ v, p v → ∃ u, stillIn P U oj a u ∧ wpAnyS P md ops U sp Q fuel ((listed.setIfInBounds i true).setIfInBounds j true) ((a.put oi.dst v).put oj.dst u) (D' v) := fun v hv => by
     have h4 := hop v hv
     rw [wanted_put oj a oi.dst v h1, if_pos hwj] at h4
     unfold stageStep at h4
     rw [if_neg (by simp [hsj])] at h4
     obtain ⟨u, hu, hk⟩ := h4
     refine ⟨u, ?_, hk⟩
     unfold stillIn at hu ⊢
     rw [execOp_put oj selj a oi.dst v h1] at hu
     exact hu
    obtain ⟨v0, hv0⟩ := hy.1
    obtain ⟨u, hu, _⟩ := hst v0 hv0
    refine ⟨u, hu, ih (listed.setIfInBounds j true) _ D (hfree.later hjun) (hal.later hsj) (ready_mono hr (Ne.symm hji)) (hw' u) (hy' u) (fun v hv => ?_)⟩
    obtain ⟨u', hu', hk⟩ := hst v hv
    have e : u' = u := by
     have e1 := hu' w0 hw0
     rw [hu w0 hw0] at e1
     simp at e1
     exact e1.symm
    subst e
    rw [← Act.put_comm a v u' h2, Array.setIfInBounds_comm _ _ hji]
    exact hk
   ·rw [if_neg hwj]
    refine ih (listed.setIfInBounds j true) _ D (hfree.later hjun) (hal.later hsj) (ready_mono hr (Ne.symm hji)) (hw' undef) (hy' undef) (fun v hv => ?_)
    have h4 := hop v hv
    rw [wanted_put oj a oi.dst v h1, if_neg hwj] at h4
    rw [← Act.put_comm a v undef h2, Array.setIfInBounds_comm _ _ hji]
    exact h4
def chainB (md : Region.Mode) (ops : Array Oper) (sp : Nat → Bool) : Bool :=
 (List.range ops.size).all fun j => !sp j || (List.range j).all (fun i => !sp i) ||
  match ops[j]? with
  | some oj => oj.after.any fun e => Region.binds md e && sp e.on && decide (e.on < j) && (List.range ops.size).all fun i => !sp i || decide (i ≤ e.on) || decide (j ≤ i)
  | none => true
theorem chain_spec (h : chainB md ops sp = true) {i : Nat} {listed : Array Bool} (hi : sp i = true) (hlow : ∀ j, j < i → listed.getD j false = true) (hhigh' : ∀ j, i ≤ j → j < ops.size → listed.getD j false = false) : Alone md ops sp i listed := by
 intro j oj hs hji hoj hun
 have hjs : j < ops.size := (Array.getElem?_eq_some_iff.1 hoj).1
 unfold chainB at h
 rw [List.all_eq_true] at h
 have h1 := h j (List.mem_range.2 hjs)
 simp only [hs, hoj, Bool.not_true, Bool.false_or, Bool.or_eq_true, List.all_eq_true, List.mem_range, Bool.not_eq_true'] at h1
 by_cases hlt : j < i
 ·have h2 := hlow j hlt
  rcases Nat.lt_or_ge j listed.size with h' | h'
  ·simp [h'] at h2 hun; rw [h2] at hun; cases hun
  ·simp [Array.getElem?_eq_none h'] at h2
 ·have hij : i < j := by omega
  rcases h1 with h1 | h1
  ·have := h1 i hij
   rw [hi] at this; cases this
  ·obtain ⟨e, he, hb⟩ := Array.any_eq_true'.1 h1
   simp only [Bool.and_eq_true, decide_eq_true_eq, List.all_eq_true, List.mem_range, Bool.or_eq_true, Bool.not_eq_true'] at hb
   obtain ⟨⟨⟨hb1, hb2⟩, hb3⟩, hb4⟩ := hb
   have hie : i ≤ e.on := by
    rcases hb4 i (by omega) with (h5 | h5) | h5
    ·rw [hi] at h5; cases h5
    ·exact h5
    ·omega
   exact ⟨e, he, hb1, hb2, hhigh' e.on hie (by omega)⟩
def upto (n k : Nat) : Array Bool := (List.range n).map (fun j => decide (j < k)) |>.toArray
theorem upto_lt {n k j : Nat} (h : j < n) (d : Bool) : (upto n k).getD j d = decide (j < k) := by
 simp [upto, h]
theorem upto_succ {n k : Nat} : (upto n k).setIfInBounds k true = upto n (k + 1) := by
 apply Array.ext
 ·simp [upto]
 ·intro j h1 h2
  have h3 : j < n := by simpa [upto] using h2
  rw [Array.getElem_setIfInBounds (by simpa [upto] using h3)]
  by_cases hj : k = j
  ·simp [hj, upto]
  ·rw [if_neg hj]
   simp [upto]
   omega
theorem upto_zero {n : Nat} : upto n 0 = Array.replicate n false := by
 apply Array.ext
 ·simp [upto]
 ·intro j h1 h2
  simp [upto]
theorem wpAnyS_lex {Q : Act → World → Prop} {w0 : World} (hw0 : U w0) (hs : Region.noSelect ops = true) (hc : chainB md ops sp = true) : ∀ (l : List Oper) (k : Nat) (a : Act) (D : World → Prop), (∀ j, l[j]? = ops[k + j]?) → k + l.length = ops.size →
 Region.lexFrom md ops l.length k (upto ops.size k) = true → wpStage P ops U sp Q l k a D → wpAnyS P md ops U sp Q l.length (upto ops.size k) a D
 | [], _, _, _, _, _, hB, h => ⟨by simpa [Region.lexFrom] using hB, h⟩
 | o :: l, k, a, D, hl, hsz, hB, h => by
  have h0 : ops[k]? = some o := by simpa using (hl 0).symm
  simp only [List.length_cons, Region.lexFrom, Bool.and_eq_true] at hB
  obtain ⟨⟨hr, hf⟩, hB'⟩ := hB
  rw [upto_succ] at hB'
  have hr' : k ∈ Region.ready md ops (upto ops.size k) := by simpa using hr
  have hfree : FreeOf md ops o k (upto ops.size k) := Region.free_spec h0 hf
  have next : ∀ a' D', wpStage P ops U sp Q l (k + 1) a' D' → wpAnyS P md ops U sp Q l.length ((upto ops.size k).setIfInBounds k true) a' D' := fun a' D' hh => by
   rw [upto_succ]
   exact wpAnyS_lex hw0 hs hc l (k + 1) a' D' (fun j => by have := hl (j + 1); simpa [Nat.add_assoc, Nat.add_comm 1 j] using this) (by simp at hsz; omega) hB' hh
  have h' : if Region.wanted o (yielded ops a.tmps) = true then stageStep P U (sp k) o a D (wpStage P ops U sp Q l (k + 1)) else wpStage P ops U sp Q l (k + 1) (a.put o.dst undef) D := h
  by_cases hw : Region.wanted o (yielded ops a.tmps) = true
  ·rw [if_pos hw] at h'
   unfold stageStep at h'
   cases hsp : sp k
   ·rw [hsp] at h'
    obtain ⟨v, hv, hk⟩ := h'
    refine first_still (s := false) h0 (Region.noSelect_spec hs) ?_ l.length _ a D hfree hr' (.inl ⟨rfl, hw, hv⟩) (next _ _ hk)
    intro K a D hy hK
    unfold stageOp
    simp only [h0]
    rcases hy with ⟨_, hw2, hv2⟩ | ⟨hw2, rfl⟩
    ·rw [if_pos hw2]
     unfold stageStep
     rw [hsp]
     exact ⟨v, hv2, hK⟩
    ·rw [if_neg (by simp [hw2])]
     exact hK
   ·rw [hsp] at h'
    obtain ⟨p, D', hy, hk⟩ := h'
    have hks : k < ops.size := by simp at hsz; omega
    refine first_spine hw0 h0 hsp (Region.noSelect_spec hs) l.length _ a D hfree (chain_spec hc hsp (fun j hj => ?_) (fun j hj hjs => ?_)) hr' hw hy (fun v hv => next _ _ (hk v hv))
    ·rw [upto_lt (by omega)]; exact decide_eq_true hj
    ·rw [upto_lt hjs]; exact decide_eq_false (by omega)
  ·rw [if_neg hw] at h'
   have hw' : Region.wanted o (yielded ops a.tmps) = false := by simpa using hw
   refine first_still (s := true) h0 (Region.noSelect_spec hs) ?_ l.length _ a D hfree hr' (.inr ⟨hw', rfl⟩) (next _ _ h')
   intro K a D hy hK
   unfold stageOp
   simp only [h0]
   rcases hy with ⟨hf, _⟩ | ⟨hw2, _⟩
   ·cases hf
   ·rw [if_neg (by simp [hw2])]
    exact hK
theorem wrs {id : Nat} {Q : Exit → Act → World → Prop} {a : Act} {w : World} (U : World → Prop) (sp : Nat → Bool) (D : World → Prop) (hm : P.follows .mixedOrders = true) (hB : Region.lexB .any ops = true) (hc : chainB .any ops sp = true)
 (hU : ∀ w, D w → U w) (hD : D w.drew) (h : wpStage P ops U sp (fun a' w' => Q .normal a' w') ops.toList 0 a D) : (Code.region id ops true).wp P Q a w := by
 simp only [Region.lexB, Bool.and_eq_true] at hB
 have hD' : D { w with drawn := w.drawn + 1 } := hD
 refine wp_region_any hm (wpAny_of_stage (U := U) (sp := sp) (Q := fun a' w' => Q .normal a' w') (fun _ _ h => h) _ _ _ D _ hU hD' ?_)
 have := wpAnyS_lex (md := .any) (hU _ hD') hB.1 hc ops.toList 0 a D (by simp) (by simp) (by rw [upto_zero]; simpa using hB.2) h
 rw [upto_zero] at this
 simpa using this
theorem wsn {Q : Act → World → Prop} {a : Act} {k : Nat} {D : World → Prop} (h : ∀ w, D w → Q a w) : wpStage P ops U sp Q [] k a D := h
theorem wss {Q : Act → World → Prop} {a : Act} {o : Oper} {rest : List Oper} {k : Nat} {D : World → Prop} (hs : sp k = false)
 (h : ∀ K : Act → Prop, (∀ a, wpStage P ops U sp Q rest (k + 1) a D → K a) → if Region.wanted o (yielded ops a.tmps) = true then ∃ v, (∀ w, U w → (execOp a.eval o).run P w = .ok (.value v) w) ∧ K (a.put o.dst v) else K (a.put o.dst undef)) : wpStage P ops U sp Q (o :: rest) k a D := by
 have h1 := h (fun a => wpStage P ops U sp Q rest (k + 1) a D) (fun _ h => h)
 show if _ then _ else _
 by_cases hw : Region.wanted o (yielded ops a.tmps) = true
 ·rw [if_pos hw] at h1 ⊢
  unfold stageStep
  rw [hs]
  exact h1
 ·rw [if_neg hw] at h1 ⊢
  exact h1
theorem wsp {Q : Act → World → Prop} {a : Act} {o : Oper} {rest : List Oper} {k : Nat} {D : World → Prop} (hs : sp k = true) (hg : o.guard = none) (p : Value → Prop) (D' : Value → World → Prop) (hp : ∃ v, p v) (hU : ∀ v w, D' v w → U w)
 (hrun : ∀ w, D w → spineUpon P (fun v w' => p v ∧ D' v w') ((execOp a.eval o).run P w)) (h : ∀ v, p v → wpStage P ops U sp Q rest (k + 1) (a.put o.dst v) (D' v)) : wpStage P ops U sp Q (o :: rest) k a D := by
 show if _ then _ else _
 have hw : Region.wanted o (yielded ops a.tmps) = true := by unfold Region.wanted; rw [hg]
 rw [if_pos hw]
 unfold stageStep
 rw [hs]
 exact ⟨p, D', ⟨hp, hU, hrun⟩, h⟩
end
end Go.Proofs.YtcbnnfeelhlapadGreatDoor

/-
  The contract of fold.New.
-/
namespace Go.Proofs.YtcbnnfeelhlapadGreatDoor
set_option maxRecDepth 20000
open Go.RowKit
theorem run_makeChars (n : Nat) (hn : n ≤ 100000) (w : World) : (Instr.makeSlice 91 (.int .i64 n) (.int .i64 n)).run Tryz.prog w = .ok (.slice (some ⟨w.heap.size, 0, none⟩) n n) (w.alloc (.cells (madeCells zeroCh.cells (n * 7)) 127)) := by
 obtain ⟨i0, hi, hz0, hz1, hz2⟩ := info_parts Tryz.infoChar
 have := run_make (P := Tryz.prog) w 91 127 i0 zeroCh Tryz.underlying91 hi hz0 .i64 .i64 n n (by omega) (Int.le_refl _) (by rw [hz2]; omega) (by omega)
 simp only [Int.toNat_natCast, hz1] at this
 exact this
theorem set_seven (p r : List Value) (x : Ch) (m : Nat) (hm : p.length = m) (hr : 7 ≤ r.length) :
 (((((((p ++ r).set m (.int .u8 x.c)).set (m + 1) (.int .i64 x.by_)).set (m + 2) (.int .i64 x.no)).set (m + 3) (.int .i64 x.k)).set (m + 4) (.int .i64 x.inn)).set (m + 5) (.int .i64 x.out)).set (m + 6) (.int .i64 x.gone) = p ++ chCells x ++ r.drop 7 := by
 subst hm
 match r, hr with
 | r0 :: r1 :: r2 :: r3 :: r4 :: r5 :: r6 :: r, _ =>
  simp [chCells]
theorem newFrom_take (d : Dd) (n : Int) (k : Nat) (h : k < d.text.size) : newFrom d n 0 (d.text.data.toList.take (k + 1)) = newFrom d n 0 (d.text.data.toList.take k) ++ [newCh d n k d.text[k]] := by
 have hk : k < d.text.data.toList.length := h
 rw [List.take_add_one, List.getElem?_eq_getElem hk, Option.toList_some, getB d.text k h, newFrom_snoc, Nat.zero_add, List.length_take]
 congr 3
 omega
structure NInv (w : World) (d : Dd) (n : Int) (k : Nat) (wr : World) : Prop where
 below : Below (w.heap.size + 1) (w.alloc (dObj d)) wr
 own : ∃ r, wr.ownsRow w.heap.size 127 7 (.slice (some ⟨w.heap.size + 1, 0, none⟩) d.text.size d.text.size) d.text.size (cells7 (newFrom d n 0 (d.text.data.toList.take k)) ++ r)
theorem ninv_start (w : World) (d : Dd) (n : Int) (hs : d.text.size ≤ 100000) : NInv w d n 0 ((w.alloc (dObj d)).alloc (.cells (madeCells zeroCh.cells (d.text.size * 7)) 127)) := by
 refine ⟨(Below.refl _ _).alloc (by simp) _, (madeCells zeroCh.cells (d.text.size * 7)).toList, ?_⟩
 rw [List.take_zero]
 have := World.ownsRow_lit (base := w.heap.size) (e := 127) (size := 7) (w.alloc (dObj d)) (madeCells zeroCh.cells (d.text.size * 7)) d.text.size (by simp) (by unfold maxLen; omega) (size_madeCells _ _)
 simpa [newFrom, cells7] using this
theorem NInv.at_ {w wr : World} {d : Dd} {n : Int} {k : Nat} (h : NInv w d n k wr) : DdAt wr w.heap.size 0 d := (ddat_start w d).below (by simpa using h.below)
theorem NInv.step {w wr : World} {d : Dd} {n : Int} {k : Nat} (h : NInv w d n k wr) (hk : k < d.text.size) (x : Ch) (hx : x = newCh d n k d.text[k]) :
 NInv w d n (k + 1) (((((((wr.setCell ⟨w.heap.size + 1, k * 7, none⟩ (.int .u8 x.c)).setCell ⟨w.heap.size + 1, k * 7 + 1, none⟩ (.int .i64 x.by_)).setCell ⟨w.heap.size + 1, k * 7 + 2, none⟩ (.int .i64 x.no)).setCell ⟨w.heap.size + 1, k * 7 + 3, none⟩ (.int .i64 x.k)).setCell ⟨w.heap.size + 1, k * 7 + 4, none⟩ (.int .i64 x.inn)).setCell ⟨w.heap.size + 1, k * 7 + 5, none⟩ (.int .i64 x.out)).setCell ⟨w.heap.size + 1, k * 7 + 6, none⟩ (.int .i64 x.gone)) := by
 obtain ⟨hb, r, ho⟩ := h
 refine ⟨?_, r.drop 7, ?_⟩
 ·exact ((((((hb.setCell (by simp) _).setCell (by simp) _).setCell (by simp) _).setCell (by simp) _).setCell (by simp) _).setCell (by simp) _).setCell (by simp) _
 ·have hl := ho.1
  rw [List.length_append, cells7_len, newFrom_len, List.length_take, size_list] at hl
  have e := set_seven (cells7 (newFrom d n 0 (d.text.data.toList.take k))) r x (k * 7) (by rw [cells7_len, newFrom_len, List.length_take, size_list]; omega) (by omega)
  rw [newFrom_take d n k hk, cells7_app]
  have e2 : cells7 [newCh d n k d.text[k]] = chCells x := by rw [hx]; simp [cells7]
  rw [e2, ← e]
  exact ((((((ho.stored _ _).1.stored _ _).1.stored _ _).1.stored _ _).1.stored _ _).1.stored _ _).1.stored _ _ |>.1
theorem own_spot {w : World} {base g n cap : Nat} {xs : List Value} (h : w.ownsRow base 127 7 (.slice (some ⟨g, 0, none⟩) n cap) n xs) {j : Nat} (hj : j < n * 7) : (∃ u, w.cell? ⟨g, j, none⟩ = some u) ∧ w.frozen? ⟨g, j, none⟩ = false := by
 refine ⟨?_, h.frozenAt j⟩
 rw [h.cellAt j hj]
 exact ⟨_, List.getElem?_eq_getElem (by rw [h.1]; exact hj)⟩
theorem NInv.drew {w wr : World} {d : Dd} {n : Int} {k : Nat} (h : NInv w d n k wr) : NInv w d n k wr.drew := ⟨h.below.drew, h.own⟩
set_option maxHeartbeats 800000 in
theorem new_any (d : Dd) (n : Int) (w : World) (hs : d.text.size ≤ 100000) :
 Calls Tryz.prog 234 #[ddV d, .int .i64 n] w fun e w' => ∃ v, e = .returned v ∧ Own w' w.heap.size v (newL d n) ∧ Below w.heap.size w w' := by
 have HI : Hid _ := ninv_start w d n hs
 have HE : Hid (newFrom d n 0 (d.text.data.toList.take d.text.size) = newL d n) := by show newFrom _ _ _ _ = _; rw [newL, List.take_of_length_le (Nat.le_of_eq (size_list _))]
 obtain ⟨kind, by_, no, seen, at_, many, text⟩ := d
 unfold dObj at HI
 simp only at HI HE hs
 have hmk := run_makeChars text.size hs
 go_enter Tryz.func234, Tryz.ntmps234
 go_wp2
 go_loopw [13] (fun i wr => ∃ k : Nat, k ≤ text.size ∧ i = .int .i64 k ∧ Hid (NInv w ⟨kind, by_, no, seen, at_, many, text⟩ n k wr)) (fun i _ => text.size - (intOf i).toNat)
 case atStart => exact ⟨0, Nat.zero_le _, rfl, HI⟩
 case round =>
  obtain ⟨k, hk, rfl, HK⟩ := hrel
  clear HI hmk
  by_cases hlt : k < text.size
  ·obtain ⟨_, c0, c1, c2, c3, c4, c5, c6⟩ := HK.out.at_
   obtain ⟨r, ho⟩ := HK.out.own
   simp only at ho
   obtain ⟨⟨u0, e0⟩, f0⟩ := own_spot ho (j := k * 7) (by omega)
   obtain ⟨⟨u1, e1⟩, f1⟩ := own_spot ho (j := k * 7 + 1) (by omega)
   obtain ⟨⟨u2, e2⟩, f2⟩ := own_spot ho (j := k * 7 + 2) (by omega)
   obtain ⟨⟨u3, e3⟩, f3⟩ := own_spot ho (j := k * 7 + 3) (by omega)
   obtain ⟨⟨u4, e4⟩, f4⟩ := own_spot ho (j := k * 7 + 4) (by omega)
   obtain ⟨⟨u5, e5⟩, f5⟩ := own_spot ho (j := k * 7 + 5) (by omega)
   obtain ⟨⟨u6, e6⟩, f6⟩ := own_spot ho (j := k * 7 + 6) (by omega)
   clear ho
   simp only [Nat.zero_add] at c0 c1 c2 c3 c4 c5 c6
   go_wp2
   go_region
   have HN : Hid _ := (HK.out.step hlt ⟨text[k].toNat, by_, no, k, n, 0, 0⟩ rfl).drew
   dsimp only at HN
   go_wp2
   go_roundw
   case rel =>
    exact ⟨k + 1, by omega, by go_num, HN⟩
   case measure => simp [intOf]; omega
  ·obtain rfl : k = text.size := by omega
   go_wp2
   go_ret
   obtain ⟨hb, r, ho⟩ := HK.out
   simp only at ho
   rw [HE.out] at ho
   have hr : r = [] := by
    have := ho.1
    rw [List.length_append, cells7_len, newL_len] at this
    exact List.length_eq_zero_iff.1 (by simp only at this; omega)
   rw [hr, List.append_nil] at ho
   refine ⟨_, rfl, ?_, (Below.refl _ _).alloc (Nat.le_refl _) _ |>.trans (hb.mono (by omega))⟩
   unfold Own
   rw [newL_len]
   exact ho
end Go.Proofs.YtcbnnfeelhlapadGreatDoor

/-
  The contracts of within, placed, printed, checkPut, checkTake and Check (package deed), and of the document's DeedFault.
-/
namespace Go.Proofs.YtcbnnfeelhlapadGreatDoor
set_option maxRecDepth 20000
open Go.RowKit
set_option maxHeartbeats 400000 in
theorem dwithin_any (n lo hi : Int) (w : World) :
 Calls Tryz.prog 228 #[.int .i64 n, .int .i64 lo, .int .i64 hi] w fun e w' => e = .returned (.bool (withinB n lo hi)) ∧ w' = w := by
 by_cases h1 : lo ≤ n
 ·by_cases h2 : n ≤ hi
  ·go_enter Tryz.func228, Tryz.ntmps228
   go_wp2
   go_ret
   exact ⟨by simp [withinB, h1, h2], rfl⟩
  ·go_enter Tryz.func228, Tryz.ntmps228
   go_wp2
   go_ret
   exact ⟨by simp [withinB, h2], rfl⟩
 ·go_enter Tryz.func228, Tryz.ntmps228
  go_wp2
  go_ret
  exact ⟨ret_b (by simp [withinB]; omega), rfl⟩
theorem ok_wrap (b : UInt8) : okChar b = withinB (wrap64 b.toNat) 32 126 := by
 have h : b.toNat < 256 := b.toNat_lt
 have e : wrap64 (b.toNat : Int) = b.toNat := by unfold wrap64; omega
 rw [e, okChar, withinB, Bool.eq_iff_iff]
 simp
 omega
set_option maxHeartbeats 400000 in
theorem printed_any (s : ByteArray) (w : World) :
 Calls Tryz.prog 229 #[.string s] w fun e w' => e = .returned (.bool (printedB s)) ∧ w' = w := by
 by_cases hs : 1 ≤ s.size ∧ s.size ≤ 20
 ·obtain ⟨hs1, hs2⟩ := hs
  have hw : withinB s.size 1 20 = true := by simp [withinB]; omega
  go_enter Tryz.func229, Tryz.ntmps229
  go_wp2_with (go_at_call 228; refine (dwithin_any _ _ _ _).mono ?_; rintro e w' ⟨rfl, rfl⟩)
  go_loop [10] (fun i => ∃ k : Nat, k ≤ s.size ∧ i = .int .i64 k ∧ (s.data.toList.take k).all okChar = true) (fun i => s.size - (intOf i).toNat)
  case atStart => exact ⟨0, Nat.zero_le _, rfl, rfl⟩
  case round =>
   obtain ⟨k, hk, rfl, hok⟩ := hrel
   by_cases hlt : k < s.size
   ·have HN : Hid _ := all_take_succ s k hlt
    have HZ : Hid _ := all_no s k hlt
    have HE : Hid _ := ok_wrap s[k]
    go_wp2_with fail
    refine (dwithin_any _ _ _ _).mono ?_
    rintro e w1 ⟨rfl, rfl⟩
    cases hc : withinB (wrap64 s[k].toNat) 32 126
    ·go_wp2
     go_ret
     exact ⟨ret_b (by rw [printedB, HZ.out (by rw [HE.out, hc]), Bool.and_false]), rfl⟩
    ·go_wp2
     go_round
     case rel => exact ⟨k + 1, by omega, by go_num, by rw [HN.out, hok, HE.out, hc]; rfl⟩
     case measure => simp [intOf]; omega
   ·go_wp2
    go_ret
    obtain rfl : k = s.size := by omega
    exact ⟨ret_b (by rw [← size_list, List.take_length] at hok; simp [printedB, hok, hs1, hs2]), rfl⟩
 ·have hw : withinB s.size 1 20 = false := by simp [withinB]; omega
  go_enter Tryz.func229, Tryz.ntmps229
  go_wp2_with (go_at_call 228; refine (dwithin_any _ _ _ _).mono ?_; rintro e w' ⟨rfl, rfl⟩)
  go_ret
  exact ⟨ret_b (by simp [printedB, hs]), rfl⟩
set_option maxHeartbeats 400000 in
theorem placed_any (d : Dd) (w : World) :
 Calls Tryz.prog 209 #[ddV d] w fun e w' => e = .returned (.bool (placedB d)) ∧ Below w.heap.size w w' := by
 obtain ⟨kind, by_, no, seen, at_, many, text⟩ := d
 cases h1 : wrB by_
 ·go_enter Tryz.func209, Tryz.ntmps209
  go_wp2_with (first | (go_at_call 116; refine (writer_any _ _).mono ?_; rintro e w' ⟨rfl, rfl⟩) | (go_at_call 228; refine (dwithin_any _ _ _ _).mono ?_; rintro e w' ⟨rfl, rfl⟩))
  go_ret
  exact ⟨ret_b (by simp [placedB, h1]), (Below.refl _ _).alloc (Nat.le_refl _) _⟩
 ·cases h2 : withinB no 1 120
  ·go_enter Tryz.func209, Tryz.ntmps209
   go_wp2_with (first | (go_at_call 116; refine (writer_any _ _).mono ?_; rintro e w' ⟨rfl, rfl⟩) | (go_at_call 228; refine (dwithin_any _ _ _ _).mono ?_; rintro e w' ⟨rfl, rfl⟩))
   go_ret
   exact ⟨ret_b (by simp [placedB, h1, h2]), (Below.refl _ _).alloc (Nat.le_refl _) _⟩
  ·cases h3 : withinB seen 0 120
   ·go_enter Tryz.func209, Tryz.ntmps209
    go_wp2_with (first | (go_at_call 116; refine (writer_any _ _).mono ?_; rintro e w' ⟨rfl, rfl⟩) | (go_at_call 228; refine (dwithin_any _ _ _ _).mono ?_; rintro e w' ⟨rfl, rfl⟩))
    go_ret
    exact ⟨ret_b (by simp [placedB, h1, h2, h3]), (Below.refl _ _).alloc (Nat.le_refl _) _⟩
   ·go_enter Tryz.func209, Tryz.ntmps209
    go_wp2_with (first | (go_at_call 116; refine (writer_any _ _).mono ?_; rintro e w' ⟨rfl, rfl⟩) | (go_at_call 228; refine (dwithin_any _ _ _ _).mono ?_; rintro e w' ⟨rfl, rfl⟩))
    go_ret
    exact ⟨ret_b (by simp [placedB, h1, h2, h3]), (Below.refl _ _).alloc (Nat.le_refl _) _⟩
set_option maxHeartbeats 400000 in
theorem checkPut_any (d : Dd) (w : World) :
 Calls Tryz.prog 210 #[ddV d] w fun e w' => e = .returned (.int .i64 (putC d)) ∧ Below w.heap.size w w' := by
 obtain ⟨kind, by_, no, seen, at_, many, text⟩ := d
 by_cases h1 : many = 0
 ·have h1' : (many != 0) = false := by simp [h1]
  have H1 : Hid (many = 0) := h1
  clear h1
  cases h2 : printedB text
  all_goals
   go_enter Tryz.func210, Tryz.ntmps210
   go_wp2_with (go_at_call 229; refine (printed_any _ _).mono ?_; rintro e w' ⟨rfl, rfl⟩)
   go_ret
   exact ⟨ret_int (by simp [putC, H1.out, h2]), (Below.refl _ _).alloc (Nat.le_refl _) _⟩
 ·have h1' : (many != 0) = true := by simp [h1]
  have H1 : Hid (many ≠ 0) := h1
  clear h1
  go_enter Tryz.func210, Tryz.ntmps210
  go_wp2
  go_ret
  exact ⟨ret_int (by simp [putC, H1.out]), (Below.refl _ _).alloc (Nat.le_refl _) _⟩
theorem ba_isEmpty (s : ByteArray) : s.toList.isEmpty = decide (s.size = 0) := by
 by_cases h : s.size = 0
 ·rw [ByteArray.toList_eq, ba_empty h]; rfl
 ·rw [ByteArray.toList_eq]
  have : s.data ≠ #[] := fun e => h (by show s.data.size = 0; rw [e]; rfl)
  simp [h, this]
set_option maxHeartbeats 400000 in
theorem checkTake_any (d : Dd) (w : World) :
 Calls Tryz.prog 211 #[ddV d] w fun e w' => e = .returned (.int .i64 (takeC d)) ∧ Below w.heap.size w w' := by
 obtain ⟨kind, by_, no, seen, at_, many, text⟩ := d
 by_cases h1 : text.size = 0
 ·have h1' : text.toList.isEmpty = true := by simp [ba_isEmpty, h1]
  have H1 : Hid (text.size = 0) := h1
  clear h1
  cases h2 : withinB many 1 200
  all_goals
   go_enter Tryz.func211, Tryz.ntmps211
   go_wp2_with (go_at_call 228; refine (dwithin_any _ _ _ _).mono ?_; rintro e w' ⟨rfl, rfl⟩)
   go_ret
   exact ⟨ret_int (by simp [takeC, H1.out, h2]), (Below.refl _ _).alloc (Nat.le_refl _) _⟩
 ·have h1' : text.toList.isEmpty = false := by simp [ba_isEmpty, h1]
  have H1 : Hid (text.size ≠ 0) := h1
  clear h1
  go_enter Tryz.func211, Tryz.ntmps211
  go_wp2
  go_ret
  exact ⟨ret_int (by simp [takeC, H1.out]), (Below.refl _ _).alloc (Nat.le_refl _) _⟩
set_option maxHeartbeats 400000 in
theorem check_any (d : Dd) (w : World) :
 Calls Tryz.prog 183 #[ddV d] w fun e w' => e = .returned (.int .i64 (checkC d)) ∧ Below w.heap.size w w' := by
 by_cases hk : d.kind = 1 ∨ d.kind = 2
 ·cases hp : placedB d
  ·have HC : Hid (checkC d = 1) := by
    show checkC d = 1
    rw [checkC, if_neg (by omega), if_pos hp]
   obtain ⟨kind, by_, no, seen, at_, many, text⟩ := d
   rcases hk with rfl | rfl
   all_goals
    go_enter Tryz.func183, Tryz.ntmps183
    go_wp2_with fail
    refine (placed_any ⟨_, by_, no, seen, at_, many, text⟩ _).mono ?_
    rintro e w1 ⟨rfl, hb⟩
    rw [hp]
    go_wp2
    go_ret
    exact ⟨ret_int HC.out.symm, bla ((Below.refl _ _).alloc (Nat.le_refl _) _) hb⟩
  ·by_cases h1 : d.kind = 1
   ·have HC : Hid (checkC d = putC d) := by
     show checkC d = putC d
     rw [checkC, if_neg (by omega), if_neg (by simp [hp]), if_pos h1]
    obtain ⟨kind, by_, no, seen, at_, many, text⟩ := d
    obtain rfl : kind = 1 := h1
    clear hk
    go_enter Tryz.func183, Tryz.ntmps183
    go_wp2_with fail
    refine (placed_any ⟨_, by_, no, seen, at_, many, text⟩ _).mono ?_
    rintro e w1 ⟨rfl, hb⟩
    rw [hp]
    obtain ⟨hc, hf⟩ := bcell hb
    go_wp2_with fail
    refine (checkPut_any ⟨_, by_, no, seen, at_, many, text⟩ _).mono ?_
    rintro e w2 ⟨rfl, hb2⟩
    clear hc hf
    go_wp2
    go_ret
    exact ⟨ret_int HC.out.symm, bla (bla ((Below.refl _ _).alloc (Nat.le_refl _) _) hb) hb2⟩
   ·have HC : Hid (checkC d = takeC d) := by
     show checkC d = takeC d
     rw [checkC, if_neg (by omega), if_neg (by simp [hp]), if_neg h1]
    obtain ⟨kind, by_, no, seen, at_, many, text⟩ := d
    obtain rfl : kind = 2 := by rcases hk with h | h; exact absurd h h1; exact h
    clear hk h1
    go_enter Tryz.func183, Tryz.ntmps183
    go_wp2_with fail
    refine (placed_any ⟨_, by_, no, seen, at_, many, text⟩ _).mono ?_
    rintro e w1 ⟨rfl, hb⟩
    rw [hp]
    obtain ⟨hc, hf⟩ := bcell hb
    go_wp2_with fail
    refine (checkTake_any ⟨_, by_, no, seen, at_, many, text⟩ _).mono ?_
    rintro e w2 ⟨rfl, hb2⟩
    clear hc hf
    go_wp2
    go_ret
    exact ⟨ret_int HC.out.symm, bla (bla ((Below.refl _ _).alloc (Nat.le_refl _) _) hb) hb2⟩
 ·have HC : Hid (checkC d = 2) := by
   show checkC d = 2
   rw [checkC, if_pos (by omega)]
  obtain ⟨kind, by_, no, seen, at_, many, text⟩ := d
  have h1 : (kind != 1) = true := by simp; intro e; exact hk (.inl e)
  have h2 : (kind != 2) = true := by simp; intro e; exact hk (.inr e)
  clear hk
  go_enter Tryz.func183, Tryz.ntmps183
  go_wp2
  go_ret
  exact ⟨ret_int HC.out.symm, (Below.refl _ _).alloc (Nat.le_refl _) _⟩
end Go.Proofs.YtcbnnfeelhlapadGreatDoor
