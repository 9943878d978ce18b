/-
  A region that draws its order, with a spine, whose last operation waits for all others: what the others read need not hold behind it. No walk of the program.
-/
import Derived.Test.YtnabhdfodckpdacGreatFStage
import Derived.WalkKit
import Derived.WalkSpells
import Derived.WalkLawsBesides
import Derived.Test.YtnabhdfodckpdacGreatRows
import Derived.Deep.QuietTactic
import Derived.BigQuiet
namespace Go.Proofs.YtnabhdfodckpdacGreat
open Go
section
variable {P : Program} {ops : Array Oper} {md : Region.Mode} {U : World → Prop} {sp fin : Nat → Bool}
abbrev behindIt (U : World → Prop) (f : Bool) : World → Prop := fun w => f = true ∨ U w
def finStep (P : Program) (U U' : World → Prop) (s : Bool) (o : Oper) (a : Act) (D : World → Prop) (K : Act → (World → Prop) → Prop) : Prop :=
 if s = true then ∃ p D', spineIn P U' o a D p D' ∧ ∀ v, p v → K (a.put o.dst v) (D' v)
 else ∃ v, stillIn P U o a v ∧ K (a.put o.dst v) D
def wpFin (P : Program) (ops : Array Oper) (U : World → Prop) (sp fin : Nat → Bool) (Q : Act → World → Prop) : List Oper → Nat → Act → (World → Prop) → Prop
 | [], _, a, D => ∀ w, D w → Q a w
 | o :: rest, k, a, D => if Region.wanted o (yielded ops a.tmps) = true then finStep P U (behindIt U (fin k)) (sp k) o a D (wpFin P ops U sp fin Q rest (k + 1)) else wpFin P ops U sp fin Q rest (k + 1) (a.put o.dst undef) D
def finOp (P : Program) (ops : Array Oper) (U : World → Prop) (sp fin : Nat → Bool) (i : Nat) (K : Act → (World → Prop) → Prop) (a : Act) (D : World → Prop) : Prop :=
 match ops[i]? with
 | none => K a D
 | some o => if Region.wanted o (yielded ops a.tmps) = true then finStep P U (behindIt U (fin i)) (sp i) o a D K else K (a.put o.dst undef) D
theorem finStep_mono {U' : World → Prop} {s : Bool} {o : Oper} {a : Act} {D : World → Prop} {K K' : Act → (World → Prop) → Prop} (h : ∀ a D, K a D → K' a D) (hh : finStep P U U' s o a D K) : finStep P U U' s o a D K' := by
 unfold finStep at *
 cases s
 ·obtain ⟨v, h1, h2⟩ := hh
  exact ⟨v, h1, h _ _ h2⟩
 ·obtain ⟨p, D', h1, h2⟩ := hh
  exact ⟨p, D', h1, fun v hv => h _ _ (h2 v hv)⟩
theorem finOp_mono {i : Nat} {a : Act} {D : World → Prop} {K K' : Act → (World → Prop) → Prop} (h : ∀ a D, K a D → K' a D) (hh : finOp P ops U sp fin i K a D) : finOp P ops U sp fin i K' a D := by
 unfold finOp at *
 cases ho : ops[i]? with
 | none => rw [ho] at hh; exact h _ _ hh
 | some o =>
  rw [ho] at hh
  show if _ then _ else _
  have hh' : if Region.wanted o (yielded ops a.tmps) = true then finStep P U (behindIt U (fin i)) (sp i) o a D K else K (a.put o.dst undef) D := hh
  by_cases hw : Region.wanted o (yielded ops a.tmps) = true
  ·rw [if_pos hw] at hh' ⊢; exact finStep_mono h hh'
  ·rw [if_neg hw] at hh' ⊢; exact h _ _ hh'
def wpAnyF (P : Program) (md : Region.Mode) (ops : Array Oper) (U : World → Prop) (sp fin : Nat → Bool) (Q : Act → World → Prop) : Nat → Array Bool → Act → (World → Prop) → Prop
 | 0, listed, a, D => Region.ready md ops listed = [] ∧ ∀ w, D w → Q a w
 | fuel + 1, listed, a, D =>
  (Region.ready md ops listed = [] → ∀ w, D w → Q a w) ∧
  ∀ i ∈ Region.ready md ops listed, finOp P ops U sp fin i (wpAnyF P md ops U sp fin Q fuel (listed.setIfInBounds i true)) a D
theorem wp_of_fin {U' : World → Prop} (hUU : ∀ w, U w → U' w) {s : Bool} {o : Oper} {a : Act} {D : World → Prop} {K : Act → (World → Prop) → Prop} {K' : Act → World → Prop} {Q' : Exit → Act → World → Prop} {w : World} (hDU : ∀ w, D w → U w) (hw : D w)
 (h : ∀ a (D' : World → Prop) w', (∀ w, D' w → U' w) → D' w' → K a D' → K' a w') (hh : finStep P U U' s o a D K) : o.wp P a w K' Q' := by
 unfold finStep at hh
 unfold Oper.wp
 cases s
 ·obtain ⟨v, h1, h2⟩ := hh
  rw [h1 w (hDU w hw)]
  exact h _ D _ (fun w hd => hUU w (hDU w hd)) hw h2
 ·obtain ⟨p, D', ⟨_, hU, h1⟩, h2⟩ := hh
  have h3 := h1 w hw
  generalize (execOp a.eval o).run P w = r at *
  cases r with
  | ok n w' =>
   cases n <;> simp only [spineUpon] at h3 <;> simp only [Oper.upon]
   case value u => exact h _ (D' u) _ (hU u) h3.2 (h2 u h3.1)
   case skip => exact h _ (D' undef) _ (hU undef) h3.2 (h2 undef h3.1)
   case enter f args =>
    exact h3.mono fun e w'' ⟨v, he, hp, hd⟩ => by subst he; exact h _ (D' v) _ (hU v) hd (h2 v hp)
  | halt x w' => simp only [spineUpon] at h3
def Closed (md : Region.Mode) (ops : Array Oper) (listed : Array Bool) : Prop := ∀ (j : Nat) (oj : Oper), ops[j]? = some oj → listed.getD j false = true → ∀ e ∈ oj.after, Region.binds md e = true → listed.getD e.on false = true
theorem getD_stays {listed : Array Bool} {i k : Nat} (h : listed.getD k false = true) : (listed.setIfInBounds i true).getD k false = true := by
 by_cases e : i = k
 ·subst e
  rcases Nat.lt_or_ge i listed.size with h' | h'
  ·simp [h']
  ·simp [Array.getElem?_eq_none h'] at h
 ·rw [getD_set_ne false e]; exact h
theorem Closed.next {i : Nat} {listed : Array Bool} (h : Closed md ops listed) (hi : i ∈ Region.ready md ops listed) : Closed md ops (listed.setIfInBounds i true) := by
 obtain ⟨_, oi, hoi, hall⟩ := mem_ready.1 hi
 intro j oj hoj hl e he hb
 by_cases hji : i = j
 ·subst hji
  rw [hoi] at hoj
  obtain rfl := Option.some.inj hoj
  exact getD_stays (hall e he hb)
 ·rw [getD_set_ne false hji] at hl
  exact getD_stays (h j oj hoj hl e he hb)
def FinOk (md : Region.Mode) (ops : Array Oper) (fin : Nat → Bool) : Prop := ∀ (i : Nat) (listed : Array Bool), Closed md ops listed → fin i = true → i ∈ Region.ready md ops listed → Region.ready md ops (listed.setIfInBounds i true) = []
theorem wpAny_done {Q : Act → World → Prop} {Q' : Exit → Act → World → Prop} (hQ : ∀ a w, Q a w → Q' .normal a w) {fuel : Nat} {listed : Array Bool} {a : Act} {D : World → Prop} {w : World} (hd : D w) (hr : Region.ready md ops listed = []) (h : wpAnyF P md ops U sp fin Q fuel listed a D) : wpAny P md ops Q' fuel listed a w := by
 cases fuel with
 | zero => exact ⟨h.1, hQ _ _ (h.2 _ hd)⟩
 | succ fuel => exact ⟨fun h0 => hQ _ _ (h.1 h0 _ hd), fun i hi => by rw [hr] at hi; cases hi⟩
theorem wpAny_of_fin (hok : FinOk md ops fin) {Q : Act → World → Prop} {Q' : Exit → Act → World → Prop} (hQ : ∀ a w, Q a w → Q' .normal a w) : ∀ (fuel : Nat) (listed : Array Bool) (a : Act) (D : World → Prop) (w : World), Closed md ops listed → (∀ w, D w → U w) → D w →
 wpAnyF P md ops U sp fin Q fuel listed a D → wpAny P md ops Q' fuel listed a w
 | 0, _, _, _, _, _, _, hw, h => ⟨h.1, hQ _ _ (h.2 _ hw)⟩
 | fuel + 1, listed, a, D, w, hcl, hU, hw, h => ⟨fun h0 => hQ _ _ (h.1 h0 _ hw), fun i hi => by
  have h1 := h.2 i hi
  unfold finOp at h1
  unfold wpOp
  cases ho : ops[i]? with
  | none => rw [ho] at h1; exact wpAny_of_fin hok hQ fuel _ _ D _ (hcl.next hi) hU hw h1
  | some o =>
   rw [ho] at h1
   have h2 : if Region.wanted o (yielded ops a.tmps) = true then finStep P U (behindIt U (fin i)) (sp i) o a D (wpAnyF P md ops U sp fin Q fuel (listed.setIfInBounds i true)) else wpAnyF P md ops U sp fin Q fuel (listed.setIfInBounds i true) (a.put o.dst undef) D := h1
   show if _ then _ else _
   by_cases hwt : Region.wanted o (yielded ops a.tmps) = true
   ·rw [if_pos hwt] at h2 ⊢
    exact .inl (wp_of_fin (U' := behindIt U (fin i)) (fun _ h => .inr h) hU hw (fun a' D' w' hU' hd hk => by
     cases hf : fin i
     ·exact wpAny_of_fin hok hQ fuel _ a' D' w' (hcl.next hi) (fun w hd => (hU' w hd).resolve_left (by rw [hf]; simp)) hd hk
     ·exact wpAny_done hQ hd (hok i listed hcl hf hi) hk) h2)
   ·rw [if_neg hwt] at h2 ⊢
    exact wpAny_of_fin hok hQ fuel _ _ D _ (hcl.next hi) hU hw h2⟩
theorem finOp_put {s : Bool} {j : Nat} {oi oj : Oper} {v : Value} (hj : ops[j]? = some oj) (hap : oi.apart ops oj = true)
 (hsi : ∀ cs b, oi.op ≠ .select cs b) (hsj : ∀ cs b, oj.op ≠ .select cs b) {K : Act → (World → Prop) → Prop} {a : Act} {D : World → Prop}
 (hy : LeavesV P ops U s oi v a) (h : finOp P ops U sp fin j K (a.put oi.dst v) D) :
 finOp P ops U sp fin j (fun a' D' => LeavesV P ops U s oi v a' ∧ K (a'.put oi.dst v) D') a D := by
 obtain ⟨h1, h2, h3⟩ := Oper.apart_spec hap
 unfold finOp at *
 simp only [hj] at *
 rw [wanted_put oj a oi.dst v h1] at h
 by_cases hw : Region.wanted oj (yielded ops a.tmps) = true
 ·rw [if_pos hw] at h ⊢
  unfold finStep stillIn spineIn at *
  rw [execOp_put oj hsj a oi.dst v h1] at h
  cases hs : sp j
  ·rw [hs] at h
   obtain ⟨u, hu, hn⟩ := h
   exact ⟨u, hu, hy.put hsi h3, by rw [← Act.put_comm a v u h2]; exact hn⟩
  ·rw [hs] at h
   obtain ⟨p, D', hu, hn⟩ := h
   exact ⟨p, D', hu, fun u hp => ⟨hy.put hsi h3, by rw [← Act.put_comm a v u h2]; exact hn u hp⟩⟩
 ·rw [if_neg hw] at h ⊢
  exact ⟨hy.put hsi h3, by rw [← Act.put_comm a v undef h2]; exact h⟩
theorem first_stillF {s : Bool} {Q : Act → World → Prop} {i : Nat} {oi : Oper} {v : Value} (hi : ops[i]? = some oi) (hsel : ∀ (j : Nat) (o : Oper) cs b, ops[j]? = some o → o.op ≠ .select cs b)
 (hown : ∀ {K : Act → (World → Prop) → Prop} {a : Act} {D : World → Prop}, LeavesV P ops U s oi v a → K (a.put oi.dst v) D → finOp P ops U sp fin i K a D) :
 ∀ (fuel : Nat) (listed : Array Bool) (a : Act) (D : World → Prop), FreeOf md ops oi i listed → i ∈ Region.ready md ops listed → LeavesV P ops U s oi v a →
  wpAnyF P md ops U sp fin Q fuel (listed.setIfInBounds i true) (a.put oi.dst v) D → wpAnyF P md ops U sp fin Q (fuel + 1) listed a D := by
 intro fuel
 induction fuel with
 | zero =>
  intro listed a D _ hr hy H
  refine ⟨fun h => (by rw [h] at hr; cases hr), fun j hj => ?_⟩
  by_cases hji : j = i
  ·subst hji; exact hown hy H
  ·have := ready_mono hj hji
   rw [H.1] at this
   cases this
 | succ fuel ih =>
  intro listed a D hfree hr hy H
  refine ⟨fun h => (by rw [h] at hr; cases hr), fun j hj => ?_⟩
  by_cases hji : j = i
  ·subst hji; exact hown hy H
  ·have h1 := H.2 j (ready_mono hj hji)
   obtain ⟨hjun, oj, hoj, hall⟩ := mem_ready.1 hj
   have h2 := finOp_put hoj (hfree j oj hoj hji hjun (not_after hr hall)) (fun cs b => hsel i oi cs b hi) (fun cs b => hsel j oj cs b hoj) hy h1
   refine finOp_mono (fun a' D' h3 => ih (listed.setIfInBounds j true) a' D' (hfree.later hjun) (ready_mono hr (Ne.symm hji)) h3.1 ?_) h2
   rw [Array.setIfInBounds_comm _ _ hji]
   exact h3.2
theorem first_spineF {Q : Act → World → Prop} {i : Nat} {oi : Oper} {p : Value → Prop} {D' : Value → World → Prop} {w0 : World} (hw0 : U w0) (hi : ops[i]? = some oi) (hsi : sp i = true) (hsel : ∀ (j : Nat) (o : Oper) cs b, ops[j]? = some o → o.op ≠ .select cs b) :
 ∀ (fuel : Nat) (listed : Array Bool) (a : Act) (D : World → Prop), FreeOf md ops oi i listed → Alone md ops sp i listed → i ∈ Region.ready md ops listed → Region.wanted oi (yielded ops a.tmps) = true → spineIn P (behindIt U (fin i)) oi a D p D' →
  (∀ v, p v → wpAnyF P md ops U sp fin Q fuel (listed.setIfInBounds i true) (a.put oi.dst v) (D' v)) → wpAnyF P md ops U sp fin Q (fuel + 1) listed a D := by
 intro fuel
 induction fuel with
 | zero =>
  intro listed a D _ _ hr hw hy H
  refine ⟨fun h => (by rw [h] at hr; cases hr), fun j hj => ?_⟩
  by_cases hji : j = i
  ·subst hji
   unfold finOp
   simp only [hi, if_pos hw]
   unfold finStep
   rw [if_pos hsi]
   exact ⟨p, D', hy, H⟩
  ·obtain ⟨v0, hv0⟩ := hy.1
   have := ready_mono hj hji
   rw [(H v0 hv0).1] at this
   cases this
 | succ fuel ih =>
  intro listed a D hfree hal hr hw hy H
  refine ⟨fun h => (by rw [h] at hr; cases hr), fun j hj => ?_⟩
  by_cases hji : j = i
  ·subst hji
   unfold finOp
   simp only [hi, if_pos hw]
   unfold finStep
   rw [if_pos hsi]
   exact ⟨p, D', hy, H⟩
  ·obtain ⟨hjun, oj, hoj, hall⟩ := mem_ready.1 hj
   have hsj := hal.not_ready hj hji
   have hap := hfree j oj hoj hji hjun (not_after hr hall)
   obtain ⟨h1, h2, h3⟩ := Oper.apart_spec hap
   have seli := fun cs b => hsel i oi cs b hi
   have selj := fun cs b => hsel j oj cs b hoj
   have hw' : ∀ u, Region.wanted oi (yielded ops (a.put oj.dst u).tmps) = true := fun u => by rw [wanted_put oi a oj.dst u h3]; exact hw
   have hy' : ∀ u, spineIn P (behindIt U (fin i)) oi (a.put oj.dst u) D p D' := fun u => by unfold spineIn at *; rw [execOp_put oi seli a oj.dst u h3]; exact hy
   have hop : ∀ v, p v → finOp P ops U sp fin j (wpAnyF P md ops U sp fin Q fuel ((listed.setIfInBounds i true).setIfInBounds j true)) (a.put oi.dst v) (D' v) := fun v hv => (H v hv).2 j (ready_mono hj hji)
   unfold finOp at hop ⊢
   simp only [hoj] at hop ⊢
   by_cases hwj : Region.wanted oj (yielded ops a.tmps) = true
   ·rw [if_pos hwj]
    unfold finStep
    rw [if_neg (by simp [hsj])]
    have hst : ∀ v, p v → ∃ u, stillIn P U oj a u ∧ wpAnyF P md ops U sp fin Q fuel ((listed.setIfInBounds i true).setIfInBounds j true) ((a.put oi.dst v).put oj.dst u) (D' v) := fun v hv => by
     have h4 := hop v hv
     rw [wanted_put oj a oi.dst v h1, if_pos hwj] at h4
     unfold finStep at h4
     rw [if_neg (by simp [hsj])] at h4
     obtain ⟨u, hu, hk⟩ := h4
     refine ⟨u, ?_, hk⟩
     unfold stillIn at hu ⊢
     rw [execOp_put oj selj a oi.dst v h1] at hu
     exact hu
    obtain ⟨v0, hv0⟩ := hy.1
    obtain ⟨u, hu, _⟩ := hst v0 hv0
    refine ⟨u, hu, ih (listed.setIfInBounds j true) _ D (hfree.later hjun) (hal.later hsj) (ready_mono hr (Ne.symm hji)) (hw' u) (hy' u) (fun v hv => ?_)⟩
    obtain ⟨u', hu', hk⟩ := hst v hv
    have e : u' = u := by
     have e1 := hu' w0 hw0
     rw [hu w0 hw0] at e1
     simp at e1
     exact e1.symm
    subst e
    rw [← Act.put_comm a v u' h2, Array.setIfInBounds_comm _ _ hji]
    exact hk
   ·rw [if_neg hwj]
    refine ih (listed.setIfInBounds j true) _ D (hfree.later hjun) (hal.later hsj) (ready_mono hr (Ne.symm hji)) (hw' undef) (hy' undef) (fun v hv => ?_)
    have h4 := hop v hv
    rw [wanted_put oj a oi.dst v h1, if_neg hwj] at h4
    rw [← Act.put_comm a v undef h2, Array.setIfInBounds_comm _ _ hji]
    exact h4
theorem wpAnyF_lex {Q : Act → World → Prop} {w0 : World} (hw0 : U w0) (hs : Region.noSelect ops = true) (hc : chainB md ops sp = true) : ∀ (l : List Oper) (k : Nat) (a : Act) (D : World → Prop), (∀ j, l[j]? = ops[k + j]?) → k + l.length = ops.size →
 Region.lexFrom md ops l.length k (upto ops.size k) = true → wpFin P ops U sp fin Q l k a D → wpAnyF P md ops U sp fin Q l.length (upto ops.size k) a D
 | [], _, _, _, _, _, hB, h => ⟨by simpa [Region.lexFrom] using hB, h⟩
 | o :: l, k, a, D, hl, hsz, hB, h => by
  have h0 : ops[k]? = some o := by simpa using (hl 0).symm
  simp only [List.length_cons, Region.lexFrom, Bool.and_eq_true] at hB
  obtain ⟨⟨hr, hf⟩, hB'⟩ := hB
  rw [upto_succ] at hB'
  have hr' : k ∈ Region.ready md ops (upto ops.size k) := by simpa using hr
  have hfree : FreeOf md ops o k (upto ops.size k) := Region.free_spec h0 hf
  have next : ∀ a' D', wpFin P ops U sp fin Q l (k + 1) a' D' → wpAnyF P md ops U sp fin Q l.length ((upto ops.size k).setIfInBounds k true) a' D' := fun a' D' hh => by
   rw [upto_succ]
   exact wpAnyF_lex hw0 hs hc l (k + 1) a' D' (fun j => by have := hl (j + 1); simpa [Nat.add_assoc, Nat.add_comm 1 j] using this) (by simp at hsz; omega) hB' hh
  have h' : if Region.wanted o (yielded ops a.tmps) = true then finStep P U (behindIt U (fin k)) (sp k) o a D (wpFin P ops U sp fin Q l (k + 1)) else wpFin P ops U sp fin Q l (k + 1) (a.put o.dst undef) D := h
  by_cases hw : Region.wanted o (yielded ops a.tmps) = true
  ·rw [if_pos hw] at h'
   unfold finStep at h'
   cases hsp : sp k
   ·rw [hsp] at h'
    obtain ⟨v, hv, hk⟩ := h'
    refine first_stillF (s := false) h0 (Region.noSelect_spec hs) ?_ l.length _ a D hfree hr' (.inl ⟨rfl, hw, hv⟩) (next _ _ hk)
    intro K a D hy hK
    unfold finOp
    simp only [h0]
    rcases hy with ⟨_, hw2, hv2⟩ | ⟨hw2, rfl⟩
    ·rw [if_pos hw2]
     unfold finStep
     rw [hsp]
     exact ⟨v, hv2, hK⟩
    ·rw [if_neg (by simp [hw2])]
     exact hK
   ·rw [hsp] at h'
    obtain ⟨p, D', hy, hk⟩ := h'
    have hks : k < ops.size := by simp at hsz; omega
    refine first_spineF hw0 h0 hsp (Region.noSelect_spec hs) l.length _ a D hfree (chain_spec hc hsp (fun j hj => ?_) (fun j hj hjs => ?_)) hr' hw hy (fun v hv => next _ _ (hk v hv))
    ·rw [upto_lt (by omega)]; exact decide_eq_true hj
    ·rw [upto_lt hjs]; exact decide_eq_false (by omega)
  ·rw [if_neg hw] at h'
   have hw' : Region.wanted o (yielded ops a.tmps) = false := by simpa using hw
   refine first_stillF (s := true) h0 (Region.noSelect_spec hs) ?_ l.length _ a D hfree hr' (.inr ⟨hw', rfl⟩) (next _ _ h')
   intro K a D hy hK
   unfold finOp
   simp only [h0]
   rcases hy with ⟨hf, _⟩ | ⟨hw2, _⟩
   ·cases hf
   ·rw [if_neg (by simp [hw2])]
    exact hK
def finB (md : Region.Mode) (ops : Array Oper) (fin : Nat → Bool) : Bool :=
 (List.range ops.size).all fun i => !fin i || match ops[i]? with
  | some o => (List.range ops.size).all fun j => decide (j = i) || o.after.any fun e => Region.binds md e && (decide (e.on = j) || match ops[e.on]? with
   | some o2 => o2.after.any fun e2 => Region.binds md e2 && decide (e2.on = j)
   | none => false)
  | none => true
theorem finB_ok (h : finB md ops fin = true) : FinOk md ops fin := by
 intro i listed hcl hf hi
 obtain ⟨hun, oi, hoi, hall⟩ := mem_ready.1 hi
 have his : i < ops.size := (Array.getElem?_eq_some_iff.1 hoi).1
 unfold finB at h
 rw [List.all_eq_true] at h
 have h1 := h i (List.mem_range.2 his)
 simp only [hf, hoi, Bool.not_true, Bool.false_or, List.all_eq_true, List.mem_range, Bool.or_eq_true, decide_eq_true_eq] at h1
 rw [List.eq_nil_iff_forall_not_mem]
 intro j hj
 obtain ⟨hjun, oj, hoj, _⟩ := mem_ready.1 hj
 have hjs : j < ops.size := (Array.getElem?_eq_some_iff.1 hoj).1
 by_cases hji : j = i
 ·subst hji
  rcases Nat.lt_or_ge j listed.size with h' | h'
  ·simp [h'] at hjun
  ·simp [Array.getElem?_eq_none h'] at hun
 ·have h2 := h1 j hjs
  rcases h2 with h2 | h2
  ·exact hji h2
  ·obtain ⟨e, he, hb⟩ := Array.any_eq_true'.1 h2
   simp only [Bool.and_eq_true, Bool.or_eq_true, decide_eq_true_eq] at hb
   have h3' := hall e he hb.1
   have h3 : listed.getD j false = true := by
    rcases hb.2 with hb2 | hb2
    ·rw [hb2] at h3'; exact h3'
    ·cases ho2 : ops[e.on]? with
     | none => rw [ho2] at hb2; cases hb2
     | some o2 =>
      rw [ho2] at hb2
      obtain ⟨e2, he2, hb3⟩ := Array.any_eq_true'.1 hb2
      simp only [Bool.and_eq_true, decide_eq_true_eq] at hb3
      have h4 := hcl e.on o2 ho2 h3' e2 he2 hb3.1
      rw [hb3.2] at h4
      exact h4
   rw [getD_set_ne true (Ne.symm hji)] at hjun
   rcases Nat.lt_or_ge j listed.size with h' | h'
   ·simp [h'] at h3 hjun; rw [h3] at hjun; cases hjun
   ·simp [Array.getElem?_eq_none h'] at h3
theorem wp_region_fin {id : Nat} {Q : Exit → Act → World → Prop} {a : Act} {w : World} (U : World → Prop) (sp fin : Nat → Bool) (D : World → Prop) (hok : finB .any ops fin = true) (hm : P.follows .mixedOrders = true) (hB : Region.lexB .any ops = true) (hc : chainB .any ops sp = true)
 (hU : ∀ w, D w → U w) (hD : D w.drew) (h : wpFin P ops U sp fin (fun a' w' => Q .normal a' w') ops.toList 0 a D) : (Code.region id ops true).wp P Q a w := by
 simp only [Region.lexB, Bool.and_eq_true] at hB
 have hD' : D { w with drawn := w.drawn + 1 } := hD
 refine wp_region_any hm (wpAny_of_fin (U := U) (sp := sp) (fin := fin) (finB_ok hok) (Q := fun a' w' => Q .normal a' w') (fun _ _ h => h) _ _ _ D _ (fun j oj hoj hl => by rcases Nat.lt_or_ge j ops.size with h' | h' <;> simp [h'] at hl) hU hD' ?_)
 have := wpAnyF_lex (md := .any) (hU _ hD') hB.1 hc ops.toList 0 a D (by simp) (by simp) (by rw [upto_zero]; simpa using hB.2) h
 rw [upto_zero] at this
 simpa using this
theorem wpFin_nil {Q : Act → World → Prop} {a : Act} {k : Nat} {D : World → Prop} (h : ∀ w, D w → Q a w) : wpFin P ops U sp fin Q [] k a D := h
theorem wpFin_still {Q : Act → World → Prop} {a : Act} {o : Oper} {rest : List Oper} {k : Nat} {D : World → Prop} (hs : sp k = false)
 (h : ∀ K : Act → Prop, (∀ a, wpFin P ops U sp fin Q rest (k + 1) a D → K a) → if Region.wanted o (yielded ops a.tmps) = true then ∃ v, (∀ w, U w → (execOp a.eval o).run P w = .ok (.value v) w) ∧ K (a.put o.dst v) else K (a.put o.dst undef)) : wpFin P ops U sp fin Q (o :: rest) k a D := by
 have h1 := h (fun a => wpFin P ops U sp fin Q rest (k + 1) a D) (fun _ h => h)
 show if _ then _ else _
 by_cases hw : Region.wanted o (yielded ops a.tmps) = true
 ·rw [if_pos hw] at h1 ⊢
  unfold finStep
  rw [hs]
  exact h1
 ·rw [if_neg hw] at h1 ⊢
  exact h1
theorem wpFin_spine {Q : Act → World → Prop} {a : Act} {o : Oper} {rest : List Oper} {k : Nat} {D : World → Prop} (hs : sp k = true) (hg : o.guard = none) (p : Value → Prop) (D' : Value → World → Prop) (hp : ∃ v, p v) (hU : ∀ v w, D' v w → U w)
 (hrun : ∀ w, D w → spineUpon P (fun v w' => p v ∧ D' v w') ((execOp a.eval o).run P w)) (h : ∀ v, p v → wpFin P ops U sp fin Q rest (k + 1) (a.put o.dst v) (D' v)) : wpFin P ops U sp fin Q (o :: rest) k a D := by
 show if _ then _ else _
 have hw : Region.wanted o (yielded ops a.tmps) = true := by unfold Region.wanted; rw [hg]
 rw [if_pos hw]
 unfold finStep
 rw [hs]
 exact ⟨p, D', ⟨hp, fun v w hd => .inr (hU v w hd), hrun⟩, h⟩
theorem wpFin_last {Q : Act → World → Prop} {a : Act} {o : Oper} {rest : List Oper} {k : Nat} {D : World → Prop} (hs : sp k = true) (hf : fin k = true) (hg : o.guard = none) (p : Value → Prop) (D' : Value → World → Prop) (hp : ∃ v, p v)
 (hrun : ∀ w, D w → spineUpon P (fun v w' => p v ∧ D' v w') ((execOp a.eval o).run P w)) (h : ∀ v, p v → wpFin P ops U sp fin Q rest (k + 1) (a.put o.dst v) (D' v)) : wpFin P ops U sp fin Q (o :: rest) k a D := by
 show if _ then _ else _
 have hw : Region.wanted o (yielded ops a.tmps) = true := by unfold Region.wanted; rw [hg]
 rw [if_pos hw]
 unfold finStep
 rw [hs]
 exact ⟨p, D', ⟨hp, fun _ _ _ => .inl hf, hrun⟩, h⟩
end
end Go.Proofs.YtnabhdfodckpdacGreat

/-
  Plain mathematics of a byte's fate: which bit is in Gone, who knows what, who sees what. No walk.
-/
namespace Go.Proofs.YtnabhdfodckpdacGreat
open Go.RowKit
structure Ch where
 c : Int
 by_ : Int
 no : Int
 k : Int
 inn : Int
 out : Int
 gone : Int
def wrB (w : Int) : Bool := decide (0 ≤ w ∧ w ≤ 3)
def withinB (n lo hi : Int) : Bool := decide (lo ≤ n ∧ n ≤ hi)
def bitB (g w : Int) : Bool := decide (g / 2 ^ w.toNat % 2 = 1)
def tookB (g w : Int) : Bool := wrB w && bitB g w
def inB (i b seen by_ : Int) : Bool := decide (i ≤ seen ∨ b = by_)
def outB (o g seen by_ : Int) : Bool := decide (o ≠ 0 ∧ o ≤ seen) || tookB g by_
def seesB (b i o g seen by_ : Int) : Bool := inB i b seen by_ && !outB o g seen by_
theorem and_bit (n : Int) (k : Nat) (hk : k ≤ 3) : bits .and .i64 n (2 ^ k) = n / 2 ^ k % 2 * 2 ^ k := by
 have h2 : (BitVec.ofInt 64 (2 ^ k)).toNat = 2 ^ k := by
  rcases (show k = 0 ∨ k = 1 ∨ k = 2 ∨ k = 3 by omega) with rfl | rfl | rfl | rfl <;> decide
 have key : (BitVec.ofInt 64 n &&& BitVec.ofInt 64 (2 ^ k)).toNat = (n % ((2 ^ 64 : Nat) : Int)).toNat / 2 ^ k % 2 * 2 ^ k := by
  rw [BitVec.toNat_and, BitVec.toNat_ofInt, h2, nat_bit]
 show IntKind.i64.wrap ((BitVec.ofInt 64 n &&& BitVec.ofInt 64 (2 ^ k)).toNat : Nat) = _
 rw [key, IntKind.wrap_i64]
 rcases (show k = 0 ∨ k = 1 ∨ k = 2 ∨ k = 3 by omega) with rfl | rfl | rfl | rfl <;> simp <;> omega
theorem took_bits (g w : Int) (h0 : 0 ≤ w) (h3 : w ≤ 3) : (bits BinOp.and IntKind.i64 g (IntKind.i64.wrap (2 ^ w.toNat)) != 0) = tookB g w := by
 obtain ⟨k, rfl⟩ := Int.eq_ofNat_of_zero_le h0
 have hk : k ≤ 3 := by omega
 have e : IntKind.i64.wrap ((2 : Int) ^ (k : Int).toNat) = 2 ^ k := by
  rcases (show k = 0 ∨ k = 1 ∨ k = 2 ∨ k = 3 by omega) with rfl | rfl | rfl | rfl <;> decide
 rw [e, and_bit g k hk]
 have hw : wrB (k : Int) = true := by simp [wrB]; omega
 simp only [tookB, bitB, hw, Bool.true_and, Int.toNat_natCast]
 rw [Bool.eq_iff_iff, bne_iff_ne, decide_eq_true_iff]
 rcases (show k = 0 ∨ k = 1 ∨ k = 2 ∨ k = 3 by omega) with rfl | rfl | rfl | rfl <;> simp <;> omega
theorem pow_div_bounds (g : Int) (k : Nat) (h : 0 ≤ g) (h' : g ≤ 9223372036854775807) : 0 ≤ g / 2 ^ k ∧ g / 2 ^ k ≤ 9223372036854775807 := by
 have hp : (0 : Int) < 2 ^ k := Int.pow_pos (by decide)
 refine ⟨Int.ediv_nonneg h (by omega), ?_⟩
 have := Int.ediv_le_self (2 ^ k) h
 omega
theorem half_pow (g : Int) (k : Nat) : g / 2 ^ (k + 1) = g / 2 ^ k / 2 := by
 rw [Int.pow_succ, Int.ediv_ediv_of_nonneg (Int.pow_nonneg (by decide))]
theorem took_end (g : Int) (m : Nat) (h : wrB (m : Int) = true) : (g / 2 ^ m % 2 == 1) = tookB g m := by
 rw [tookB, h, Bool.true_and, bitB, Int.toNat_natCast, Bool.eq_iff_iff]
 simp
theorem took_flip (g n : Int) (h : wrB n = true) : (!tookB (-g - 1) n) = tookB g n := by
 have hn : 0 ≤ n ∧ n ≤ 3 := by simpa [wrB] using h
 rw [tookB, tookB, h, Bool.true_and, Bool.true_and, bitB, bitB]
 rcases (show n = 0 ∨ n = 1 ∨ n = 2 ∨ n = 3 by omega) with rfl | rfl | rfl | rfl <;> rw [Bool.eq_iff_iff] <;> simp <;> omega
theorem took_flip_min (n : Int) (h : wrB n = true) : (!tookB 9223372036854775807 n) = tookB (-9223372036854775808) n := by
 have e : (9223372036854775807 : Int) = - -9223372036854775808 - 1 := by omega
 rw [e]
 exact took_flip (-9223372036854775808) n h
theorem min_wrap : wrap64 (wrap64 9223372036854775808 - 1) = 9223372036854775807 := by decide +kernel
theorem bcell {W w1 : World} (hb : Below W.heap.size W w1) : (∀ b o, b < W.heap.size → w1.cell? ⟨b, o, none⟩ = W.cell? ⟨b, o, none⟩) ∧ (∀ b o, b < W.heap.size → w1.frozen? ⟨b, o, none⟩ = W.frozen? ⟨b, o, none⟩) :=
 ⟨fun b o h => hb.cell (p := ⟨b, o, none⟩) h, fun b o h => hb.frozen (p := ⟨b, o, none⟩) h⟩
theorem bla {w W w1 : World} (h : Below w.heap.size w W) (hb : Below W.heap.size W w1) : Below w.heap.size w w1 :=
 h.trans (hb.mono h.size)
end Go.Proofs.YtnabhdfodckpdacGreat

/-
  The contracts of within, Writer (package chars) and IsWriter.
-/
namespace Go.Proofs.YtnabhdfodckpdacGreat
set_option maxRecDepth 20000
open Go.RowKit
theorem ret_b {a b : Bool} (h : a = b) : Ending.returned (.bool a) = .returned (.bool b) := by rw [h]
theorem ret_int {k : IntKind} {a b : Int} (h : a = b) : Ending.returned (.int k a) = .returned (.int k b) := by rw [h]
set_option maxHeartbeats 400000 in
theorem within_any (n lo hi : Int) (w : World) :
 Calls Tryz.prog 114 #[.int .i64 n, .int .i64 lo, .int .i64 hi] w fun e w' => e = .returned (.bool (withinB n lo hi)) ∧ w' = w := by
 by_cases h1 : lo ≤ n
 ·by_cases h2 : n ≤ hi
  ·go_enter Tryz.func114, Tryz.ntmps114
   go_wp2
   go_ret
   exact ⟨by simp [withinB, h1, h2], rfl⟩
  ·go_enter Tryz.func114, Tryz.ntmps114
   go_wp2
   go_ret
   exact ⟨by simp [withinB, h2], rfl⟩
 ·go_enter Tryz.func114, Tryz.ntmps114
  go_wp2
  go_ret
  exact ⟨ret_b (by simp [withinB]; omega), rfl⟩
set_option maxHeartbeats 400000 in
theorem writer_any (n : Int) (w : World) :
 Calls Tryz.prog 81 #[.int .i64 n] w fun e w' => e = .returned (.bool (wrB n)) ∧ w' = w := by
 go_enter Tryz.func81, Tryz.ntmps81
 go_wp2_with (go_at_call 114; refine (within_any _ _ _ _).mono ?_; rintro e w' ⟨rfl, rfl⟩)
 go_ret
 exact ⟨rfl, rfl⟩
set_option maxHeartbeats 400000 in
theorem isWriter_any (n : Int) (w : World) :
 Calls Tryz.prog 37 #[.int .i64 n] w fun e w' => e = .returned (.bool (wrB n)) ∧ w' = w := by
 by_cases h1 : 0 ≤ n
 ·by_cases h2 : n < 4
  ·go_enter Tryz.func37, Tryz.ntmps37
   go_wp2
   go_ret
   exact ⟨ret_b (by simp [wrB]; omega), rfl⟩
  ·go_enter Tryz.func37, Tryz.ntmps37
   go_wp2
   go_ret
   exact ⟨ret_b (by simp [wrB]; omega), rfl⟩
 ·go_enter Tryz.func37, Tryz.ntmps37
  go_wp2
  go_ret
  exact ⟨ret_b (by simp [wrB]; omega), rfl⟩
end Go.Proofs.YtnabhdfodckpdacGreat

/-
  The contracts of the small functions of package chars: within, Writer, In, tookAway, Out, Sees, Same.
-/
namespace Go.Proofs.YtnabhdfodckpdacGreat
set_option maxRecDepth 20000
open Go.RowKit
abbrev chV (x : Ch) : Value := .agg #[.int .u8 x.c, .int .i64 x.by_, .int .i64 x.no, .int .i64 x.k, .int .i64 x.inn, .int .i64 x.out, .int .i64 x.gone]
set_option maxHeartbeats 400000 in
theorem in_any (x : Ch) (seen by_ : Int) (w : World) :
 Calls Tryz.prog 104 #[chV x, .int .i64 seen, .int .i64 by_] w fun e w' => e = .returned (.bool (inB x.inn x.by_ seen by_)) ∧ Below w.heap.size w w' := by
 obtain ⟨c, b, no, k, i, o, g⟩ := x
 by_cases h1 : i ≤ seen
 ·go_enter Tryz.func104, Tryz.ntmps104
  go_wp2
  go_ret
  exact ⟨by simp [inB, h1], (Below.refl _ _).alloc (Nat.le_refl _) _⟩
 ·by_cases h2 : b = by_
  ·have h2' : (b == by_) = true := by simp [h2]
   clear h2
   go_enter Tryz.func104, Tryz.ntmps104
   go_wp2
   go_ret
   exact ⟨ret_b (by simp [inB]; exact .inr (by simpa using h2')), (Below.refl _ _).alloc (Nat.le_refl _) _⟩
  ·have h2' : (b == by_) = false := by simp [h2]
   go_enter Tryz.func104, Tryz.ntmps104
   go_wp2
   go_ret
   exact ⟨by simp [inB, h1, h2], (Below.refl _ _).alloc (Nat.le_refl _) _⟩
set_option maxHeartbeats 400000 in
theorem took_yes (x : Ch) (by_ : Int) (w : World) (h : wrB by_ = true) :
 Calls Tryz.prog 131 #[chV x, .int .i64 by_] w fun e w' => e = .returned (.bool (tookB x.gone by_)) ∧ Below w.heap.size w w' := by
 obtain ⟨c, b, no, k, i, o, g⟩ := x
 have hb : 0 ≤ by_ ∧ by_ ≤ 3 := by simpa [wrB] using h
 obtain ⟨h0, h3⟩ := hb
 go_enter Tryz.func131, Tryz.ntmps131
 go_wp2
 go_quiet ((go_at_call 81; exact Calls.quiet_of_same (writer_any _ _)))
 go_wp2
 go_ret
 exact ⟨ret_b (took_bits _ _ h0 h3), below_drewN ((Below.refl _ _).alloc (Nat.le_refl _) _) _⟩
set_option maxHeartbeats 400000 in
theorem took_no (x : Ch) (by_ : Int) (w : World) (h : wrB by_ = false) :
 Calls Tryz.prog 131 #[chV x, .int .i64 by_] w fun e w' => e = .returned (.bool (tookB x.gone by_)) ∧ Below w.heap.size w w' := by
 obtain ⟨c, b, no, k, i, o, g⟩ := x
 go_enter Tryz.func131, Tryz.ntmps131
 go_wp2
 go_quiet ((go_at_call 81; exact Calls.quiet_of_same (writer_any _ _)))
 go_wp2
 go_ret
 exact ⟨ret_b (by simp [tookB, h]), below_drewN ((Below.refl _ _).alloc (Nat.le_refl _) _) _⟩
theorem tookAway_any (x : Ch) (by_ : Int) (w : World) :
 Calls Tryz.prog 131 #[chV x, .int .i64 by_] w fun e w' => e = .returned (.bool (tookB x.gone by_)) ∧ Below w.heap.size w w' := by
 cases h : wrB by_
 ·exact took_no x by_ w h
 ·exact took_yes x by_ w h
set_option maxHeartbeats 400000 in
theorem out_any (x : Ch) (seen by_ : Int) (w : World) :
 Calls Tryz.prog 105 #[chV x, .int .i64 seen, .int .i64 by_] w fun e w' => e = .returned (.bool (outB x.out x.gone seen by_)) ∧ Below w.heap.size w w' := by
 obtain ⟨c, b, no, k, i, o, g⟩ := x
 by_cases h1 : o = 0
 ·have h1' : (o != 0) = false := by simp [h1]
  have H1 : Hid (o = 0) := h1
  clear h1
  go_enter Tryz.func105, Tryz.ntmps105
  go_wp2_with (go_at_call 131; refine (tookAway_any ⟨c, b, no, k, i, o, g⟩ _ _).mono ?_; rintro e w' ⟨rfl, hb⟩)
  go_ret
  exact ⟨ret_b (by simp [outB, H1.out]), bla ((Below.refl _ _).alloc (Nat.le_refl _) _) hb⟩
 ·have h1' : (o != 0) = true := by simp [h1]
  have H1 : Hid (o ≠ 0) := h1
  clear h1
  by_cases h2 : o ≤ seen
  ·go_enter Tryz.func105, Tryz.ntmps105
   go_wp2
   go_ret
   exact ⟨ret_b (by simp [outB, H1.out, h2]), (Below.refl _ _).alloc (Nat.le_refl _) _⟩
  ·go_enter Tryz.func105, Tryz.ntmps105
   go_wp2_with (go_at_call 131; refine (tookAway_any ⟨c, b, no, k, i, o, g⟩ _ _).mono ?_; rintro e w' ⟨rfl, hb⟩)
   go_ret
   exact ⟨ret_b (by have : ¬ o ≤ seen := by omega
                    simp [outB, this]), bla ((Below.refl _ _).alloc (Nat.le_refl _) _) hb⟩
set_option maxHeartbeats 400000 in
theorem sees_any (x : Ch) (seen by_ : Int) (w : World) :
 Calls Tryz.prog 62 #[chV x, .int .i64 seen, .int .i64 by_] w fun e w' => e = .returned (.bool (seesB x.by_ x.inn x.out x.gone seen by_)) ∧ Below w.heap.size w w' := by
 obtain ⟨c, b, no, k, i, o, g⟩ := x
 cases hi : inB i b seen by_
 ·go_enter Tryz.func62, Tryz.ntmps62
  go_wp2_with (go_at_call 104; refine (in_any ⟨c, b, no, k, i, o, g⟩ _ _ _).mono ?_; rintro e w' ⟨rfl, hb⟩)
  go_ret
  exact ⟨ret_b (by simp [seesB, hi]), bla ((Below.refl _ _).alloc (Nat.le_refl _) _) hb⟩
 ·go_enter Tryz.func62, Tryz.ntmps62
  go_wp2_with fail
  refine (in_any ⟨c, b, no, k, i, o, g⟩ _ _ _).mono ?_
  rintro e w1 ⟨rfl, hb⟩
  obtain ⟨hc, hf⟩ := bcell hb
  go_wp2_with fail
  refine (out_any ⟨c, b, no, k, i, o, g⟩ _ _ _).mono ?_
  rintro e w2 ⟨rfl, hb2⟩
  clear hc hf
  go_wp2
  go_ret
  exact ⟨ret_b (by simp [seesB, hi]), bla (bla ((Below.refl _ _).alloc (Nat.le_refl _) _) hb) hb2⟩
set_option maxHeartbeats 400000 in
theorem refTook_no (g n : Int) (w : World) (h : wrB n = false) :
 Calls Tryz.prog 144 #[.int .i64 g, .int .i64 n] w fun e w' => e = .returned (.bool (tookB g n)) ∧ w' = w := by
 go_enter Tryz.func144, Tryz.ntmps144
 go_wp2_with (go_at_call 37; refine (isWriter_any _ _).mono ?_; rintro e w' ⟨rfl, rfl⟩)
 go_ret
 exact ⟨ret_b (by simp [tookB, h]), rfl⟩
set_option maxHeartbeats 400000 in
theorem refTook_pos (g n : Int) (w : World) (h : wrB n = true) (hg : 0 ≤ g) (hg' : g ≤ 9223372036854775807) :
 Calls Tryz.prog 144 #[.int .i64 g, .int .i64 n] w fun e w' => e = .returned (.bool (tookB g n)) ∧ w' = w := by
 have hn : 0 ≤ n ∧ n ≤ 3 := by simpa [wrB] using h
 obtain ⟨n0, n3⟩ := hn
 obtain ⟨m, rfl⟩ := Int.eq_ofNat_of_zero_le n0
 go_enter Tryz.func144, Tryz.ntmps144
 go_wp2_with (go_at_call 37; refine (isWriter_any _ _).mono ?_; rintro e w' ⟨rfl, rfl⟩)
 go_loop [0, 5] (fun t i => ∃ k : Nat, k ≤ m ∧ i = .int .i64 k ∧ t = .int .i64 (g / 2 ^ k)) (fun _ i => m - (intOf i).toNat)
 case atStart => exact ⟨0, Nat.zero_le _, rfl, by simp⟩
 case round =>
  obtain ⟨k, hk, rfl, rfl⟩ := hrel
  have hd := pow_div_bounds g k hg hg'
  obtain ⟨hd0, hd1⟩ := hd
  by_cases hlt : k < m
  ·go_wp2
   go_round
   case rel => exact ⟨k + 1, by omega, by go_num, by rw [half_pow]⟩
   case measure => simp [intOf]; omega
  ·go_wp2
   go_ret
   obtain rfl : k = m := by omega
   exact ⟨ret_b (took_end g k h), rfl⟩
set_option maxHeartbeats 400000 in
theorem refTook_neg (g n : Int) (w : World) (h : wrB n = true) (hg : g < 0) (hg' : -9223372036854775808 ≤ g) :
 Calls Tryz.prog 144 #[.int .i64 g, .int .i64 n] w fun e w' => e = .returned (.bool (tookB g n)) ∧ w' = w := by
 by_cases hm : g = -9223372036854775808
 ·subst hm
  go_enter Tryz.func144, Tryz.ntmps144
  go_wp2_with fail
  refine (isWriter_any _ _).mono ?_
  rintro e w' ⟨rfl, rfl⟩
  go_wp2_with fail
  rw [min_wrap]
  refine (refTook_pos 9223372036854775807 _ _ h (by omega) (by omega)).mono ?_
  rintro e w' ⟨rfl, rfl⟩
  go_wp2
  go_ret
  exact ⟨ret_b (took_flip_min n h), rfl⟩
 ·go_enter Tryz.func144, Tryz.ntmps144
  go_wp2_with fail
  refine (isWriter_any _ _).mono ?_
  rintro e w' ⟨rfl, rfl⟩
  go_wp2_with fail
  refine (refTook_pos _ _ _ h (by omega) (by omega)).mono ?_
  rintro e w' ⟨rfl, rfl⟩
  go_wp2
  go_ret
  exact ⟨ret_b (took_flip g n h), rfl⟩
theorem refTook_any (g n : Int) (w : World) (hg : -9223372036854775808 ≤ g) (hg' : g ≤ 9223372036854775807) :
 Calls Tryz.prog 144 #[.int .i64 g, .int .i64 n] w fun e w' => e = .returned (.bool (tookB g n)) ∧ w' = w := by
 cases h : wrB n
 ·exact refTook_no g n w h
 ·by_cases h0 : 0 ≤ g
  ·exact refTook_pos g n w h h0 hg'
  ·exact refTook_neg g n w h (by omega) hg
end Go.Proofs.YtnabhdfodckpdacGreat
