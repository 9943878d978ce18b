/-
  Steps of a staged walk in a large frame: the frame is never simplified over, and is written out behind each step (by the library's step over a plain move).
-/
import Derived.Test.YtcbnnfeelhlapadGreatDoorFLate
import Derived.BigQuiet
import Derived.Test.YtcbnnfeelhlapadGreatDoorDLeaf
namespace Go.Proofs.YtcbnnfeelhlapadGreatDoor
open Go
section
variable {P : Program} {ops : Array Oper} {U0 : Cls} {sp lt : Nat → Bool}
theorem put_of_quiet {d : Option Tmp} {v : Value} {a : Act} {K : Act → Prop} (w0 : World) (h : Oper.quiet P ⟨d, .move (.const v), 0, "", #[], none⟩ a (fun _ => True) K) : K (a.put d v) := by
 obtain ⟨v', hq, hk⟩ := h
 have h1 := hq w0 trivial
 unfold Oper.quietAt at h1
 rw [BigFrame.run_move (.const v) rfl] at h1
 obtain ⟨_, h2⟩ := h1
 have h3 : v = v' := h2
 subst h3
 exact hk
theorem wlb {Q : Act → World → Prop} {a : Act} {o : Oper} {rest : List Oper} {k : Nat} {U D : Cls} (d : Option Tmp) (w0 : World) (hs : (sp k || lt k) = false) (v : Value) (hd : o.dst = d) (hw : Region.wanted o (yielded ops a.tmps) = true)
 (hrun : ∀ w, U0 w → (execOp a.eval o).run P w = .ok (.value v) w) (h : Oper.quiet P ⟨d, .move (.const v), 0, "", #[], none⟩ a (fun _ => True) (fun a' => wpLate P ops U0 sp lt Q rest (k + 1) a' U D)) : wpLate P ops U0 sp lt Q (o :: rest) k a U D :=
 wpLate_still hs fun K hK => by
  rw [if_pos hw]
  refine ⟨v, hrun, hK _ ?_⟩
  rw [hd]
  exact put_of_quiet w0 h
theorem wls {Q : Act → World → Prop} {a : Act} {o : Oper} {rest : List Oper} {k : Nat} {U D : Cls} (d : Option Tmp) (w0 : World) (hs : sp k = true) (hd : o.dst = d) (hw : Region.wanted o (yielded ops a.tmps) = true) (p : Value → Prop) (U' D' : Value → Cls) (hp : ∃ v, p v) (hU : ∀ v w, U' v w → U w) (hD : ∀ v w, D' v w → U' v w)
 (hrun : ∀ w, D w → spineUpon P (fun v w' => p v ∧ D' v w') ((execOp a.eval o).run P w)) (h : ∀ v, p v → Oper.quiet P ⟨d, .move (.const v), 0, "", #[], none⟩ a (fun _ => True) (fun a' => wpLate P ops U0 sp lt Q rest (k + 1) a' (U' v) (D' v))) : wpLate P ops U0 sp lt Q (o :: rest) k a U D :=
 wpLate_spine hs hw p U' D' hp hU hD hrun fun v hv => by
  rw [hd]
  exact put_of_quiet w0 (h v hv)
end
end Go.Proofs.YtcbnnfeelhlapadGreatDoor

/-
  A region that draws its order, with a spine, whose last operation waits for all others: what the others read need not hold behind it. No walk of the program.
-/
namespace Go.Proofs.YtcbnnfeelhlapadGreatDoor
open Go
section
variable {P : Program} {ops : Array Oper} {md : Region.Mode} {U : World → Prop} {sp fin : Nat → Bool}
abbrev behindIt (U : World → Prop) (f : Bool) : World → Prop := fun w => f = true ∨ U w
def finStep (P : Program) (U U' : World → Prop) (s : Bool) (o : Oper) (a : Act) (D : World → Prop) (K : Act → (World → Prop) → Prop) : Prop :=
 if s = true then ∃ p D', spineIn P U' o a D p D' ∧ ∀ v, p v → K (a.put o.dst v) (D' v)
 else ∃ v, stillIn P U o a v ∧ K (a.put o.dst v) D
def wpFin (P : Program) (ops : Array Oper) (U : World → Prop) (sp fin : Nat → Bool) (Q : Act → World → Prop) : List Oper → Nat → Act → (World → Prop) → Prop
 | [], _, a, D => ∀ w, D w → Q a w
 | o :: rest, k, a, D => if Region.wanted o (yielded ops a.tmps) = true then finStep P U (behindIt U (fin k)) (sp k) o a D (wpFin P ops U sp fin Q rest (k + 1)) else wpFin P ops U sp fin Q rest (k + 1) (a.put o.dst undef) D
def finOp (P : Program) (ops : Array Oper) (U : World → Prop) (sp fin : Nat → Bool) (i : Nat) (K : Act → (World → Prop) → Prop) (a : Act) (D : World → Prop) : Prop :=
 match ops[i]? with
 | none => K a D
 | some o => if Region.wanted o (yielded ops a.tmps) = true then finStep P U (behindIt U (fin i)) (sp i) o a D K else K (a.put o.dst undef) D
theorem finStep_mono {U' : World → Prop} {s : Bool} {o : Oper} {a : Act} {D : World → Prop} {K K' : Act → (World → Prop) → Prop} (h : ∀ a D, K a D → K' a D) (hh : finStep P U U' s o a D K) : finStep P U U' s o a D K' := by
 unfold finStep at *
 cases s
 ·obtain ⟨v, h1, h2⟩ := hh
  exact ⟨v, h1, h _ _ h2⟩
 ·obtain ⟨p, D', h1, h2⟩ := hh
  exact ⟨p, D', h1, fun v hv => h _ _ (h2 v hv)⟩
theorem finOp_mono {i : Nat} {a : Act} {D : World → Prop} {K K' : Act → (World → Prop) → Prop} (h : ∀ a D, K a D → K' a D) (hh : finOp P ops U sp fin i K a D) : finOp P ops U sp fin i K' a D := by
 unfold finOp at *
 cases ho : ops[i]? with
 | none => rw [ho] at hh; exact h _ _ hh
 | some o =>
  rw [ho] at hh
  show if _ then _ else _
  have hh' : if Region.wanted o (yielded ops a.tmps) = true then finStep P U (behindIt U (fin i)) (sp i) o a D K else K (a.put o.dst undef) D := hh
  by_cases hw : Region.wanted o (yielded ops a.tmps) = true
  ·rw [if_pos hw] at hh' ⊢; exact finStep_mono h hh'
  ·rw [if_neg hw] at hh' ⊢; exact h _ _ hh'
def wpAnyF (P : Program) (md : Region.Mode) (ops : Array Oper) (U : World → Prop) (sp fin : Nat → Bool) (Q : Act → World → Prop) : Nat → Array Bool → Act → (World → Prop) → Prop
 | 0, listed, a, D => Region.ready md ops listed = [] ∧ ∀ w, D w → Q a w
 | fuel + 1, listed, a, D =>
  (Region.ready md ops listed = [] → ∀ w, D w → Q a w) ∧
  ∀ i ∈ Region.ready md ops listed, finOp P ops U sp fin i (wpAnyF P md ops U sp fin Q fuel (listed.setIfInBounds i true)) a D
theorem wp_of_fin {U' : World → Prop} (hUU : ∀ w, U w → U' w) {s : Bool} {o : Oper} {a : Act} {D : World → Prop} {K : Act → (World → Prop) → Prop} {K' : Act → World → Prop} {Q' : Exit → Act → World → Prop} {w : World} (hDU : ∀ w, D w → U w) (hw : D w)
 (h : ∀ a (D' : World → Prop) w', (∀ w, D' w → U' w) → D' w' → K a D' → K' a w') (hh : finStep P U U' s o a D K) : o.wp P a w K' Q' := by
 unfold finStep at hh
 unfold Oper.wp
 cases s
 ·obtain ⟨v, h1, h2⟩ := hh
  rw [h1 w (hDU w hw)]
  exact h _ D _ (fun w hd => hUU w (hDU w hd)) hw h2
 ·obtain ⟨p, D', ⟨_, hU, h1⟩, h2⟩ := hh
  have h3 := h1 w hw
  generalize (execOp a.eval o).run P w = r at *
  cases r with
  | ok n w' =>
   cases n <;> simp only [spineUpon] at h3 <;> simp only [Oper.upon]
   case value u => exact h _ (D' u) _ (hU u) h3.2 (h2 u h3.1)
   case skip => exact h _ (D' undef) _ (hU undef) h3.2 (h2 undef h3.1)
   case enter f args =>
    exact h3.mono fun e w'' ⟨v, he, hp, hd⟩ => by subst he; exact h _ (D' v) _ (hU v) hd (h2 v hp)
  | halt x w' => simp only [spineUpon] at h3
def Closed (md : Region.Mode) (ops : Array Oper) (listed : Array Bool) : Prop := ∀ (j : Nat) (oj : Oper), ops[j]? = some oj → listed.getD j false = true → ∀ e ∈ oj.after, Region.binds md e = true → listed.getD e.on false = true
theorem getD_stays {listed : Array Bool} {i k : Nat} (h : listed.getD k false = true) : (listed.setIfInBounds i true).getD k false = true := by
 by_cases e : i = k
 ·subst e
  rcases Nat.lt_or_ge i listed.size with h' | h'
  ·simp [h']
  ·simp [Array.getElem?_eq_none h'] at h
 ·rw [getD_set_ne false e]; exact h
theorem Closed.next {i : Nat} {listed : Array Bool} (h : Closed md ops listed) (hi : i ∈ Region.ready md ops listed) : Closed md ops (listed.setIfInBounds i true) := by
 obtain ⟨_, oi, hoi, hall⟩ := mem_ready.1 hi
 intro j oj hoj hl e he hb
 by_cases hji : i = j
 ·subst hji
  rw [hoi] at hoj
  obtain rfl := Option.some.inj hoj
  exact getD_stays (hall e he hb)
 ·rw [getD_set_ne false hji] at hl
  exact getD_stays (h j oj hoj hl e he hb)
def FinOk (md : Region.Mode) (ops : Array Oper) (fin : Nat → Bool) : Prop := ∀ (i : Nat) (listed : Array Bool), Closed md ops listed → fin i = true → i ∈ Region.ready md ops listed → Region.ready md ops (listed.setIfInBounds i true) = []
theorem wpAny_done {Q : Act → World → Prop} {Q' : Exit → Act → World → Prop} (hQ : ∀ a w, Q a w → Q' .normal a w) {fuel : Nat} {listed : Array Bool} {a : Act} {D : World → Prop} {w : World} (hd : D w) (hr : Region.ready md ops listed = []) (h : wpAnyF P md ops U sp fin Q fuel listed a D) : wpAny P md ops Q' fuel listed a w := by
 cases fuel with
 | zero => exact ⟨h.1, hQ _ _ (h.2 _ hd)⟩
 | succ fuel => exact ⟨fun h0 => hQ _ _ (h.1 h0 _ hd), fun i hi => by rw [hr] at hi; cases hi⟩
theorem wpAny_of_fin (hok : FinOk md ops fin) {Q : Act → World → Prop} {Q' : Exit → Act → World → Prop} (hQ : ∀ a w, Q a w → Q' .normal a w) : ∀ (fuel : Nat) (listed : Array Bool) (a : Act) (D : World → Prop) (w : World), Closed md ops listed → (∀ w, D w → U w) → D w →
 wpAnyF P md ops U sp fin Q fuel listed a D → wpAny P md ops Q' fuel listed a w
 | 0, _, _, _, _, _, _, hw, h => ⟨h.1, hQ _ _ (h.2 _ hw)⟩
 | fuel + 1, listed, a, D, w, hcl, hU, hw, h => ⟨fun h0 => hQ _ _ (h.1 h0 _ hw), fun i hi => by
  have h1 := h.2 i hi
  unfold finOp at h1
  unfold wpOp
  cases ho : ops[i]? with
  | none => rw [ho] at h1; exact wpAny_of_fin hok hQ fuel _ _ D _ (hcl.next hi) hU hw h1
  | some o =>
   rw [ho] at h1
   have h2 : if Region.wanted o (yielded ops a.tmps) = true then finStep P U (behindIt U (fin i)) (sp i) o a D (wpAnyF P md ops U sp fin Q fuel (listed.setIfInBounds i true)) else wpAnyF P md ops U sp fin Q fuel (listed.setIfInBounds i true) (a.put o.dst undef) D := h1
   show if _ then _ else _
   by_cases hwt : Region.wanted o (yielded ops a.tmps) = true
   ·rw [if_pos hwt] at h2 ⊢
    exact .inl (wp_of_fin (U' := behindIt U (fin i)) (fun _ h => .inr h) hU hw (fun a' D' w' hU' hd hk => by
     cases hf : fin i
     ·exact wpAny_of_fin hok hQ fuel _ a' D' w' (hcl.next hi) (fun w hd => (hU' w hd).resolve_left (by rw [hf]; simp)) hd hk
     ·exact wpAny_done hQ hd (hok i listed hcl hf hi) hk) h2)
   ·rw [if_neg hwt] at h2 ⊢
    exact wpAny_of_fin hok hQ fuel _ _ D _ (hcl.next hi) hU hw h2⟩
theorem finOp_put {s : Bool} {j : Nat} {oi oj : Oper} {v : Value} (hj : ops[j]? = some oj) (hap : oi.apart ops oj = true)
 (hsi : ∀ cs b, oi.op ≠ .select cs b) (hsj : ∀ cs b, oj.op ≠ .select cs b) {K : Act → (World → Prop) → Prop} {a : Act} {D : World → Prop}
 (hy : LeavesV P ops U s oi v a) (h : finOp P ops U sp fin j K (a.put oi.dst v) D) :
 finOp P ops U sp fin j (fun a' D' => LeavesV P ops U s oi v a' ∧ K (a'.put oi.dst v) D') a D := by
 obtain ⟨h1, h2, h3⟩ := Oper.apart_spec hap
 unfold finOp at *
 simp only [hj] at *
 rw [wanted_put oj a oi.dst v h1] at h
 by_cases hw : Region.wanted oj (yielded ops a.tmps) = true
 ·rw [if_pos hw] at h ⊢
  unfold finStep stillIn spineIn at *
  rw [execOp_put oj hsj a oi.dst v h1] at h
  cases hs : sp j
  ·rw [hs] at h
   obtain ⟨u, hu, hn⟩ := h
   exact ⟨u, hu, hy.put hsi h3, by rw [← Act.put_comm a v u h2]; exact hn⟩
  ·rw [hs] at h
   obtain ⟨p, D', hu, hn⟩ := h
   exact ⟨p, D', hu, fun u hp => ⟨hy.put hsi h3, by rw [← Act.put_comm a v u h2]; exact hn u hp⟩⟩
 ·rw [if_neg hw] at h ⊢
  exact ⟨hy.put hsi h3, by rw [← Act.put_comm a v undef h2]; exact h⟩
theorem first_stillF {s : Bool} {Q : Act → World → Prop} {i : Nat} {oi : Oper} {v : Value} (hi : ops[i]? = some oi) (hsel : ∀ (j : Nat) (o : Oper) cs b, ops[j]? = some o → o.op ≠ .select cs b)
 (hown : ∀ {K : Act → (World → Prop) → Prop} {a : Act} {D : World → Prop}, LeavesV P ops U s oi v a → K (a.put oi.dst v) D → finOp P ops U sp fin i K a D) :
 ∀ (fuel : Nat) (listed : Array Bool) (a : Act) (D : World → Prop), FreeOf md ops oi i listed → i ∈ Region.ready md ops listed → LeavesV P ops U s oi v a →
  wpAnyF P md ops U sp fin Q fuel (listed.setIfInBounds i true) (a.put oi.dst v) D → wpAnyF P md ops U sp fin Q (fuel + 1) listed a D := by
 intro fuel
 induction fuel with
 | zero =>
  intro listed a D _ hr hy H
  refine ⟨fun h => (by rw [h] at hr; cases hr), fun j hj => ?_⟩
  by_cases hji : j = i
  ·subst hji; exact hown hy H
  ·have := ready_mono hj hji
   rw [H.1] at this
   cases this
 | succ fuel ih =>
  intro listed a D hfree hr hy H
  refine ⟨fun h => (by rw [h] at hr; cases hr), fun j hj => ?_⟩
  by_cases hji : j = i
  ·subst hji; exact hown hy H
  ·have h1 := H.2 j (ready_mono hj hji)
   obtain ⟨hjun, oj, hoj, hall⟩ := mem_ready.1 hj
   have h2 := finOp_put hoj (hfree j oj hoj hji hjun (not_after hr hall)) (fun cs b => hsel i oi cs b hi) (fun cs b => hsel j oj cs b hoj) hy h1
   refine finOp_mono (fun a' D' h3 => ih (listed.setIfInBounds j true) a' D' (hfree.later hjun) (ready_mono hr (Ne.symm hji)) h3.1 ?_) h2
   rw [Array.setIfInBounds_comm _ _ hji]
   exact h3.2
theorem first_spineF {Q : Act → World → Prop} {i : Nat} {oi : Oper} {p : Value → Prop} {D' : Value → World → Prop} {w0 : World} (hw0 : U w0) (hi : ops[i]? = some oi) (hsi : sp i = true) (hsel : ∀ (j : Nat) (o : Oper) cs b, ops[j]? = some o → o.op ≠ .select cs b) :
 ∀ (fuel : Nat) (listed : Array Bool) (a : Act) (D : World → Prop), FreeOf md ops oi i listed → Alone md ops sp i listed → i ∈ Region.ready md ops listed → Region.wanted oi (yielded ops a.tmps) = true → spineIn P (behindIt U (fin i)) oi a D p D' →
  (∀ v, p v → wpAnyF P md ops U sp fin Q fuel (listed.setIfInBounds i true) (a.put oi.dst v) (D' v)) → wpAnyF P md ops U sp fin Q (fuel + 1) listed a D := by
 intro fuel
 induction fuel with
 | zero =>
  intro listed a D _ _ hr hw hy H
  refine ⟨fun h => (by rw [h] at hr; cases hr), fun j hj => ?_⟩
  by_cases hji : j = i
  ·subst hji
   unfold finOp
   simp only [hi, if_pos hw]
   unfold finStep
   rw [if_pos hsi]
   exact ⟨p, D', hy, H⟩
  ·obtain ⟨v0, hv0⟩ := hy.1
   have := ready_mono hj hji
   rw [(H v0 hv0).1] at this
   cases this
 | succ fuel ih =>
  intro listed a D hfree hal hr hw hy H
  refine ⟨fun h => (by rw [h] at hr; cases hr), fun j hj => ?_⟩
  by_cases hji : j = i
  ·subst hji
   unfold finOp
   simp only [hi, if_pos hw]
   unfold finStep
   rw [if_pos hsi]
   exact ⟨p, D', hy, H⟩
  ·obtain ⟨hjun, oj, hoj, hall⟩ := mem_ready.1 hj
   have hsj := hal.not_ready hj hji
   have hap := hfree j oj hoj hji hjun (not_after hr hall)
   obtain ⟨h1, h2, h3⟩ := Oper.apart_spec hap
   have seli := fun cs b => hsel i oi cs b hi
   have selj := fun cs b => hsel j oj cs b hoj
   have hw' : ∀ u, Region.wanted oi (yielded ops (a.put oj.dst u).tmps) = true := fun u => by rw [wanted_put oi a oj.dst u h3]; exact hw
   have hy' : ∀ u, spineIn P (behindIt U (fin i)) oi (a.put oj.dst u) D p D' := fun u => by unfold spineIn at *; rw [execOp_put oi seli a oj.dst u h3]; exact hy
   have hop : ∀ v, p v → finOp P ops U sp fin j (wpAnyF P md ops U sp fin Q fuel ((listed.setIfInBounds i true).setIfInBounds j true)) (a.put oi.dst v) (D' v) := fun v hv => (H v hv).2 j (ready_mono hj hji)
   unfold finOp at hop ⊢
   simp only [hoj] at hop ⊢
   by_cases hwj : Region.wanted oj (yielded ops a.tmps) = true
   ·rw [if_pos hwj]
    unfold finStep
    rw [if_neg (by simp [hsj])]
    have hst : ∀ v, p v → ∃ u, stillIn P U oj a u ∧ wpAnyF P md ops U sp fin Q fuel ((listed.setIfInBounds i true).setIfInBounds j true) ((a.put oi.dst v).put oj.dst u) (D' v) := fun v hv => by
     have h4 := hop v hv
     rw [wanted_put oj a oi.dst v h1, if_pos hwj] at h4
     unfold finStep at h4
     rw [if_neg (by simp [hsj])] at h4
     obtain ⟨u, hu, hk⟩ := h4
     refine ⟨u, ?_, hk⟩
     unfold stillIn at hu ⊢
     rw [execOp_put oj selj a oi.dst v h1] at hu
     exact hu
    obtain ⟨v0, hv0⟩ := hy.1
    obtain ⟨u, hu, _⟩ := hst v0 hv0
    refine ⟨u, hu, ih (listed.setIfInBounds j true) _ D (hfree.later hjun) (hal.later hsj) (ready_mono hr (Ne.symm hji)) (hw' u) (hy' u) (fun v hv => ?_)⟩
    obtain ⟨u', hu', hk⟩ := hst v hv
    have e : u' = u := by
     have e1 := hu' w0 hw0
     rw [hu w0 hw0] at e1
     simp at e1
     exact e1.symm
    subst e
    rw [← Act.put_comm a v u' h2, Array.setIfInBounds_comm _ _ hji]
    exact hk
   ·rw [if_neg hwj]
    refine ih (listed.setIfInBounds j true) _ D (hfree.later hjun) (hal.later hsj) (ready_mono hr (Ne.symm hji)) (hw' undef) (hy' undef) (fun v hv => ?_)
    have h4 := hop v hv
    rw [wanted_put oj a oi.dst v h1, if_neg hwj] at h4
    rw [← Act.put_comm a v undef h2, Array.setIfInBounds_comm _ _ hji]
    exact h4
theorem wpAnyF_lex {Q : Act → World → Prop} {w0 : World} (hw0 : U w0) (hs : Region.noSelect ops = true) (hc : chainB md ops sp = true) : ∀ (l : List Oper) (k : Nat) (a : Act) (D : World → Prop), (∀ j, l[j]? = ops[k + j]?) → k + l.length = ops.size →
 Region.lexFrom md ops l.length k (upto ops.size k) = true → wpFin P ops U sp fin Q l k a D → wpAnyF P md ops U sp fin Q l.length (upto ops.size k) a D
 | [], _, _, _, _, _, hB, h => ⟨by simpa [Region.lexFrom] using hB, h⟩
 | o :: l, k, a, D, hl, hsz, hB, h => by
  have h0 : ops[k]? = some o := by simpa using (hl 0).symm
  simp only [List.length_cons, Region.lexFrom, Bool.and_eq_true] at hB
  obtain ⟨⟨hr, hf⟩, hB'⟩ := hB
  rw [upto_succ] at hB'
  have hr' : k ∈ Region.ready md ops (upto ops.size k) := by simpa using hr
  have hfree : FreeOf md ops o k (upto ops.size k) := Region.free_spec h0 hf
  have next : ∀ a' D', wpFin P ops U sp fin Q l (k + 1) a' D' → wpAnyF P md ops U sp fin Q l.length ((upto ops.size k).setIfInBounds k true) a' D' := fun a' D' hh => by
   rw [upto_succ]
   exact wpAnyF_lex hw0 hs hc l (k + 1) a' D' (fun j => by have := hl (j + 1); simpa [Nat.add_assoc, Nat.add_comm 1 j] using this) (by simp at hsz; omega) hB' hh
  have h' : if Region.wanted o (yielded ops a.tmps) = true then finStep P U (behindIt U (fin k)) (sp k) o a D (wpFin P ops U sp fin Q l (k + 1)) else wpFin P ops U sp fin Q l (k + 1) (a.put o.dst undef) D := h
  by_cases hw : Region.wanted o (yielded ops a.tmps) = true
  ·rw [if_pos hw] at h'
   unfold finStep at h'
   cases hsp : sp k
   ·rw [hsp] at h'
    obtain ⟨v, hv, hk⟩ := h'
    refine first_stillF (s := false) h0 (Region.noSelect_spec hs) ?_ l.length _ a D hfree hr' (.inl ⟨rfl, hw, hv⟩) (next _ _ hk)
    intro K a D hy hK
    unfold finOp
    simp only [h0]
    rcases hy with ⟨_, hw2, hv2⟩ | ⟨hw2, rfl⟩
    ·rw [if_pos hw2]
     unfold finStep
     rw [hsp]
     exact ⟨v, hv2, hK⟩
    ·rw [if_neg (by simp [hw2])]
     exact hK
   ·rw [hsp] at h'
    obtain ⟨p, D', hy, hk⟩ := h'
    have hks : k < ops.size := by simp at hsz; omega
    refine first_spineF hw0 h0 hsp (Region.noSelect_spec hs) l.length _ a D hfree (chain_spec hc hsp (fun j hj => ?_) (fun j hj hjs => ?_)) hr' hw hy (fun v hv => next _ _ (hk v hv))
    ·rw [upto_lt (by omega)]; exact decide_eq_true hj
    ·rw [upto_lt hjs]; exact decide_eq_false (by omega)
  ·rw [if_neg hw] at h'
   have hw' : Region.wanted o (yielded ops a.tmps) = false := by simpa using hw
   refine first_stillF (s := true) h0 (Region.noSelect_spec hs) ?_ l.length _ a D hfree hr' (.inr ⟨hw', rfl⟩) (next _ _ h')
   intro K a D hy hK
   unfold finOp
   simp only [h0]
   rcases hy with ⟨hf, _⟩ | ⟨hw2, _⟩
   ·cases hf
   ·rw [if_neg (by simp [hw2])]
    exact hK
def finB (md : Region.Mode) (ops : Array Oper) (fin : Nat → Bool) : Bool :=
 (List.range ops.size).all fun i => !fin i || match ops[i]? with
  | some o => (List.range ops.size).all fun j => decide (j = i) || o.after.any fun e => Region.binds md e && (decide (e.on = j) || match ops[e.on]? with
   | some o2 => o2.after.any fun e2 => Region.binds md e2 && decide (e2.on = j)
   | none => false)
  | none => true
theorem finB_ok (h : finB md ops fin = true) : FinOk md ops fin := by
 intro i listed hcl hf hi
 obtain ⟨hun, oi, hoi, hall⟩ := mem_ready.1 hi
 have his : i < ops.size := (Array.getElem?_eq_some_iff.1 hoi).1
 unfold finB at h
 rw [List.all_eq_true] at h
 have h1 := h i (List.mem_range.2 his)
 simp only [hf, hoi, Bool.not_true, Bool.false_or, List.all_eq_true, List.mem_range, Bool.or_eq_true, decide_eq_true_eq] at h1
 rw [List.eq_nil_iff_forall_not_mem]
 intro j hj
 obtain ⟨hjun, oj, hoj, _⟩ := mem_ready.1 hj
 have hjs : j < ops.size := (Array.getElem?_eq_some_iff.1 hoj).1
 by_cases hji : j = i
 ·subst hji
  rcases Nat.lt_or_ge j listed.size with h' | h'
  ·simp [h'] at hjun
  ·simp [Array.getElem?_eq_none h'] at hun
 ·have h2 := h1 j hjs
  rcases h2 with h2 | h2
  ·exact hji h2
  ·obtain ⟨e, he, hb⟩ := Array.any_eq_true'.1 h2
   simp only [Bool.and_eq_true, Bool.or_eq_true, decide_eq_true_eq] at hb
   have h3' := hall e he hb.1
   have h3 : listed.getD j false = true := by
    rcases hb.2 with hb2 | hb2
    ·rw [hb2] at h3'; exact h3'
    ·cases ho2 : ops[e.on]? with
     | none => rw [ho2] at hb2; cases hb2
     | some o2 =>
      rw [ho2] at hb2
      obtain ⟨e2, he2, hb3⟩ := Array.any_eq_true'.1 hb2
      simp only [Bool.and_eq_true, decide_eq_true_eq] at hb3
      have h4 := hcl e.on o2 ho2 h3' e2 he2 hb3.1
      rw [hb3.2] at h4
      exact h4
   rw [getD_set_ne true (Ne.symm hji)] at hjun
   rcases Nat.lt_or_ge j listed.size with h' | h'
   ·simp [h'] at h3 hjun; rw [h3] at hjun; cases hjun
   ·simp [Array.getElem?_eq_none h'] at h3
theorem wp_region_fin {id : Nat} {Q : Exit → Act → World → Prop} {a : Act} {w : World} (U : World → Prop) (sp fin : Nat → Bool) (D : World → Prop) (hok : finB .any ops fin = true) (hm : P.follows .mixedOrders = true) (hB : Region.lexB .any ops = true) (hc : chainB .any ops sp = true)
 (hU : ∀ w, D w → U w) (hD : D w.drew) (h : wpFin P ops U sp fin (fun a' w' => Q .normal a' w') ops.toList 0 a D) : (Code.region id ops true).wp P Q a w := by
 simp only [Region.lexB, Bool.and_eq_true] at hB
 have hD' : D { w with drawn := w.drawn + 1 } := hD
 refine wp_region_any hm (wpAny_of_fin (U := U) (sp := sp) (fin := fin) (finB_ok hok) (Q := fun a' w' => Q .normal a' w') (fun _ _ h => h) _ _ _ D _ (fun j oj hoj hl => by rcases Nat.lt_or_ge j ops.size with h' | h' <;> simp [h'] at hl) hU hD' ?_)
 have := wpAnyF_lex (md := .any) (hU _ hD') hB.1 hc ops.toList 0 a D (by simp) (by simp) (by rw [upto_zero]; simpa using hB.2) h
 rw [upto_zero] at this
 simpa using this
theorem wpFin_nil {Q : Act → World → Prop} {a : Act} {k : Nat} {D : World → Prop} (h : ∀ w, D w → Q a w) : wpFin P ops U sp fin Q [] k a D := h
theorem wpFin_still {Q : Act → World → Prop} {a : Act} {o : Oper} {rest : List Oper} {k : Nat} {D : World → Prop} (hs : sp k = false)
 (h : ∀ K : Act → Prop, (∀ a, wpFin P ops U sp fin Q rest (k + 1) a D → K a) → if Region.wanted o (yielded ops a.tmps) = true then ∃ v, (∀ w, U w → (execOp a.eval o).run P w = .ok (.value v) w) ∧ K (a.put o.dst v) else K (a.put o.dst undef)) : wpFin P ops U sp fin Q (o :: rest) k a D := by
 have h1 := h (fun a => wpFin P ops U sp fin Q rest (k + 1) a D) (fun _ h => h)
 show if _ then _ else _
 by_cases hw : Region.wanted o (yielded ops a.tmps) = true
 ·rw [if_pos hw] at h1 ⊢
  unfold finStep
  rw [hs]
  exact h1
 ·rw [if_neg hw] at h1 ⊢
  exact h1
theorem wpFin_spine {Q : Act → World → Prop} {a : Act} {o : Oper} {rest : List Oper} {k : Nat} {D : World → Prop} (hs : sp k = true) (hg : o.guard = none) (p : Value → Prop) (D' : Value → World → Prop) (hp : ∃ v, p v) (hU : ∀ v w, D' v w → U w)
 (hrun : ∀ w, D w → spineUpon P (fun v w' => p v ∧ D' v w') ((execOp a.eval o).run P w)) (h : ∀ v, p v → wpFin P ops U sp fin Q rest (k + 1) (a.put o.dst v) (D' v)) : wpFin P ops U sp fin Q (o :: rest) k a D := by
 show if _ then _ else _
 have hw : Region.wanted o (yielded ops a.tmps) = true := by unfold Region.wanted; rw [hg]
 rw [if_pos hw]
 unfold finStep
 rw [hs]
 exact ⟨p, D', ⟨hp, fun v w hd => .inr (hU v w hd), hrun⟩, h⟩
theorem wpFin_last {Q : Act → World → Prop} {a : Act} {o : Oper} {rest : List Oper} {k : Nat} {D : World → Prop} (hs : sp k = true) (hf : fin k = true) (hg : o.guard = none) (p : Value → Prop) (D' : Value → World → Prop) (hp : ∃ v, p v)
 (hrun : ∀ w, D w → spineUpon P (fun v w' => p v ∧ D' v w') ((execOp a.eval o).run P w)) (h : ∀ v, p v → wpFin P ops U sp fin Q rest (k + 1) (a.put o.dst v) (D' v)) : wpFin P ops U sp fin Q (o :: rest) k a D := by
 show if _ then _ else _
 have hw : Region.wanted o (yielded ops a.tmps) = true := by unfold Region.wanted; rw [hg]
 rw [if_pos hw]
 unfold finStep
 rw [hs]
 exact ⟨p, D', ⟨hp, fun _ _ _ => .inl hf, hrun⟩, h⟩
end
end Go.Proofs.YtcbnnfeelhlapadGreatDoor
