/-
  A region that draws its order, whose operations may lay blocks of their own wherever they come: one value each, in every world of the class; and a spine of operations that nothing else can overtake, whose value may differ with the order (an allocation, a store). No walk of the program.
-/
import Derived.Test.YtdlmlhmdjfbdiacGreatLeaf
import Derived.Test.YtdlmlhmdjfbdiacGreatFBig
import Derived.Test.YtdlmlhmdjfbdiacGreatFClone
import Derived.Test.YtdlmlhmdjfbdiacGreatWBig
namespace Go.Proofs.YtdlmlhmdjfbdiacGreat
open Go Go.RowKit

section
variable {P : Program} {ops : Array Oper} {md : Region.Mode} {U : World → Prop} {sp : Nat → Bool}

/-- One value, and at most new blocks. -/
def growUpon (P : Program) (v : Value) (w : World) : Result Next → Prop
  | .ok (.value u) w' => u = v ∧ Below w.heap.size w w'
  | .ok (.enter f args) w' => w' = w ∧ Calls P f args w (fun e w'' => e = .returned v ∧ Below w.heap.size w w'')
  | _ => False
def growIn (P : Program) (U : World → Prop) (o : Oper) (a : Act) (v : Value) : Prop := ∀ w, U w → growUpon P v w ((execOp a.eval o).run P w)
/-- New blocks turn nothing. -/
def Shut (D : World → Prop) : Prop := ∀ w w', D w → Below w.heap.size w w' → D w'

def growStep (P : Program) (U : World → Prop) (s : Bool) (o : Oper) (a : Act) (D : World → Prop) (K : Act → (World → Prop) → Prop) : Prop :=
  if s = true then ∃ p D', spineIn P U o a D p D' ∧ (∀ v, Shut (D' v)) ∧ ∀ v, p v → K (a.put o.dst v) (D' v)
  else ∃ v, growIn P U o a v ∧ K (a.put o.dst v) D

/-- THE WALK IN THE ORDER OF THE TEXT. -/
def wpGrow (P : Program) (ops : Array Oper) (U : World → Prop) (sp : Nat → Bool) (Q : Act → World → Prop) : List Oper → Nat → Act → (World → Prop) → Prop
  | [], _, a, D => ∀ w, D w → Q a w
  | o :: rest, k, a, D => if Region.wanted o (yielded ops a.tmps) = true then growStep P U (sp k) o a D (wpGrow P ops U sp Q rest (k + 1)) else wpGrow P ops U sp Q rest (k + 1) (a.put o.dst undef) D

def growOp (P : Program) (ops : Array Oper) (U : World → Prop) (sp : Nat → Bool) (i : Nat) (K : Act → (World → Prop) → Prop) (a : Act) (D : World → Prop) : Prop :=
  match ops[i]? with
  | none => K a D
  | some o => if Region.wanted o (yielded ops a.tmps) = true then growStep P U (sp i) o a D K else K (a.put o.dst undef) D

theorem growStep_mono {s : Bool} {o : Oper} {a : Act} {D : World → Prop} {K K' : Act → (World → Prop) → Prop} (h : ∀ a D, K a D → K' a D) (hh : growStep P U s o a D K) : growStep P U s o a D K' := by
  unfold growStep at *
  cases s
  · obtain ⟨v, h1, h2⟩ := hh
    exact ⟨v, h1, h _ _ h2⟩
  · obtain ⟨p, D', h1, hs, h2⟩ := hh
    exact ⟨p, D', h1, hs, fun v hv => h _ _ (h2 v hv)⟩

theorem growOp_mono {i : Nat} {a : Act} {D : World → Prop} {K K' : Act → (World → Prop) → Prop} (h : ∀ a D, K a D → K' a D) (hh : growOp P ops U sp i K a D) : growOp P ops U sp i K' a D := by
  unfold growOp at *
  cases ho : ops[i]? with
  | none => rw [ho] at hh; exact h _ _ hh
  | some o =>
    rw [ho] at hh
    show if _ then _ else _
    have hh' : if Region.wanted o (yielded ops a.tmps) = true then growStep P U (sp i) o a D K else K (a.put o.dst undef) D := hh
    by_cases hw : Region.wanted o (yielded ops a.tmps) = true
    · rw [if_pos hw] at hh' ⊢; exact growStep_mono h hh'
    · rw [if_neg hw] at hh' ⊢; exact h _ _ hh'

/-- Whatever order is picked from here on. -/
def wpAnyG (P : Program) (md : Region.Mode) (ops : Array Oper) (U : World → Prop) (sp : Nat → Bool) (Q : Act → World → Prop) : Nat → Array Bool → Act → (World → Prop) → Prop
  | 0, listed, a, D => Region.ready md ops listed = [] ∧ ∀ w, D w → Q a w
  | fuel + 1, listed, a, D =>
    (Region.ready md ops listed = [] → ∀ w, D w → Q a w) ∧
    ∀ i ∈ Region.ready md ops listed, growOp P ops U sp i (wpAnyG P md ops U sp Q fuel (listed.setIfInBounds i true)) a D

theorem wp_of_grow {s : Bool} {o : Oper} {a : Act} {D : World → Prop} {K : Act → (World → Prop) → Prop} {K' : Act → World → Prop} {Q' : Exit → Act → World → Prop} {w : World} (hDU : ∀ w, D w → U w) (hsh : Shut D) (hw : D w)
    (h : ∀ a (D' : World → Prop) w', (∀ w, D' w → U w) → Shut D' → D' w' → K a D' → K' a w') (hh : growStep P U s o a D K) : o.wp P a w K' Q' := by
  unfold growStep at hh
  unfold Oper.wp
  cases s
  · obtain ⟨v, h1, h2⟩ := hh
    have h3 := h1 w (hDU w hw)
    generalize (execOp a.eval o).run P w = r at *
    cases r with
    | ok n w' =>
      cases n <;> simp only [growUpon] at h3 <;> simp only [Oper.upon]
      case value u =>
        obtain ⟨rfl, hb⟩ := h3
        exact h _ D _ hDU hsh (hsh _ _ hw hb) h2
      case enter f args =>
        obtain ⟨rfl, h3⟩ := h3
        exact h3.mono fun e w'' ⟨he, hb⟩ => by subst he; exact h _ D _ hDU hsh (hsh _ _ hw hb) h2
    | halt x w' => simp only [growUpon] at h3
  · obtain ⟨p, D', ⟨_, hU, h1⟩, hs, h2⟩ := hh
    have h3 := h1 w hw
    generalize (execOp a.eval o).run P w = r at *
    cases r with
    | ok n w' =>
      cases n <;> simp only [spineUpon] at h3 <;> simp only [Oper.upon]
      case value u => exact h _ (D' u) _ (hU u) (hs u) h3.2 (h2 u h3.1)
      case skip => exact h _ (D' undef) _ (hU undef) (hs undef) h3.2 (h2 undef h3.1)
      case enter f args =>
        exact h3.mono fun e w'' ⟨v, he, hp, hd⟩ => by subst he; exact h _ (D' v) _ (hU v) (hs v) hd (h2 v hp)
    | halt x w' => simp only [spineUpon] at h3

theorem wpAny_of_grow {Q : Act → World → Prop} {Q' : Exit → Act → World → Prop} (hQ : ∀ a w, Q a w → Q' .normal a w) : ∀ (fuel : Nat) (listed : Array Bool) (a : Act) (D : World → Prop) (w : World), (∀ w, D w → U w) → Shut D → D w →
    wpAnyG P md ops U sp Q fuel listed a D → wpAny P md ops Q' fuel listed a w
  | 0, _, _, _, _, _, _, hw, h => ⟨h.1, hQ _ _ (h.2 _ hw)⟩
  | fuel + 1, listed, a, D, w, hU, hsh, hw, h => ⟨fun h0 => hQ _ _ (h.1 h0 _ hw), fun i hi => by
      have h1 := h.2 i hi
      unfold growOp at h1
      unfold wpOp
      cases ho : ops[i]? with
      | none => rw [ho] at h1; exact wpAny_of_grow hQ fuel _ _ D _ hU hsh hw h1
      | some o =>
        rw [ho] at h1
        have h2 : if Region.wanted o (yielded ops a.tmps) = true then growStep P U (sp i) o a D (wpAnyG P md ops U sp Q fuel (listed.setIfInBounds i true)) else wpAnyG P md ops U sp Q fuel (listed.setIfInBounds i true) (a.put o.dst undef) D := h1
        show if _ then _ else _
        by_cases hwt : Region.wanted o (yielded ops a.tmps) = true
        · rw [if_pos hwt] at h2 ⊢
          exact .inl (wp_of_grow hU hsh hw (fun a' D' w' hU' hs' hd hk => wpAny_of_grow hQ fuel _ a' D' w' hU' hs' hd hk) h2)
        · rw [if_neg hwt] at h2 ⊢
          exact wpAny_of_grow hQ fuel _ _ D _ hU hsh hw h2⟩

def LeavesG (P : Program) (ops : Array Oper) (U : World → Prop) (s : Bool) (o : Oper) (v : Value) (a : Act) : Prop :=
  (s = false ∧ Region.wanted o (yielded ops a.tmps) = true ∧ growIn P U o a v) ∨ (Region.wanted o (yielded ops a.tmps) = false ∧ v = undef)

theorem LeavesG.put {s : Bool} {o : Oper} {v : Value} {a : Act} {dst : Option Tmp} {u : Value} (hs : ∀ cs b, o.op ≠ .select cs b) (h3 : ∀ d, dst = some d → d ∉ o.looksAt ops) (h : LeavesG P ops U s o v a) : LeavesG P ops U s o v (a.put dst u) := by
  unfold LeavesG growIn at *
  rw [execOp_put o hs a dst u h3, wanted_put o a dst u h3]
  exact h

/-- What is still may be taken ahead of whatever is apart from it. -/
theorem growOp_put {s : Bool} {j : Nat} {oi oj : Oper} {v : Value} (hj : ops[j]? = some oj) (hap : oi.apart ops oj = true)
    (hsi : ∀ cs b, oi.op ≠ .select cs b) (hsj : ∀ cs b, oj.op ≠ .select cs b) {K : Act → (World → Prop) → Prop} {a : Act} {D : World → Prop}
    (hy : LeavesG P ops U s oi v a) (h : growOp P ops U sp j K (a.put oi.dst v) D) :
    growOp P ops U sp j (fun a' D' => LeavesG P ops U s oi v a' ∧ K (a'.put oi.dst v) D') a D := by
  obtain ⟨h1, h2, h3⟩ := Oper.apart_spec hap
  unfold growOp at *
  simp only [hj] at *
  rw [wanted_put oj a oi.dst v h1] at h
  by_cases hw : Region.wanted oj (yielded ops a.tmps) = true
  · rw [if_pos hw] at h ⊢
    unfold growStep growIn spineIn at *
    rw [execOp_put oj hsj a oi.dst v h1] at h
    cases hs : sp j
    · rw [hs] at h
      obtain ⟨u, hu, hn⟩ := h
      exact ⟨u, hu, hy.put hsi h3, by rw [← Act.put_comm a v u h2]; exact hn⟩
    · rw [hs] at h
      obtain ⟨p, D', hu, hsh, hn⟩ := h
      exact ⟨p, D', hu, hsh, fun u hp => ⟨hy.put hsi h3, by rw [← Act.put_comm a v u h2]; exact hn u hp⟩⟩
  · rw [if_neg hw] at h ⊢
    exact ⟨hy.put hsi h3, by rw [← Act.put_comm a v undef h2]; exact h⟩

theorem first_stillG {s : Bool} {Q : Act → World → Prop} {i : Nat} {oi : Oper} {v : Value} (hi : ops[i]? = some oi) (hsel : ∀ (j : Nat) (o : Oper) cs b, ops[j]? = some o → o.op ≠ .select cs b)
    (hown : ∀ {K : Act → (World → Prop) → Prop} {a : Act} {D : World → Prop}, LeavesG P ops U s oi v a → K (a.put oi.dst v) D → growOp P ops U sp i K a D) :
    ∀ (fuel : Nat) (listed : Array Bool) (a : Act) (D : World → Prop), FreeOf md ops oi i listed → i ∈ Region.ready md ops listed → LeavesG P ops U s oi v a →
      wpAnyG P md ops U sp Q fuel (listed.setIfInBounds i true) (a.put oi.dst v) D → wpAnyG P md ops U sp Q (fuel + 1) listed a D := by
  intro fuel
  induction fuel with
  | zero =>
    intro listed a D _ hr hy H
    refine ⟨fun h => (by rw [h] at hr; cases hr), fun j hj => ?_⟩
    by_cases hji : j = i
    · subst hji; exact hown hy H
    · have := ready_mono hj hji
      rw [H.1] at this
      cases this
  | succ fuel ih =>
    intro listed a D hfree hr hy H
    refine ⟨fun h => (by rw [h] at hr; cases hr), fun j hj => ?_⟩
    by_cases hji : j = i
    · subst hji; exact hown hy H
    · have h1 := H.2 j (ready_mono hj hji)
      obtain ⟨hjun, oj, hoj, hall⟩ := mem_ready.1 hj
      have h2 := growOp_put hoj (hfree j oj hoj hji hjun (not_after hr hall)) (fun cs b => hsel i oi cs b hi) (fun cs b => hsel j oj cs b hoj) hy h1
      refine growOp_mono (fun a' D' h3 => ih (listed.setIfInBounds j true) a' D' (hfree.later hjun) (ready_mono hr (Ne.symm hji)) h3.1 ?_) h2
      rw [Array.setIfInBounds_comm _ _ hji]
      exact h3.2

/-- Those of the spine: nothing else is ready when all ahead of them in the text have come up. -/
def aloneB (md : Region.Mode) (ops : Array Oper) (sp : Nat → Bool) : Bool := (List.range ops.size).all fun k => !sp k || Region.ready md ops (upto ops.size k) == [k]

theorem wpAnyG_lex {Q : Act → World → Prop} (hs : Region.noSelect ops = true) (hc : aloneB md ops sp = true) : ∀ (l : List Oper) (k : Nat) (a : Act) (D : World → Prop), (∀ j, l[j]? = ops[k + j]?) → k + l.length = ops.size →
    Region.lexFrom md ops l.length k (upto ops.size k) = true → wpGrow P ops U sp Q l k a D → wpAnyG P md ops U sp Q l.length (upto ops.size k) a D
  | [], _, _, _, _, _, hB, h => ⟨by simpa [Region.lexFrom] using hB, h⟩
  | o :: l, k, a, D, hl, hsz, hB, h => by
    have h0 : ops[k]? = some o := by simpa using (hl 0).symm
    simp only [List.length_cons, Region.lexFrom, Bool.and_eq_true] at hB
    obtain ⟨⟨hr, hf⟩, hB'⟩ := hB
    rw [upto_succ] at hB'
    have hr' : k ∈ Region.ready md ops (upto ops.size k) := by simpa using hr
    have hfree : FreeOf md ops o k (upto ops.size k) := Region.free_spec h0 hf
    have next : ∀ a' D', wpGrow P ops U sp Q l (k + 1) a' D' → wpAnyG P md ops U sp Q l.length ((upto ops.size k).setIfInBounds k true) a' D' := fun a' D' hh => by
      rw [upto_succ]
      exact wpAnyG_lex hs hc l (k + 1) a' D' (fun j => by have := hl (j + 1); simpa [Nat.add_assoc, Nat.add_comm 1 j] using this) (by simp at hsz; omega) hB' hh
    have h' : if Region.wanted o (yielded ops a.tmps) = true then growStep P U (sp k) o a D (wpGrow P ops U sp Q l (k + 1)) else wpGrow P ops U sp Q l (k + 1) (a.put o.dst undef) D := h
    by_cases hw : Region.wanted o (yielded ops a.tmps) = true
    · rw [if_pos hw] at h'
      cases hsp : sp k
      · rw [hsp] at h'
        unfold growStep at h'
        obtain ⟨v, hv, hk⟩ := h'
        refine first_stillG (s := false) h0 (Region.noSelect_spec hs) ?_ l.length _ a D hfree hr' (.inl ⟨rfl, hw, hv⟩) (next _ _ hk)
        intro K a D hy hK
        unfold growOp
        simp only [h0]
        rcases hy with ⟨_, hw2, hv2⟩ | ⟨hw2, rfl⟩
        · rw [if_pos hw2]
          unfold growStep
          rw [hsp]
          exact ⟨v, hv2, hK⟩
        · rw [if_neg (by simp [hw2])]
          exact hK
      · have hks : k < ops.size := by simp at hsz; omega
        have hal : Region.ready md ops (upto ops.size k) = [k] := by
          unfold aloneB at hc
          rw [List.all_eq_true] at hc
          have := hc k (List.mem_range.2 hks)
          simpa [hsp] using this
        refine ⟨fun h => (by rw [h] at hr'; cases hr'), fun j hj => ?_⟩
        rw [hal] at hj
        obtain rfl : j = k := by simpa using hj
        unfold growOp
        simp only [h0, if_pos hw]
        exact growStep_mono next h'
    · rw [if_neg hw] at h'
      have hw' : Region.wanted o (yielded ops a.tmps) = false := by simpa using hw
      refine first_stillG (s := true) h0 (Region.noSelect_spec hs) ?_ l.length _ a D hfree hr' (.inr ⟨hw', rfl⟩) (next _ _ h')
      intro K a D hy hK
      unfold growOp
      simp only [h0]
      rcases hy with ⟨hf, _⟩ | ⟨hw2, _⟩
      · cases hf
      · rw [if_neg (by simp [hw2])]
        exact hK

/-- A REGION, BY ONE WALK. -/
theorem wp_region_grow {id : Nat} {Q : Exit → Act → World → Prop} {a : Act} {w : World} (U : World → Prop) (sp : Nat → Bool) (D : World → Prop) (hm : P.follows .mixedOrders = true) (hB : Region.lexB .any ops = true) (hc : aloneB .any ops sp = true)
    (hU : ∀ w, D w → U w) (hsh : Shut D) (hD : D w.drew) (h : wpGrow P ops U sp (fun a' w' => Q .normal a' w') ops.toList 0 a D) : (Code.region id ops true).wp P Q a w := by
  simp only [Region.lexB, Bool.and_eq_true] at hB
  have hD' : D { w with drawn := w.drawn + 1 } := hD
  refine wp_region_any hm (wpAny_of_grow (U := U) (sp := sp) (Q := fun a' w' => Q .normal a' w') (fun _ _ h => h) _ _ _ D _ hU hsh hD' ?_)
  have := wpAnyG_lex (md := .any) hB.1 hc ops.toList 0 a D (by simp) (by simp) (by rw [upto_zero]; simpa using hB.2) h
  rw [upto_zero] at this
  simpa using this

theorem wpGrow_nil {Q : Act → World → Prop} {a : Act} {k : Nat} {D : World → Prop} (h : ∀ w, D w → Q a w) : wpGrow P ops U sp Q [] k a D := h

theorem growUpon_same {v : Value} {w : World} {r : Result Next} (h : r = .ok (.value v) w) : growUpon P v w r := by rw [h]; exact ⟨rfl, Below.refl _ _⟩

/-- An operation that is still, its value given. -/
theorem wpGrow_big {Q : Act → World → Prop} {a : Act} {o : Oper} {rest : List Oper} {k : Nat} {D : World → Prop} (d : Option Tmp) (w0 : World) (hs : sp k = false) (v : Value) (hd : o.dst = d) (hw : Region.wanted o (yielded ops a.tmps) = true)
    (hrun : ∀ w, U w → growUpon P v w ((execOp a.eval o).run P w)) (h : Oper.quiet P ⟨d, .move (.const v), 0, "", #[], none⟩ a (fun _ => True) (fun a' => wpGrow P ops U sp Q rest (k + 1) a' D)) : wpGrow P ops U sp Q (o :: rest) k a D := by
  show if _ then _ else _
  rw [if_pos hw]
  unfold growStep
  rw [if_neg (by simp [hs])]
  refine ⟨v, hrun, ?_⟩
  rw [hd]
  exact put_of_quiet w0 h

/-- One of the spine. -/
theorem wpGrow_bigSpine {Q : Act → World → Prop} {a : Act} {o : Oper} {rest : List Oper} {k : Nat} {D : World → Prop} (d : Option Tmp) (w0 : World) (hs : sp k = true) (hg : o.guard = none) (hd : o.dst = d) (p : Value → Prop) (D' : Value → World → Prop) (hp : ∃ v, p v) (hU : ∀ v w, D' v w → U w) (hsh : ∀ v, Shut (D' v))
    (hrun : ∀ w, D w → spineUpon P (fun v w' => p v ∧ D' v w') ((execOp a.eval o).run P w)) (h : ∀ v, p v → Oper.quiet P ⟨d, .move (.const v), 0, "", #[], none⟩ a (fun _ => True) (fun a' => wpGrow P ops U sp Q rest (k + 1) a' (D' v))) : wpGrow P ops U sp Q (o :: rest) k a D := by
  show if _ then _ else _
  have hw : Region.wanted o (yielded ops a.tmps) = true := by unfold Region.wanted; rw [hg]
  rw [if_pos hw]
  unfold growStep
  rw [if_pos hs]
  refine ⟨p, D', ⟨hp, hU, hrun⟩, hsh, fun v hv => ?_⟩
  rw [hd]
  exact put_of_quiet w0 (h v hv)

/-- A store. -/
theorem wpGrow_bigStore {Q : Act → World → Prop} {a : Act} {o : Oper} {rest : List Oper} {k : Nat} {D : World → Prop} (hs : sp k = true) (hg : o.guard = none) (hd : o.dst = none) (D' : World → Prop) (hU : ∀ w, D' w → U w) (hsh : Shut D')
    (hrun : ∀ w, D w → spineUpon P (fun _ w' => D' w') ((execOp a.eval o).run P w)) (h : wpGrow P ops U sp Q rest (k + 1) a D') : wpGrow P ops U sp Q (o :: rest) k a D := by
  show if _ then _ else _
  have hw : Region.wanted o (yielded ops a.tmps) = true := by unfold Region.wanted; rw [hg]
  rw [if_pos hw]
  unfold growStep
  rw [if_pos hs]
  refine ⟨fun _ => True, fun _ => D', ⟨⟨undef, trivial⟩, fun _ => hU, fun w hw => ?_⟩, fun _ => hsh, fun v _ => ?_⟩
  · have := hrun w hw
    revert this
    cases (execOp a.eval o).run P w <;> simp [spineUpon]
  · rw [hd]
    exact h

end
end Go.Proofs.YtdlmlhmdjfbdiacGreat

/-
  A room in a drawn region: a box that is laid and written there; to hear its own, whole. No walk.
-/
namespace Go.Proofs.YtdlmlhmdjfbdiacGreat
open Go Go.RowKit

section
variable {base R G : Nat} {pw sc : Nat → Nat} {bare : Bool} {K : Nat → Prop} {m : Rm} {w wk w' : World} {x : RStep} {bx : List (Nat × Dd)}

theorem RIn.fewer {bx' : List (Nat × Dd)} (h : RIn w base R G pw sc bare K m x bx wk) (hb : ∀ p ∈ bx', p ∈ bx) : RIn w base R G pw sc bare K m x bx' wk := by
  refine ⟨h.room.less (fun k e => ?_), h.step, fun p hp => h.deeds p (hb p hp), h.below, h.stay⟩
  rcases e with e | e | ⟨p, hp, e⟩
  · exact .inl e
  · exact .inr (.inl e)
  · exact .inr (.inr ⟨p, hb p hp, e⟩)

theorem RIn.shut : Shut (fun wk => RIn w base R G pw sc bare K m x bx wk) := fun _ _ h hb => h.after hb

/-- The room, and one box more, that can be written. -/
structure RBox (w : World) (base R G : Nat) (pw sc : Nat → Nat) (bare : Bool) (K : Nat → Prop) (m : Rm) (x : RStep) (bx : List (Nat × Dd)) (E : Nat) (d : Dd) (wk : World) : Prop where
  ri : RIn w base R G pw sc bare K m x ((E, d) :: bx) wk
  free : ∀ o, o < 7 → wk.frozen? ⟨E, o, none⟩ = false
  lo : w.heap.size < E
  kl : ∀ k, K k → k < w.heap.size
  ap : ∀ p ∈ bx, p.1 ≠ E

theorem RBox.shut {E : Nat} {d : Dd} : Shut (fun wk => RBox w base R G pw sc bare K m x bx E d wk) := fun _ _ h hb => ⟨h.ri.after hb, fun o ho => by rw [(bcell hb).2 _ _ (h.ri.deeds (E, d) (by simp)).lt]; exact h.free o ho, h.lo, h.kl, h.ap⟩

/-- A box is laid. -/
theorem RIn.lay (h : RIn w base R G pw sc bare K m x bx wk) (hk : ∀ k, K k → k < w.heap.size) : RBox w base R G pw sc bare K m x bx wk.heap.size ⟨0, 0, 0, 0, 0, 0, ⟨#[]⟩⟩ (wk.alloc zObj) := by
  refine ⟨h.boxed ⟨0, 0, 0, 0, 0, 0, ⟨#[]⟩⟩, fun o ho => ?_, h.step.lt, hk, fun p hp => ?_⟩
  · rcases (show o = 0 ∨ o = 1 ∨ o = 2 ∨ o = 3 ∨ o = 4 ∨ o = 5 ∨ o = 6 by omega) with rfl | rfl | rfl | rfl | rfl | rfl | rfl <;> simp [go_sem]
  · have := (h.deeds p hp).lt
    omega

theorem RBox.put {E o : Nat} {d : Dd} (h : RBox w base R G pw sc bare K m x bx E d wk) (u : Value) {d' : Dd} (hd : DdAt (wk.setCell ⟨E, o, none⟩ u) E 0 d') : RBox w base R G pw sc bare K m x bx E d' (wk.setCell ⟨E, o, none⟩ u) := by
  have hne : ∀ k, k ≠ E → (wk.setCell ⟨E, o, none⟩ u).heap[k]? = wk.heap[k]? := fun k e => Below.heap_setCell _ _ _ _ e
  have hsz : (wk.setCell ⟨E, o, none⟩ u).heap.size = wk.heap.size := by simp [World.setCell]
  have hlo := h.lo
  refine ⟨⟨?_, ?_, ?_, ?_, ?_⟩, fun o' ho => by simpa [go_sem] using h.free o' ho, hlo, h.kl, h.ap⟩
  · refine (h.ri.room.wrote (p := ⟨E, o, none⟩) (.inr (.inr ⟨(E, d), by simp, rfl⟩)) u).less (fun k e => ?_)
    rcases e with e | e | ⟨p, hp, e⟩
    · exact .inl e
    · exact .inr (.inl e)
    · rcases List.mem_cons.1 hp with rfl | hp
      · exact .inr (.inr ⟨(E, d), by simp, e⟩)
      · exact .inr (.inr ⟨p, by simp [hp], e⟩)
  · exact h.ri.step.of_block (by rw [hsz]; exact h.ri.step.lt) (hne _ (by omega))
  · intro p hp
    rcases List.mem_cons.1 hp with rfl | hp
    · exact hd
    · exact (h.ri.deeds p (by simp [hp])).of_block (by rw [hsz]; exact (h.ri.deeds p (by simp [hp])).lt) (hne _ (h.ap p hp))
  · have hR := (h.ri.room.kl (k := E) (.inr (.inr ⟨(E, d), by simp, rfl⟩))).1
    exact h.ri.below.setCell (p := ⟨E, o, none⟩) hR u
  · intro k e
    rw [hne k (by have := h.kl k e; omega)]
    exact h.ri.stay k e

/-- A deed is stored there. -/
theorem RBox.store {E : Nat} {d0 : Dd} (h : RBox w base R G pw sc bare K m x bx E d0 wk) (d : Dd) : RBox w base R G pw sc bare K m x bx E d (((((((wk.setCell ⟨E, 0, none⟩ (.int .i64 d.kind)).setCell ⟨E, 1, none⟩ (.int .i64 d.by_)).setCell ⟨E, 2, none⟩ (.int .i64 d.no)).setCell ⟨E, 3, none⟩ (.int .i64 d.seen)).setCell ⟨E, 4, none⟩ (.int .i64 d.at_)).setCell ⟨E, 5, none⟩ (.int .i64 d.many)).setCell ⟨E, 6, none⟩ (.string d.text)) := by
  have step : ∀ {wk : World} {d0 : Dd} (o : Nat) (ho : o < 7) (u : Value) (d1 : Dd), RBox w base R G pw sc bare K m x bx E d0 wk → (∀ o', o' < 7 → (if o' = o then some u else wk.cell? ⟨E, o', none⟩) = some (#[Value.int .i64 d1.kind, .int .i64 d1.by_, .int .i64 d1.no, .int .i64 d1.seen, .int .i64 d1.at_, .int .i64 d1.many, .string d1.text].getD o' undef)) → RBox w base R G pw sc bare K m x bx E d1 (wk.setCell ⟨E, o, none⟩ u) := by
    intro wk d0 o ho u d1 h hc
    obtain ⟨hlt, c0, c1, c2, c3, c4, c5, c6⟩ := h.ri.deeds (E, d0) (by simp)
    simp only [Nat.zero_add] at hlt c0 c1 c2 c3 c4 c5 c6
    have hget : ∀ o', o' < 7 → (wk.setCell ⟨E, o, none⟩ u).cell? ⟨E, o', none⟩ = if o' = o then some u else wk.cell? ⟨E, o', none⟩ := by
      intro o' ho'
      by_cases e : o' = o
      · subst e
        rcases (show o' = 0 ∨ o' = 1 ∨ o' = 2 ∨ o' = 3 ∨ o' = 4 ∨ o' = 5 ∨ o' = 6 by omega) with rfl | rfl | rfl | rfl | rfl | rfl | rfl <;> simp [go_sem, c0, c1, c2, c3, c4, c5, c6]
      · simp [go_sem, e]
    refine h.put u ⟨by simpa [World.setCell] using hlt, ?_, ?_, ?_, ?_, ?_, ?_, ?_⟩
    · have := hc 0 (by omega); rw [hget 0 (by omega)]; simpa using this
    · have := hc 1 (by omega); rw [show 0 + 1 = 1 from rfl, hget 1 (by omega)]; simpa using this
    · have := hc 2 (by omega); rw [show 0 + 2 = 2 from rfl, hget 2 (by omega)]; simpa using this
    · have := hc 3 (by omega); rw [show 0 + 3 = 3 from rfl, hget 3 (by omega)]; simpa using this
    · have := hc 4 (by omega); rw [show 0 + 4 = 4 from rfl, hget 4 (by omega)]; simpa using this
    · have := hc 5 (by omega); rw [show 0 + 5 = 5 from rfl, hget 5 (by omega)]; simpa using this
    · have := hc 6 (by omega); rw [show 0 + 6 = 6 from rfl, hget 6 (by omega)]; simpa using this
  have one : ∀ {wk : World} {k b n s a y : Int} {t : ByteArray} (o : Nat) (ho : o < 7) (u : Value) (d1 : Dd), RBox w base R G pw sc bare K m x bx E ⟨k, b, n, s, a, y, t⟩ wk →
      (∀ o', o' < 7 → (if o' = o then u else (#[Value.int .i64 k, .int .i64 b, .int .i64 n, .int .i64 s, .int .i64 a, .int .i64 y, .string t].getD o' undef)) = (#[Value.int .i64 d1.kind, .int .i64 d1.by_, .int .i64 d1.no, .int .i64 d1.seen, .int .i64 d1.at_, .int .i64 d1.many, .string d1.text].getD o' undef)) → RBox w base R G pw sc bare K m x bx E d1 (wk.setCell ⟨E, o, none⟩ u) := by
    intro wk k b n s a y t o ho u d1 h hc
    refine step o ho u d1 h (fun o' ho' => ?_)
    obtain ⟨hlt, c0, c1, c2, c3, c4, c5, c6⟩ := h.ri.deeds (E, ⟨k, b, n, s, a, y, t⟩) (by simp)
    simp only [Nat.zero_add] at hlt c0 c1 c2 c3 c4 c5 c6
    rw [← hc o' ho']
    by_cases e : o' = o
    · rw [if_pos e, if_pos e]
    · rw [if_neg e, if_neg e]
      rcases (show o' = 0 ∨ o' = 1 ∨ o' = 2 ∨ o' = 3 ∨ o' = 4 ∨ o' = 5 ∨ o' = 6 by omega) with rfl | rfl | rfl | rfl | rfl | rfl | rfl <;> assumption
  obtain ⟨k0, b0, n0, s0, a0, y0, t0⟩ := d0
  have q : ∀ o', o' < 7 → o' = 0 ∨ o' = 1 ∨ o' = 2 ∨ o' = 3 ∨ o' = 4 ∨ o' = 5 ∨ o' = 6 := fun o' h => by omega
  have h0 := one 0 (by omega) (.int .i64 d.kind) ⟨d.kind, b0, n0, s0, a0, y0, t0⟩ h (fun o' ho => by rcases q o' ho with rfl | rfl | rfl | rfl | rfl | rfl | rfl <;> rfl)
  have h1 := one 1 (by omega) (.int .i64 d.by_) ⟨d.kind, d.by_, n0, s0, a0, y0, t0⟩ h0 (fun o' ho => by rcases q o' ho with rfl | rfl | rfl | rfl | rfl | rfl | rfl <;> rfl)
  have h2 := one 2 (by omega) (.int .i64 d.no) ⟨d.kind, d.by_, d.no, s0, a0, y0, t0⟩ h1 (fun o' ho => by rcases q o' ho with rfl | rfl | rfl | rfl | rfl | rfl | rfl <;> rfl)
  have h3 := one 3 (by omega) (.int .i64 d.seen) ⟨d.kind, d.by_, d.no, d.seen, a0, y0, t0⟩ h2 (fun o' ho => by rcases q o' ho with rfl | rfl | rfl | rfl | rfl | rfl | rfl <;> rfl)
  have h4 := one 4 (by omega) (.int .i64 d.at_) ⟨d.kind, d.by_, d.no, d.seen, d.at_, y0, t0⟩ h3 (fun o' ho => by rcases q o' ho with rfl | rfl | rfl | rfl | rfl | rfl | rfl <;> rfl)
  have h5 := one 5 (by omega) (.int .i64 d.many) ⟨d.kind, d.by_, d.no, d.seen, d.at_, d.many, t0⟩ h4 (fun o' ho => by rcases q o' ho with rfl | rfl | rfl | rfl | rfl | rfl | rfl <;> rfl)
  exact one 6 (by omega) (.string d.text) d h5 (fun o' ho => by rcases q o' ho with rfl | rfl | rfl | rfl | rfl | rfl | rfl <;> rfl)

/-- Whatever log it is. -/
def RLog (w : World) (base R G : Nat) (pw sc : Nat → Nat) (bare : Bool) (K : Nat → Prop) (p : Nat → Option (Wr × List (List Ch))) (s : Nat → Option Wr) (x : RStep) (bx : List (Nat × Dd)) (wk : World) : Prop := ∃ b, RIn w base R G pw sc bare K ⟨b, p, s⟩ x bx wk

end

/-- To hear its own, whole. -/
theorem heard_own {w : World} {base P : Nat} {S : Nat → Prop} {lv ov : Value} {tvs : List Value} {l t : List Ch} {d : Dd} {es : List Dd} {ts : List (List Ch)} {me next : Int} {seen sent : Nat} (h : PwAt w base S P lv ov tvs l (d :: es) (t :: ts) me next seen ((sent : Int) + 1)) (hb : d.by_ = me) (hl : l.length ≤ 1000) (hes : es.length ≤ 1000) (hts : ∀ u ∈ t :: ts, u.length ≤ 1000) (hsn : seen ≤ 1000) (hst : sent ≤ 1000) :
    Calls Tryz.prog 22 #[.pointer (some ⟨P, 0, none⟩), ddV d] w fun e w' => e = .returned (.int .i64 0) ∧ PwTo w base S P (l.map (ackF d.no ((seen : Int) + 1) t)) es (ts.map fun u => u.map (numF d.no ((seen : Int) + 1))) me next ((seen : Int) + 1) sent w' := by
  have hlo := h.lo
  have hba := h.base_le
  cases tvs with
  | nil => exact absurd h.len (by simp)
  | cons tv tvs =>
    refine (hearsOwn_pw h d hb (fun c w' => c = 0 ∧ PwTo w base S P (l.map (ackF d.no ((seen : Int) + 1) t)) es (ts.map fun u => u.map (numF d.no ((seen : Int) + 1))) me next ((seen : Int) + 1) sent w') (fun wk hj => ?_)).mono ?_
    · refine (hearOwn_yes (h.below hj.below) hl hes hts hsn hst).mono ?_
      rintro e w' ⟨rfl, ⟨ov', hat⟩, hk⟩
      have hs1 := hj.below.size
      have hs2 := hk.size
      refine ⟨0, rfl, rfl, PwTo.of (hat.mono (fun k e => .inl e) (fun k e => ?_)) ((Kept.of_below hj.below).trans' hk)⟩
      rcases e with e | e
      · have := hlo k e; omega
      · omega
    · rintro e w' ⟨c, rfl, rfl, ht⟩
      exact ⟨rfl, ht⟩

theorem is_yes {b : Bk} {i : Nat} (hi : i < b.ds.length) : isD b ((i : Int) + 1) = true ∧ nthD b ((i : Int) + 1) = b.ds[i] := by
  have hl : b.len = (b.ds.length : Int) := rfl
  refine ⟨by rw [isD, hl]; simp; omega, ?_⟩
  rw [nthD, if_pos (by rw [hl]; omega), show ((i : Int) + 1 - 1).toNat = i by omega]
  simp [hi]
theorem is_no {b : Bk} {i : Nat} (hi : ¬ i < b.ds.length) : isD b ((i : Int) + 1) = false := by
  have hl : b.len = (b.ds.length : Int) := rfl
  rw [isD, hl]; simp; omega

end Go.Proofs.YtdlmlhmdjfbdiacGreat
