/-
  A region that draws its order, whose operations may lay blocks of their own wherever they come: one value each, in every world of the class; and a spine of operations that nothing else can overtake, whose value may differ with the order (an allocation, a store). No walk of the program.
-/
import Derived.Test.YtfpemdbiplfkgacGreatFFin
import Derived.Test.YtfpemdbiplfkgacGreatFBig
import Derived.Test.YtfpemdbiplfkgacGreatFMem
import Derived.Test.YtfpemdbiplfkgacGreatFLists
import Derived.Test.YtfpemdbiplfkgacGreatLPlain
namespace Go.Proofs.YtfpemdbiplfkgacGreat
open Go Go.RowKit

section
variable {P : Program} {ops : Array Oper} {md : Region.Mode} {U : World → Prop} {sp : Nat → Bool}

/-- One value, and at most new blocks. -/
def growUpon (P : Program) (v : Value) (w : World) : Result Next → Prop
  | .ok (.value u) w' => u = v ∧ Below w.heap.size w w'
  | .ok (.enter f args) w' => w' = w ∧ Calls P f args w (fun e w'' => e = .returned v ∧ Below w.heap.size w w'')
  | _ => False
def growIn (P : Program) (U : World → Prop) (o : Oper) (a : Act) (v : Value) : Prop := ∀ w, U w → growUpon P v w ((execOp a.eval o).run P w)
/-- New blocks turn nothing. -/
def Shut (D : World → Prop) : Prop := ∀ w w', D w → Below w.heap.size w w' → D w'

def growStep (P : Program) (U : World → Prop) (s : Bool) (o : Oper) (a : Act) (D : World → Prop) (K : Act → (World → Prop) → Prop) : Prop :=
  if s = true then ∃ p D', spineIn P U o a D p D' ∧ (∀ v, Shut (D' v)) ∧ ∀ v, p v → K (a.put o.dst v) (D' v)
  else ∃ v, growIn P U o a v ∧ K (a.put o.dst v) D

/-- THE WALK IN THE ORDER OF THE TEXT. -/
def wpGrow (P : Program) (ops : Array Oper) (U : World → Prop) (sp : Nat → Bool) (Q : Act → World → Prop) : List Oper → Nat → Act → (World → Prop) → Prop
  | [], _, a, D => ∀ w, D w → Q a w
  | o :: rest, k, a, D => if Region.wanted o (yielded ops a.tmps) = true then growStep P U (sp k) o a D (wpGrow P ops U sp Q rest (k + 1)) else wpGrow P ops U sp Q rest (k + 1) (a.put o.dst undef) D

def growOp (P : Program) (ops : Array Oper) (U : World → Prop) (sp : Nat → Bool) (i : Nat) (K : Act → (World → Prop) → Prop) (a : Act) (D : World → Prop) : Prop :=
  match ops[i]? with
  | none => K a D
  | some o => if Region.wanted o (yielded ops a.tmps) = true then growStep P U (sp i) o a D K else K (a.put o.dst undef) D

theorem growStep_mono {s : Bool} {o : Oper} {a : Act} {D : World → Prop} {K K' : Act → (World → Prop) → Prop} (h : ∀ a D, K a D → K' a D) (hh : growStep P U s o a D K) : growStep P U s o a D K' := by
  unfold growStep at *
  cases s
  · obtain ⟨v, h1, h2⟩ := hh
    exact ⟨v, h1, h _ _ h2⟩
  · obtain ⟨p, D', h1, hs, h2⟩ := hh
    exact ⟨p, D', h1, hs, fun v hv => h _ _ (h2 v hv)⟩

theorem growOp_mono {i : Nat} {a : Act} {D : World → Prop} {K K' : Act → (World → Prop) → Prop} (h : ∀ a D, K a D → K' a D) (hh : growOp P ops U sp i K a D) : growOp P ops U sp i K' a D := by
  unfold growOp at *
  cases ho : ops[i]? with
  | none => rw [ho] at hh; exact h _ _ hh
  | some o =>
    rw [ho] at hh
    show if _ then _ else _
    have hh' : if Region.wanted o (yielded ops a.tmps) = true then growStep P U (sp i) o a D K else K (a.put o.dst undef) D := hh
    by_cases hw : Region.wanted o (yielded ops a.tmps) = true
    · rw [if_pos hw] at hh' ⊢; exact growStep_mono h hh'
    · rw [if_neg hw] at hh' ⊢; exact h _ _ hh'

/-- Whatever order is picked from here on. -/
def wpAnyG (P : Program) (md : Region.Mode) (ops : Array Oper) (U : World → Prop) (sp : Nat → Bool) (Q : Act → World → Prop) : Nat → Array Bool → Act → (World → Prop) → Prop
  | 0, listed, a, D => Region.ready md ops listed = [] ∧ ∀ w, D w → Q a w
  | fuel + 1, listed, a, D =>
    (Region.ready md ops listed = [] → ∀ w, D w → Q a w) ∧
    ∀ i ∈ Region.ready md ops listed, growOp P ops U sp i (wpAnyG P md ops U sp Q fuel (listed.setIfInBounds i true)) a D

theorem wp_of_grow {s : Bool} {o : Oper} {a : Act} {D : World → Prop} {K : Act → (World → Prop) → Prop} {K' : Act → World → Prop} {Q' : Exit → Act → World → Prop} {w : World} (hDU : ∀ w, D w → U w) (hsh : Shut D) (hw : D w)
    (h : ∀ a (D' : World → Prop) w', (∀ w, D' w → U w) → Shut D' → D' w' → K a D' → K' a w') (hh : growStep P U s o a D K) : o.wp P a w K' Q' := by
  unfold growStep at hh
  unfold Oper.wp
  cases s
  · obtain ⟨v, h1, h2⟩ := hh
    have h3 := h1 w (hDU w hw)
    generalize (execOp a.eval o).run P w = r at *
    cases r with
    | ok n w' =>
      cases n <;> simp only [growUpon] at h3 <;> simp only [Oper.upon]
      case value u =>
        obtain ⟨rfl, hb⟩ := h3
        exact h _ D _ hDU hsh (hsh _ _ hw hb) h2
      case enter f args =>
        obtain ⟨rfl, h3⟩ := h3
        exact h3.mono fun e w'' ⟨he, hb⟩ => by subst he; exact h _ D _ hDU hsh (hsh _ _ hw hb) h2
    | halt x w' => simp only [growUpon] at h3
  · obtain ⟨p, D', ⟨_, hU, h1⟩, hs, h2⟩ := hh
    have h3 := h1 w hw
    generalize (execOp a.eval o).run P w = r at *
    cases r with
    | ok n w' =>
      cases n <;> simp only [spineUpon] at h3 <;> simp only [Oper.upon]
      case value u => exact h _ (D' u) _ (hU u) (hs u) h3.2 (h2 u h3.1)
      case skip => exact h _ (D' undef) _ (hU undef) (hs undef) h3.2 (h2 undef h3.1)
      case enter f args =>
        exact h3.mono fun e w'' ⟨v, he, hp, hd⟩ => by subst he; exact h _ (D' v) _ (hU v) (hs v) hd (h2 v hp)
    | halt x w' => simp only [spineUpon] at h3

theorem wpAny_of_grow {Q : Act → World → Prop} {Q' : Exit → Act → World → Prop} (hQ : ∀ a w, Q a w → Q' .normal a w) : ∀ (fuel : Nat) (listed : Array Bool) (a : Act) (D : World → Prop) (w : World), (∀ w, D w → U w) → Shut D → D w →
    wpAnyG P md ops U sp Q fuel listed a D → wpAny P md ops Q' fuel listed a w
  | 0, _, _, _, _, _, _, hw, h => ⟨h.1, hQ _ _ (h.2 _ hw)⟩
  | fuel + 1, listed, a, D, w, hU, hsh, hw, h => ⟨fun h0 => hQ _ _ (h.1 h0 _ hw), fun i hi => by
      have h1 := h.2 i hi
      unfold growOp at h1
      unfold wpOp
      cases ho : ops[i]? with
      | none => rw [ho] at h1; exact wpAny_of_grow hQ fuel _ _ D _ hU hsh hw h1
      | some o =>
        rw [ho] at h1
        have h2 : if Region.wanted o (yielded ops a.tmps) = true then growStep P U (sp i) o a D (wpAnyG P md ops U sp Q fuel (listed.setIfInBounds i true)) else wpAnyG P md ops U sp Q fuel (listed.setIfInBounds i true) (a.put o.dst undef) D := h1
        show if _ then _ else _
        by_cases hwt : Region.wanted o (yielded ops a.tmps) = true
        · rw [if_pos hwt] at h2 ⊢
          exact .inl (wp_of_grow hU hsh hw (fun a' D' w' hU' hs' hd hk => wpAny_of_grow hQ fuel _ a' D' w' hU' hs' hd hk) h2)
        · rw [if_neg hwt] at h2 ⊢
          exact wpAny_of_grow hQ fuel _ _ D _ hU hsh hw h2⟩

def LeavesG (P : Program) (ops : Array Oper) (U : World → Prop) (s : Bool) (o : Oper) (v : Value) (a : Act) : Prop :=
  (s = false ∧ Region.wanted o (yielded ops a.tmps) = true ∧ growIn P U o a v) ∨ (Region.wanted o (yielded ops a.tmps) = false ∧ v = undef)

theorem LeavesG.put {s : Bool} {o : Oper} {v : Value} {a : Act} {dst : Option Tmp} {u : Value} (hs : ∀ cs b, o.op ≠ .select cs b) (h3 : ∀ d, dst = some d → d ∉ o.looksAt ops) (h : LeavesG P ops U s o v a) : LeavesG P ops U s o v (a.put dst u) := by
  unfold LeavesG growIn at *
  rw [execOp_put o hs a dst u h3, wanted_put o a dst u h3]
  exact h

/-- What is still may be taken ahead of whatever is apart from it. -/
theorem growOp_put {s : Bool} {j : Nat} {oi oj : Oper} {v : Value} (hj : ops[j]? = some oj) (hap : oi.apart ops oj = true)
    (hsi : ∀ cs b, oi.op ≠ .select cs b) (hsj : ∀ cs b, oj.op ≠ .select cs b) {K : Act → (World → Prop) → Prop} {a : Act} {D : World → Prop}
    (hy : LeavesG P ops U s oi v a) (h : growOp P ops U sp j K (a.put oi.dst v) D) :
    growOp P ops U sp j (fun a' D' => LeavesG P ops U s oi v a' ∧ K (a'.put oi.dst v) D') a D := by
  obtain ⟨h1, h2, h3⟩ := Oper.apart_spec hap
  unfold growOp at *
  simp only [hj] at *
  rw [wanted_put oj a oi.dst v h1] at h
  by_cases hw : Region.wanted oj (yielded ops a.tmps) = true
  · rw [if_pos hw] at h ⊢
    unfold growStep growIn spineIn at *
    rw [execOp_put oj hsj a oi.dst v h1] at h
    cases hs : sp j
    · rw [hs] at h
      obtain ⟨u, hu, hn⟩ := h
      exact ⟨u, hu, hy.put hsi h3, by rw [← Act.put_comm a v u h2]; exact hn⟩
    · rw [hs] at h
      obtain ⟨p, D', hu, hsh, hn⟩ := h
      exact ⟨p, D', hu, hsh, fun u hp => ⟨hy.put hsi h3, by rw [← Act.put_comm a v u h2]; exact hn u hp⟩⟩
  · rw [if_neg hw] at h ⊢
    exact ⟨hy.put hsi h3, by rw [← Act.put_comm a v undef h2]; exact h⟩

theorem first_stillG {s : Bool} {Q : Act → World → Prop} {i : Nat} {oi : Oper} {v : Value} (hi : ops[i]? = some oi) (hsel : ∀ (j : Nat) (o : Oper) cs b, ops[j]? = some o → o.op ≠ .select cs b)
    (hown : ∀ {K : Act → (World → Prop) → Prop} {a : Act} {D : World → Prop}, LeavesG P ops U s oi v a → K (a.put oi.dst v) D → growOp P ops U sp i K a D) :
    ∀ (fuel : Nat) (listed : Array Bool) (a : Act) (D : World → Prop), FreeOf md ops oi i listed → i ∈ Region.ready md ops listed → LeavesG P ops U s oi v a →
      wpAnyG P md ops U sp Q fuel (listed.setIfInBounds i true) (a.put oi.dst v) D → wpAnyG P md ops U sp Q (fuel + 1) listed a D := by
  intro fuel
  induction fuel with
  | zero =>
    intro listed a D _ hr hy H
    refine ⟨fun h => (by rw [h] at hr; cases hr), fun j hj => ?_⟩
    by_cases hji : j = i
    · subst hji; exact hown hy H
    · have := ready_mono hj hji
      rw [H.1] at this
      cases this
  | succ fuel ih =>
    intro listed a D hfree hr hy H
    refine ⟨fun h => (by rw [h] at hr; cases hr), fun j hj => ?_⟩
    by_cases hji : j = i
    · subst hji; exact hown hy H
    · have h1 := H.2 j (ready_mono hj hji)
      obtain ⟨hjun, oj, hoj, hall⟩ := mem_ready.1 hj
      have h2 := growOp_put hoj (hfree j oj hoj hji hjun (not_after hr hall)) (fun cs b => hsel i oi cs b hi) (fun cs b => hsel j oj cs b hoj) hy h1
      refine growOp_mono (fun a' D' h3 => ih (listed.setIfInBounds j true) a' D' (hfree.later hjun) (ready_mono hr (Ne.symm hji)) h3.1 ?_) h2
      rw [Array.setIfInBounds_comm _ _ hji]
      exact h3.2

/-- Those of the spine: nothing else is ready when all ahead of them in the text have come up. -/
def aloneB (md : Region.Mode) (ops : Array Oper) (sp : Nat → Bool) : Bool := (List.range ops.size).all fun k => !sp k || Region.ready md ops (upto ops.size k) == [k]

theorem wpAnyG_lex {Q : Act → World → Prop} (hs : Region.noSelect ops = true) (hc : aloneB md ops sp = true) : ∀ (l : List Oper) (k : Nat) (a : Act) (D : World → Prop), (∀ j, l[j]? = ops[k + j]?) → k + l.length = ops.size →
    Region.lexFrom md ops l.length k (upto ops.size k) = true → wpGrow P ops U sp Q l k a D → wpAnyG P md ops U sp Q l.length (upto ops.size k) a D
  | [], _, _, _, _, _, hB, h => ⟨by simpa [Region.lexFrom] using hB, h⟩
  | o :: l, k, a, D, hl, hsz, hB, h => by
    have h0 : ops[k]? = some o := by simpa using (hl 0).symm
    simp only [List.length_cons, Region.lexFrom, Bool.and_eq_true] at hB
    obtain ⟨⟨hr, hf⟩, hB'⟩ := hB
    rw [upto_succ] at hB'
    have hr' : k ∈ Region.ready md ops (upto ops.size k) := by simpa using hr
    have hfree : FreeOf md ops o k (upto ops.size k) := Region.free_spec h0 hf
    have next : ∀ a' D', wpGrow P ops U sp Q l (k + 1) a' D' → wpAnyG P md ops U sp Q l.length ((upto ops.size k).setIfInBounds k true) a' D' := fun a' D' hh => by
      rw [upto_succ]
      exact wpAnyG_lex hs hc l (k + 1) a' D' (fun j => by have := hl (j + 1); simpa [Nat.add_assoc, Nat.add_comm 1 j] using this) (by simp at hsz; omega) hB' hh
    have h' : if Region.wanted o (yielded ops a.tmps) = true then growStep P U (sp k) o a D (wpGrow P ops U sp Q l (k + 1)) else wpGrow P ops U sp Q l (k + 1) (a.put o.dst undef) D := h
    by_cases hw : Region.wanted o (yielded ops a.tmps) = true
    · rw [if_pos hw] at h'
      cases hsp : sp k
      · rw [hsp] at h'
        unfold growStep at h'
        obtain ⟨v, hv, hk⟩ := h'
        refine first_stillG (s := false) h0 (Region.noSelect_spec hs) ?_ l.length _ a D hfree hr' (.inl ⟨rfl, hw, hv⟩) (next _ _ hk)
        intro K a D hy hK
        unfold growOp
        simp only [h0]
        rcases hy with ⟨_, hw2, hv2⟩ | ⟨hw2, rfl⟩
        · rw [if_pos hw2]
          unfold growStep
          rw [hsp]
          exact ⟨v, hv2, hK⟩
        · rw [if_neg (by simp [hw2])]
          exact hK
      · have hks : k < ops.size := by simp at hsz; omega
        have hal : Region.ready md ops (upto ops.size k) = [k] := by
          unfold aloneB at hc
          rw [List.all_eq_true] at hc
          have := hc k (List.mem_range.2 hks)
          simpa [hsp] using this
        refine ⟨fun h => (by rw [h] at hr'; cases hr'), fun j hj => ?_⟩
        rw [hal] at hj
        obtain rfl : j = k := by simpa using hj
        unfold growOp
        simp only [h0, if_pos hw]
        exact growStep_mono next h'
    · rw [if_neg hw] at h'
      have hw' : Region.wanted o (yielded ops a.tmps) = false := by simpa using hw
      refine first_stillG (s := true) h0 (Region.noSelect_spec hs) ?_ l.length _ a D hfree hr' (.inr ⟨hw', rfl⟩) (next _ _ h')
      intro K a D hy hK
      unfold growOp
      simp only [h0]
      rcases hy with ⟨hf, _⟩ | ⟨hw2, _⟩
      · cases hf
      · rw [if_neg (by simp [hw2])]
        exact hK

/-- A REGION, BY ONE WALK. -/
theorem wp_region_grow {id : Nat} {Q : Exit → Act → World → Prop} {a : Act} {w : World} (U : World → Prop) (sp : Nat → Bool) (D : World → Prop) (hm : P.follows .mixedOrders = true) (hB : Region.lexB .any ops = true) (hc : aloneB .any ops sp = true)
    (hU : ∀ w, D w → U w) (hsh : Shut D) (hD : D w.drew) (h : wpGrow P ops U sp (fun a' w' => Q .normal a' w') ops.toList 0 a D) : (Code.region id ops true).wp P Q a w := by
  simp only [Region.lexB, Bool.and_eq_true] at hB
  have hD' : D { w with drawn := w.drawn + 1 } := hD
  refine wp_region_any hm (wpAny_of_grow (U := U) (sp := sp) (Q := fun a' w' => Q .normal a' w') (fun _ _ h => h) _ _ _ D _ hU hsh hD' ?_)
  have := wpAnyG_lex (md := .any) hB.1 hc ops.toList 0 a D (by simp) (by simp) (by rw [upto_zero]; simpa using hB.2) h
  rw [upto_zero] at this
  simpa using this

theorem wpGrow_nil {Q : Act → World → Prop} {a : Act} {k : Nat} {D : World → Prop} (h : ∀ w, D w → Q a w) : wpGrow P ops U sp Q [] k a D := h

theorem growUpon_same {v : Value} {w : World} {r : Result Next} (h : r = .ok (.value v) w) : growUpon P v w r := by rw [h]; exact ⟨rfl, Below.refl _ _⟩

/-- An operation that is still, its value given. -/
theorem wpGrow_big {Q : Act → World → Prop} {a : Act} {o : Oper} {rest : List Oper} {k : Nat} {D : World → Prop} (d : Option Tmp) (w0 : World) (hs : sp k = false) (v : Value) (hd : o.dst = d) (hw : Region.wanted o (yielded ops a.tmps) = true)
    (hrun : ∀ w, U w → growUpon P v w ((execOp a.eval o).run P w)) (h : Oper.quiet P ⟨d, .move (.const v), 0, "", #[], none⟩ a (fun _ => True) (fun a' => wpGrow P ops U sp Q rest (k + 1) a' D)) : wpGrow P ops U sp Q (o :: rest) k a D := by
  show if _ then _ else _
  rw [if_pos hw]
  unfold growStep
  rw [if_neg (by simp [hs])]
  refine ⟨v, hrun, ?_⟩
  rw [hd]
  exact put_of_quiet w0 h

/-- One of the spine. -/
theorem wpGrow_bigSpine {Q : Act → World → Prop} {a : Act} {o : Oper} {rest : List Oper} {k : Nat} {D : World → Prop} (d : Option Tmp) (w0 : World) (hs : sp k = true) (hg : o.guard = none) (hd : o.dst = d) (p : Value → Prop) (D' : Value → World → Prop) (hp : ∃ v, p v) (hU : ∀ v w, D' v w → U w) (hsh : ∀ v, Shut (D' v))
    (hrun : ∀ w, D w → spineUpon P (fun v w' => p v ∧ D' v w') ((execOp a.eval o).run P w)) (h : ∀ v, p v → Oper.quiet P ⟨d, .move (.const v), 0, "", #[], none⟩ a (fun _ => True) (fun a' => wpGrow P ops U sp Q rest (k + 1) a' (D' v))) : wpGrow P ops U sp Q (o :: rest) k a D := by
  show if _ then _ else _
  have hw : Region.wanted o (yielded ops a.tmps) = true := by unfold Region.wanted; rw [hg]
  rw [if_pos hw]
  unfold growStep
  rw [if_pos hs]
  refine ⟨p, D', ⟨hp, hU, hrun⟩, hsh, fun v hv => ?_⟩
  rw [hd]
  exact put_of_quiet w0 (h v hv)

/-- A store. -/
theorem wpGrow_bigStore {Q : Act → World → Prop} {a : Act} {o : Oper} {rest : List Oper} {k : Nat} {D : World → Prop} (hs : sp k = true) (hg : o.guard = none) (hd : o.dst = none) (D' : World → Prop) (hU : ∀ w, D' w → U w) (hsh : Shut D')
    (hrun : ∀ w, D w → spineUpon P (fun _ w' => D' w') ((execOp a.eval o).run P w)) (h : wpGrow P ops U sp Q rest (k + 1) a D') : wpGrow P ops U sp Q (o :: rest) k a D := by
  show if _ then _ else _
  have hw : Region.wanted o (yielded ops a.tmps) = true := by unfold Region.wanted; rw [hg]
  rw [if_pos hw]
  unfold growStep
  rw [if_pos hs]
  refine ⟨fun _ => True, fun _ => D', ⟨⟨undef, trivial⟩, fun _ => hU, fun w hw => ?_⟩, fun _ => hsh, fun v _ => ?_⟩
  · have := hrun w hw
    revert this
    cases (execOp a.eval o).run P w <;> simp [spineUpon]
  · rw [hd]
    exact h

end
end Go.Proofs.YtfpemdbiplfkgacGreat

/-
  Plain mathematics: where the old bytes and the new ones stand behind a deed; and two texts at the same place, neither of whose writers knew of the other one. No walk.
-/
namespace Go.Proofs.YtfpemdbiplfkgacGreat

/-! Nothing is lost, and all keeps its order. -/

theorem doL_new {l : List Ch} {d : Dd} {number : Int} (hk : d.kind = 1) (hp : placeL l d ≤ l.length) : ((doL l d number).drop (placeL l d)).take d.text.size = newL d number := by
  rw [doL, if_pos hk, List.drop_append_of_le_length (by rw [List.length_take]; omega), List.drop_eq_nil_of_le (by rw [List.length_take]; omega), List.nil_append, List.take_append_of_le_length (by rw [newL_len]; exact Nat.le_refl _), List.take_of_length_le (by rw [newL_len]; exact Nat.le_refl _)]

theorem doL_low {l : List Ch} {d : Dd} {number : Int} (hk : d.kind = 1) (hp : placeL l d ≤ l.length) {i : Nat} (hi : i < placeL l d) : (doL l d number)[i]? = l[i]? := by
  rw [doL, if_pos hk, List.getElem?_append_left (by rw [List.length_take]; omega), List.getElem?_take_of_lt hi]

theorem doL_high {l : List Ch} {d : Dd} {number : Int} (hk : d.kind = 1) (hp : placeL l d ≤ l.length) {i : Nat} (hi : placeL l d ≤ i) : (doL l d number)[i + d.text.size]? = l[i]? := by
  have e1 : (l.take (placeL l d)).length = placeL l d := by rw [List.length_take]; omega
  rw [doL, if_pos hk, List.getElem?_append_right (by omega), e1, List.getElem?_append_right (by rw [newL_len]; omega), newL_len, List.getElem?_drop]
  congr 1
  omega

/-! Two texts at the same place. -/

abbrev bytesN (l : List UInt8) : List Int := l.map fun b => (b.toNat : Int)

/-- The j-th deed that puts in a text, twenty bytes at a time. -/
def chunkD (base : List UInt8) (j : Nat) : Dd := ⟨1, 0, (j : Int) + 1, j, 20 * j, 0, ⟨((base.drop (20 * j)).take 20).toArray⟩⟩

theorem nums_chunk (base : List UInt8) (j : Nat) : nums (chunkD base j).text = bytesN ((base.drop (20 * j)).take 20) := by
  simp [nums, chunkD, bytesN]

/-- How deeds end, done one behind the other from the j-th on: well, with that text, or with the code that Check has of the deed at which it ends. -/
def Ends (target : List Int) (j : Nat) (ds : List Dd) (r : List Ch × Int × Nat) : Prop :=
  (r.2.1 = 0 ∧ vw r.1 (openN - 1) (-1) = target ∧ Plain 200 r.1) ∨ (r.2.1 ≠ 0 ∧ r.1 = [] ∧ ∃ t : Nat, r.2.2 = j + t ∧ ∃ d, ds[t]? = some d ∧ checkC d = r.2.1)

theorem Ends.later {target : List Int} {j : Nat} {d : Dd} {ds : List Dd} {r : List Ch × Int × Nat} (h : Ends target (j + 1) ds r) : Ends target j (d :: ds) r := by
  rcases h with h | ⟨h1, h2, t, ht, e, he, hc⟩
  · exact .inl h
  · exact .inr ⟨h1, h2, t + 1, by omega, e, by simpa using he, hc⟩

theorem all_bad {target : List Int} {l : List Ch} {j : Nat} {d : Dd} {ds : List Dd} (h : checkC d ≠ 0) : Ends target j (d :: ds) (allL l j (d :: ds)) := by
  have e : doC l d (j + 1) = checkC d := by
    rw [doC, mayC, if_pos h, if_pos h]
  rw [allL, e, if_pos h]
  exact .inr ⟨h, rfl, 0, rfl, d, rfl, rfl⟩

theorem all_good {l : List Ch} {j : Nat} {d : Dd} {ds : List Dd} (hc : checkC d = 0) (hn : d.at_ + d.many ≤ cnt l d.seen d.by_) (hl : l.length + d.text.size ≤ 200) : allL l j (d :: ds) = allL (doL l d (j + 1)) (j + 1) ds := by
  have e : doC l d (j + 1) = 0 := by
    have hm : mayC l d = 0 := by
      rw [mayC, if_neg (fun h => h hc), if_neg (by omega), if_neg (by omega)]
    rw [doC, if_neg (fun h => h hm), if_neg (by omega)]
  rw [allL, e, if_neg (by simp)]

theorem plain_app {n : Int} {a b : List Ch} (ha : Plain n a) (hb : Plain n b) : Plain n (a ++ b) := by
  intro x hx
  rcases List.mem_append.1 hx with hx | hx
  · exact ha x hx
  · exact hb x hx

theorem plain_le {n m : Int} {a : List Ch} (h : Plain n a) (hm : n ≤ m) : Plain m a := fun x hx => by
  obtain ⟨h1, h2, h3⟩ := h x hx
  exact ⟨by omega, h2, h3⟩

/-- The last two: both behind k bytes of a text that both have seen. -/
theorem meets_two {l : List Ch} {n k : Nat} {da db : Dd} (hpl : Plain n l) (hk : k ≤ l.length) (hn : n ≤ 100) (hl : l.length + da.text.size + db.text.size ≤ 100)
    (a1 : da.kind = 1) (a2 : da.by_ = 1) (a3 : da.seen = n) (a4 : da.at_ = k) (a5 : da.many = 0) (b1 : db.kind = 1) (b2 : db.by_ = 2) (b3 : db.seen = n) (b4 : db.at_ = k) (b5 : db.many = 0) :
    Ends ((l.map (·.c)).take k ++ (nums db.text ++ (nums da.text ++ (l.map (·.c)).drop k))) n [da, db] (allL l n [da, db]) := by
  by_cases ca : checkC da = 0
  · have hseeA : ∀ x ∈ l, seesC da.seen da.by_ x = true := by rw [a3]; exact plain_sees hpl (Int.le_refl _)
    rw [all_good ca (by rw [a4, a5, cnt_all hseeA]; omega) (by omega)]
    have hsplit : l = l.take k ++ l.drop k := (List.take_append_drop k l).symm
    have hkl : (l.take k).length = k := by rw [List.length_take]; omega
    have hopen : ∀ m : Int, m ≤ 1000 → ∀ y : List Ch, Plain m y → ∀ x ∈ y, x.inn ≠ openN := by
      intro m hm y hy x hx e
      have := (hy x hx).1
      unfold openN at e
      omega
    have e1 : doL l da ((n : Int) + 1) = l.take k ++ (newL da (n + 1) ++ l.drop k) := by
      have := put_plain (p := l.take k) (r := l.drop k) (d := da) (number := (n : Int) + 1) a1 (by rw [a4, hkl]) (fun x hx => hseeA x (List.mem_of_mem_take hx)) (hopen n (by omega) _ (fun x hx => hpl x (List.mem_of_mem_drop hx)))
      rwa [← hsplit] at this
    have hpt : Plain n (l.take k) := fun x hx => hpl x (List.mem_of_mem_take hx)
    have hpd : Plain n (l.drop k) := fun x hx => hpl x (List.mem_of_mem_drop hx)
    by_cases cb : checkC db = 0
    · refine Ends.later ?_
      have hcb : cnt (doL l da ((n : Int) + 1)) db.seen db.by_ = l.length := by
        rw [← vw_len, doL_far (number := (n : Int) + 1) (by rw [a2]; decide) (by rw [a2, b2]; decide) (by rw [b3]; omega), vw_len, b3, cnt_all (plain_sees hpl (Int.le_refl _))]
      rw [all_good cb (by rw [b4, b5, hcb]; omega) (by rw [doL_len (fun h => absurd a1 h)]; omega)]
      have e2 : doL (doL l da ((n : Int) + 1)) db (((n + 1 : Nat) : Int) + 1) = l.take k ++ (newL db (((n + 1 : Nat) : Int) + 1) ++ (newL da (n + 1) ++ l.drop k)) := by
        rw [e1]
        refine put_plain b1 (by rw [b4, hkl]) (fun x hx => ?_) (hopen (n + 1) (by omega) _ (plain_app (newL_plain da _) (plain_le hpd (by omega))))
        rw [b3]
        exact plain_sees hpt (Int.le_refl _) x hx
      rw [e2]
      left
      have hall : Plain (n + 2) (l.take k ++ (newL db (((n + 1 : Nat) : Int) + 1) ++ (newL da (n + 1) ++ l.drop k))) :=
        plain_app (plain_le hpt (by omega)) (plain_app (plain_le (newL_plain db _) (by omega)) (plain_app (plain_le (newL_plain da _) (by omega)) (plain_le hpd (by omega))))
      refine ⟨rfl, ?_, plain_le hall (by omega)⟩
      show vw (l.take k ++ (newL db (((n + 1 : Nat) : Int) + 1) ++ (newL da (n + 1) ++ l.drop k))) (openN - 1) (-1) = _
      rw [vw_all (plain_sees hall (by unfold openN; omega)), List.map_append, List.map_append, List.map_append, newL_cs, newL_cs, List.map_take, List.map_drop]
    · exact Ends.later (all_bad cb)
  · exact all_bad ca

/-- ALL of it: the text by chunks, and the two. -/
theorem meets_all {base : List UInt8} {k : Nat} {da db : Dd} {n : Nat} (hb : base.length ≤ 20 * n) (hk : k ≤ base.length) (hl : base.length + da.text.size + db.text.size ≤ 100) (hn : n ≤ 100) (hlast : 20 * n < base.length + 20)
    (a1 : da.kind = 1) (a2 : da.by_ = 1) (a3 : da.seen = n) (a4 : da.at_ = k) (a5 : da.many = 0) (b1 : db.kind = 1) (b2 : db.by_ = 2) (b3 : db.seen = n) (b4 : db.at_ = k) (b5 : db.many = 0) :
    ∀ (m j : Nat) (l : List Ch), j + m = n → Plain j l → l.map (·.c) = bytesN (base.take (20 * j)) →
      Ends (bytesN (base.take k) ++ (nums db.text ++ (nums da.text ++ bytesN (base.drop k)))) j ((List.range' j m).map (chunkD base) ++ [da, db]) (allL l j ((List.range' j m).map (chunkD base) ++ [da, db]))
  | 0, j, l, hj, hp, hc => by
    obtain rfl : j = n := by omega
    have hcl : l.length = base.length := by
      have := congrArg List.length hc
      simp at this
      omega
    have hcs : l.map (·.c) = bytesN base := by rw [hc, List.take_of_length_le hb]
    have := meets_two (l := l) (n := j) (k := k) hp (by omega) hn (by omega) a1 a2 a3 a4 a5 b1 b2 b3 b4 b5
    rw [hcs] at this
    simpa [bytesN, List.map_take, List.map_drop] using this
  | m + 1, j, l, hj, hp, hc => by
    rw [List.range'_succ, List.map_cons, List.cons_append]
    have hlt : 20 * j < base.length := by omega
    have hcl : l.length = 20 * j := by
      have := congrArg List.length hc
      simp at this
      omega
    have hts : (chunkD base j).text.size ≤ base.length - 20 * j := by
      show (((base.drop (20 * j)).take 20).toArray).size ≤ _
      rw [List.size_toArray, List.length_take, List.length_drop]
      omega
    by_cases hck : checkC (chunkD base j) = 0
    · have hsee : ∀ x ∈ l, seesC (chunkD base j).seen (chunkD base j).by_ x = true := plain_sees hp (Int.le_refl _)
      rw [all_good hck (by rw [cnt_all hsee]; show 20 * (j : Int) + 0 ≤ _; omega) (by omega)]
      refine Ends.later ?_
      refine meets_all hb hk hl hn hlast a1 a2 a3 a4 a5 b1 b2 b3 b4 b5 m (j + 1) _ (by omega) ?_ ?_
      · have e := put_plain (p := l) (r := []) (d := chunkD base j) (number := (j : Int) + 1) rfl (by show 20 * (j : Int) = _; omega) hsee (fun x hx => by simp at hx)
        rw [List.append_nil, List.append_nil] at e
        rw [e]
        exact plain_app (plain_le hp (by omega)) (plain_le (newL_plain _ _) (by omega))
      · have e := put_plain (p := l) (r := []) (d := chunkD base j) (number := (j : Int) + 1) rfl (by show 20 * (j : Int) = _; omega) hsee (fun x hx => by simp at hx)
        rw [List.append_nil, List.append_nil] at e
        rw [e, List.map_append, hc, newL_cs, nums_chunk, show 20 * (j + 1) = 20 * j + 20 by omega, List.take_add]
        simp [bytesN]
    · exact all_bad hck

end Go.Proofs.YtfpemdbiplfkgacGreat

/-
  Lists of deeds in memory that the call owns. No walk.
-/
namespace Go.Proofs.YtfpemdbiplfkgacGreat
open Go.RowKit

def ddCells (x : Dd) : List Value := [.int .i64 x.kind, .int .i64 x.by_, .int .i64 x.no, .int .i64 x.seen, .int .i64 x.at_, .int .i64 x.many, .string x.text]

def cellsD : List Dd → List Value
  | [] => []
  | x :: r => ddCells x ++ cellsD r

theorem cellsD_len : ∀ l : List Dd, (cellsD l).length = l.length * 7
  | [] => rfl
  | x :: r => by
    rw [cellsD, List.length_append, cellsD_len r, List.length_cons]
    show 7 + _ = _
    omega

theorem cellsD_app : ∀ a b : List Dd, cellsD (a ++ b) = cellsD a ++ cellsD b
  | [], b => rfl
  | x :: r, b => by rw [List.cons_append, cellsD, cellsD_app r b, cellsD, List.append_assoc]

theorem cellsD_one : ∀ (l : List Dd) (u : Value), u ∈ cellsD l → u.oneCell' = true
  | [], u, h => by simp [cellsD] at h
  | x :: r, u, h => by
    rw [cellsD, List.mem_append] at h
    rcases h with h | h
    · simp [ddCells] at h
      rcases h with rfl | rfl | rfl | rfl | rfl | rfl | rfl <;> rfl
    · exact cellsD_one r u h

theorem cellsD_get : ∀ (l : List Dd) (i r : Nat) (hi : i < l.length), r < 7 → (cellsD l)[i * 7 + r]? = (ddCells l[i])[r]?
  | [], i, r, hi, _ => absurd hi (Nat.not_lt_zero _)
  | x :: l, 0, r, _, hr => by
    rw [cellsD, Nat.zero_mul, Nat.zero_add, List.getElem?_append_left (by exact hr)]
    rfl
  | x :: l, i + 1, r, hi, hr => by
    rw [cellsD, List.getElem?_append_right (by show 7 ≤ _; omega)]
    show (cellsD l)[(i + 1) * 7 + r - 7]? = _
    rw [show (i + 1) * 7 + r - 7 = i * 7 + r by omega, cellsD_get l i r (by simpa using hi) hr]
    rfl

/-- A list of deeds that the call owns. -/
def OwnD (w : World) (base : Nat) (v : Value) (l : List Dd) : Prop := w.ownsRow base 41 7 v l.length (cellsD l)

theorem ownD_nil (w : World) (base : Nat) : OwnD w base (.slice none 0 0) [] := World.ownsRow_nil _ _ _ _

theorem OwnD.dlst {w : World} {base : Nat} {v : Value} {l : List Dd} (h : OwnD w base v l) : DLst w v l := by
  have h' := h
  obtain ⟨_, h2⟩ := h
  rcases h2 with ⟨rfl, hn⟩ | ⟨g, cap, cur, rfl, hb, hg, hnc, _⟩
  · exact ⟨none, 0, 0, rfl, hn, Nat.le_refl _, .inl rfl⟩
  · have hlt := (Array.getElem?_eq_some_iff.1 hg).1
    refine ⟨_, _, _, rfl, rfl, hnc, .inr ⟨g, 0, rfl, ⟨hlt, fun i hi => ?_⟩⟩⟩
    have key : ∀ r, r < 7 → w.cell? ⟨g, 0 + i * 7 + r, none⟩ = (ddCells l[i])[r]? := fun r hr => by
      rw [Nat.zero_add, World.ownsRow.cellAt h' (i * 7 + r) (by omega), cellsD_get l i r hi hr]
    exact ⟨hlt, key 0 (by omega), key 1 (by omega), key 2 (by omega), key 3 (by omega), key 4 (by omega), key 5 (by omega), key 6 (by omega)⟩

theorem OwnD.below {w w' : World} {base : Nat} {v : Value} {l : List Dd} (h : OwnD w base v l) (hb : Below w.heap.size w w') : OwnD w' base v l := by
  exact World.ownsRow.kept (row := none) h ⟨hb.os, hb.tape, hb.output, hb.size, fun k hk _ => hb.block k hk⟩ (by cases h' : v.ownBlock <;> simp)

abbrev zeroDdV : Value := .agg #[.int .i64 0, .int .i64 0, .int .i64 0, .int .i64 0, .int .i64 0, .int .i64 0, .string ⟨#[]⟩]

theorem Tryz.infoDeed : (Tryz.prog.info? 41).map (fun i => (i.zero, i.size, i.bytes)) = some (some zeroDdV, 7, 64) := by kernel_rfl

/-- append of deeds, that lie in a block, to a list that the call owns. -/
theorem append_deeds {ops : Array Oper} {rest : List Oper} {o : Oper} {act : Act} {Q : Exit → Act → World → Prop} (w : World) (hgd : o.guard = none) (s x : Operand)
    (ho : o.op = .call { callee := .builtin .append, args := #[s, x], argTypes := #[38, 38] }) (base g cap : Nat) {v : Value} {a b : List Dd} (hs : act.eval s = v) (hx : act.eval x = .slice (some ⟨g, 0, none⟩) b.length cap) (hv : OwnD w base v a)
    (hsrc : ∀ j u, (cellsD b)[j]? = some u → w.cell? ((⟨g, 0, none⟩ : Addr).add j) = some u) (hl : a.length + b.length ≤ 100000) (hbase : base ≤ w.heap.size)
    (h : ∀ v' w', OwnD w' base v' (a ++ b) → w.grownBy w' v.ownBlock → wpList Tryz.prog ops Q rest (act.put o.dst v') w') : wpList Tryz.prog ops Q (o :: rest) act w := by
  obtain ⟨i0, hi, hz0, hz1, hz2⟩ := info_parts Tryz.infoDeed
  refine wpList_append_own w hgd s x 38 ho base 41 i0 zeroDdV 7 64 Tryz.underlying38 hi hz0 hz1 hz2 rfl (by decide) v a.length (cellsD a) hs hv ⟨g, 0, none⟩ b.length cap (cellsD b) hx (cellsD_len b) hsrc (cellsD_one b) (by unfold maxLen; omega) (by omega) hbase ?_
  intro v' w' ho hg _
  refine h v' w' ?_ hg
  unfold OwnD
  rw [List.length_append, cellsD_app]
  exact ho

/-- Deeds that lie in a new block, as a source of cells. -/
theorem src_new (w : World) (b : List Dd) (cs : Array Value) (h : cs.toList = cellsD b) : ∀ j u, (cellsD b)[j]? = some u → (w.alloc (.cells cs 41)).cell? ((⟨w.heap.size, 0, none⟩ : Addr).add j) = some u := by
  intro j u hu
  rw [addr_add, Nat.zero_add]
  rw [← h] at hu
  have hu' : cs[j]? = some u := by simpa using hu
  rw [cell_of_row (w.alloc (.cells cs 41)) w.heap.size j cs 41 (0, 0) (heap_alloc_new w _)]
  exact hu'

end Go.Proofs.YtfpemdbiplfkgacGreat
