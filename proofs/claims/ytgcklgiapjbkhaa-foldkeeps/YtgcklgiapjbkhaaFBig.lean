/-
  Steps of a staged walk in a large frame: the frame is never simplified over, and is written out behind each step (by the library's step over a plain move).
-/
import Derived.Test.YtgcklgiapjbkhaaFLate
import Derived.BigQuiet
namespace Go.Proofs.Ytgcklgiapjbkhaa
open Go

section
variable {P : Program} {ops : Array Oper} {U0 : Cls} {sp lt : Nat → Bool}

/-- What a plain move of a value leaves. -/
theorem put_of_quiet {d : Option Tmp} {v : Value} {a : Act} {K : Act → Prop} (w0 : World) (h : Oper.quiet P ⟨d, .move (.const v), 0, "", #[], none⟩ a (fun _ => True) K) : K (a.put d v) := by
  obtain ⟨v', hq, hk⟩ := h
  have h1 := hq w0 trivial
  unfold Oper.quietAt at h1
  rw [BigFrame.run_move (.const v) rfl] at h1
  obtain ⟨_, h2⟩ := h1
  have h3 : v = v' := h2
  subst h3
  exact hk

/-- An operation that leaves the world alone, its value given. -/
theorem wpLate_big {Q : Act → World → Prop} {a : Act} {o : Oper} {rest : List Oper} {k : Nat} {U D : Cls} (d : Option Tmp) (w0 : World) (hs : (sp k || lt k) = false) (v : Value) (hd : o.dst = d) (hw : Region.wanted o (yielded ops a.tmps) = true)
    (hrun : ∀ w, U0 w → (execOp a.eval o).run P w = .ok (.value v) w) (h : Oper.quiet P ⟨d, .move (.const v), 0, "", #[], none⟩ a (fun _ => True) (fun a' => wpLate P ops U0 sp lt Q rest (k + 1) a' U D)) : wpLate P ops U0 sp lt Q (o :: rest) k a U D :=
  wpLate_still hs fun K hK => by
    rw [if_pos hw]
    refine ⟨v, hrun, hK _ ?_⟩
    rw [hd]
    exact put_of_quiet w0 h

/-- One of the spine. -/
theorem wpLate_bigSpine {Q : Act → World → Prop} {a : Act} {o : Oper} {rest : List Oper} {k : Nat} {U D : Cls} (d : Option Tmp) (w0 : World) (hs : sp k = true) (hd : o.dst = d) (hw : Region.wanted o (yielded ops a.tmps) = true) (p : Value → Prop) (U' D' : Value → Cls) (hp : ∃ v, p v) (hU : ∀ v w, U' v w → U w) (hD : ∀ v w, D' v w → U' v w)
    (hrun : ∀ w, D w → spineUpon P (fun v w' => p v ∧ D' v w') ((execOp a.eval o).run P w)) (h : ∀ v, p v → Oper.quiet P ⟨d, .move (.const v), 0, "", #[], none⟩ a (fun _ => True) (fun a' => wpLate P ops U0 sp lt Q rest (k + 1) a' (U' v) (D' v))) : wpLate P ops U0 sp lt Q (o :: rest) k a U D :=
  wpLate_spine hs hw p U' D' hp hU hD hrun fun v hv => by
    rw [hd]
    exact put_of_quiet w0 (h v hv)

end
end Go.Proofs.Ytgcklgiapjbkhaa
