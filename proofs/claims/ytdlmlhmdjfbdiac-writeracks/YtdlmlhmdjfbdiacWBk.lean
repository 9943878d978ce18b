/-
  Steps of a late walk in a large frame, what follows behind a variable (so that nothing looks into it). No walk.
-/
import Derived.Test.YtdlmlhmdjfbdiacWAcD
namespace Go.Proofs.Ytdlmlhmdjfbdiac
open Go

section
variable {P : Program} {ops : Array Oper} {U0 : Cls} {sp lt : Nat → Bool}

theorem wpLate_bigK {Q : Act → World → Prop} {a : Act} {o : Oper} {rest : List Oper} {k : Nat} {U D : Cls} (d : Option Tmp) (w0 : World) (hs : (sp k || lt k) = false) (v : Value) (hd : o.dst = d) (hw : Region.wanted o (yielded ops a.tmps) = true)
    (hrun : ∀ w, U0 w → (execOp a.eval o).run P w = .ok (.value v) w) (h : ∀ K : Act → Prop, (∀ a', wpLate P ops U0 sp lt Q rest (k + 1) a' U D → K a') → Oper.quiet P ⟨d, .move (.const v), 0, "", #[], none⟩ a (fun _ => True) K) : wpLate P ops U0 sp lt Q (o :: rest) k a U D :=
  wpLate_still hs fun K hK => by
    rw [if_pos hw]
    refine ⟨v, hrun, ?_⟩
    rw [hd]
    exact put_of_quiet w0 (h K hK)

theorem wpLate_bigSkipK {Q : Act → World → Prop} {a : Act} {o : Oper} {rest : List Oper} {k : Nat} {U D : Cls} (d : Option Tmp) (w0 : World) (hs : (sp k || lt k) = false) (hd : o.dst = d) (hw : Region.wanted o (yielded ops a.tmps) = false)
    (h : ∀ K : Act → Prop, (∀ a', wpLate P ops U0 sp lt Q rest (k + 1) a' U D → K a') → Oper.quiet P ⟨d, .move (.const undef), 0, "", #[], none⟩ a (fun _ => True) K) : wpLate P ops U0 sp lt Q (o :: rest) k a U D :=
  wpLate_still hs fun K hK => by
    rw [if_neg (by simp [hw]), hd]
    exact put_of_quiet w0 (h K hK)

theorem wpLate_bigLateK {Q : Act → World → Prop} {a : Act} {o : Oper} {rest : List Oper} {k : Nat} {U D : Cls} (d : Option Tmp) (w0 : World) (hs : sp k = false) (hl : lt k = true) (v : Value) (hd : o.dst = d) (hw : Region.wanted o (yielded ops a.tmps) = true)
    (hrun : ∀ w, U w → (execOp a.eval o).run P w = .ok (.value v) w) (h : ∀ K : Act → Prop, (∀ a', wpLate P ops U0 sp lt Q rest (k + 1) a' U D → K a') → Oper.quiet P ⟨d, .move (.const v), 0, "", #[], none⟩ a (fun _ => True) K) : wpLate P ops U0 sp lt Q (o :: rest) k a U D :=
  wpLate_late hs hl fun K hK => by
    rw [if_pos hw]
    refine ⟨v, hrun, ?_⟩
    rw [hd]
    exact put_of_quiet w0 (h K hK)

theorem wpLate_bigSpineK {Q : Act → World → Prop} {a : Act} {o : Oper} {rest : List Oper} {k : Nat} {U D : Cls} (d : Option Tmp) (w0 : World) (hs : sp k = true) (hd : o.dst = d) (hw : Region.wanted o (yielded ops a.tmps) = true) (p : Value → Prop) (U' D' : Value → Cls) (hp : ∃ v, p v) (hU : ∀ v w, U' v w → U w) (hD : ∀ v w, D' v w → U' v w)
    (hrun : ∀ w, D w → spineUpon P (fun v w' => p v ∧ D' v w') ((execOp a.eval o).run P w)) (h : ∀ v, p v → ∀ K : Act → Prop, (∀ a', wpLate P ops U0 sp lt Q rest (k + 1) a' (U' v) (D' v) → K a') → Oper.quiet P ⟨d, .move (.const v), 0, "", #[], none⟩ a (fun _ => True) K) : wpLate P ops U0 sp lt Q (o :: rest) k a U D :=
  wpLate_spine hs hw p U' D' hp hU hD hrun fun v hv => by
    rw [hd]
    exact put_of_quiet w0 (h v hv _ (fun _ h => h))

/-! Several that are passed over, behind one that is not. -/

def skipB (ops : Array Oper) (sp lt : Nat → Bool) : List Oper → Nat → Nat → Act → Bool
  | o :: os, n + 1, k, a => !(sp k || lt k) && !(Region.wanted o (yielded ops a.tmps)) && skipB ops sp lt os n (k + 1) (a.put o.dst undef)
  | _, _, _, _ => true

def skipA : List (Option Tmp) → Act → Act
  | [], a => a
  | d :: ds, a => skipA ds (a.put d undef)

def skipQ (P : Program) : List (Option Tmp) → Act → (Act → Prop) → Prop
  | [], a, K => K a
  | d :: ds, a, K => ∀ K' : Act → Prop, (∀ a', skipQ P ds a' K → K' a') → Oper.quiet P ⟨d, .move (.const undef), 0, "", #[], none⟩ a (fun _ => True) K'

theorem skipQ_act (w0 : World) {K : Act → Prop} : ∀ (ds : List (Option Tmp)) (a : Act), skipQ P ds a K → K (skipA ds a)
  | [], _, h => h
  | _ :: ds, _, h => put_of_quiet (P := P) (K := fun a' => K (skipA ds a')) w0 (h _ (fun a' h' => skipQ_act w0 ds a' h'))

theorem wpLate_skips {Q : Act → World → Prop} {U D : Cls} : ∀ (n : Nat) (l : List Oper) (k : Nat) (a : Act) (ds : List (Option Tmp)), n ≤ l.length → (l.take n).map (·.dst) = ds → skipB ops sp lt l n k a = true → wpLate P ops U0 sp lt Q (l.drop n) (k + n) (skipA ds a) U D → wpLate P ops U0 sp lt Q l k a U D
  | 0, l, k, a, ds, _, hd, _, h => by
    subst hd
    exact h
  | n + 1, [], k, a, ds, hn, _, _, _ => absurd hn (by simp)
  | n + 1, o :: os, k, a, ds, hn, hd, hb, h => by
    subst hd
    simp only [skipB, Bool.and_eq_true] at hb
    obtain ⟨⟨h1, h2⟩, h3⟩ := hb
    refine wpLate_still (by simpa using h1) fun K hK => ?_
    rw [if_neg (by simpa using h2)]
    refine hK _ (wpLate_skips n os (k + 1) (a.put o.dst undef) _ (by simpa using hn) rfl h3 ?_)
    rw [show k + 1 + n = k + (n + 1) by omega]
    exact h

theorem wpLate_bigSkipsK {Q : Act → World → Prop} {a : Act} {o : Oper} {rest : List Oper} {k : Nat} {U D : Cls} (d : Option Tmp) (ds : List (Option Tmp)) (n : Nat) (w0 : World) (hs : (sp k || lt k) = false) (v : Value) (hd : o.dst = d) (hw : Region.wanted o (yielded ops a.tmps) = true)
    (hrun : ∀ w, U0 w → (execOp a.eval o).run P w = .ok (.value v) w) (hn : n ≤ rest.length) (hds : (rest.take n).map (·.dst) = ds) (hb : skipB ops sp lt rest n (k + 1) (a.put d v) = true)
    (h : ∀ K : Act → Prop, (∀ a', wpLate P ops U0 sp lt Q (rest.drop n) (k + 1 + n) a' U D → K a') → ∀ K' : Act → Prop, (∀ a', skipQ P ds a' K → K' a') → Oper.quiet P ⟨d, .move (.const v), 0, "", #[], none⟩ a (fun _ => True) K') : wpLate P ops U0 sp lt Q (o :: rest) k a U D :=
  wpLate_still hs fun K hK => by
    rw [if_pos hw]
    refine ⟨v, hrun, ?_⟩
    rw [hd]
    refine hK _ (wpLate_skips n rest (k + 1) (a.put d v) ds hn hds hb ?_)
    exact skipQ_act (P := P) w0 ds (a.put d v) (put_of_quiet (P := P) w0 (h (fun a' => wpLate P ops U0 sp lt Q (rest.drop n) (k + 1 + n) a' U D) (fun _ h' => h') (fun a' => skipQ P ds a' _) (fun _ h' => h')))

end
end Go.Proofs.Ytdlmlhmdjfbdiac
