/-
  Plain mathematics of a town: what its writers keep of what their open deeds took away, step by step. No walk.
-/
import Derived.Test.YtnabhdfodckpdacGreatTPlain
import Derived.Test.YtnabhdfodckpdacGreatFSame
namespace Go.Proofs.YtnabhdfodckpdacGreat
structure TR (t : Twn) (tk : Int → List (List Ch)) : Prop where
 ti : TwI t
 rel : ∀ k w, t.ws k = some w → Rel w (tk k)
theorem setF_self {α : Type} (f : Int → α) (v : Int) : setF f v (f v) = f := by
 funext k
 by_cases e : k = v
 ·subst e; exact setF_same _ _ _
 ·exact setF_other _ _ e
section
variable {t t' : Twn} {tk : Int → List (List Ch)} {v : Int} {w w' : Wr}
theorem TR.set (h : TR t tk) (hti : TwI t') (hws : t'.ws = setF t.ws v (some w')) {x : List (List Ch)} (hr : Rel w' x) : TR t' (setF tk v x) := by
 refine ⟨hti, fun k y hk => ?_⟩
 rw [hws] at hk
 by_cases e : k = v
 ·subst e
  rw [setF_same] at hk ⊢
  obtain rfl := Option.some.inj hk
  exact hr
 ·rw [setF_other _ _ e] at hk ⊢
  exact h.rel k y hk
theorem TR.same (h : TR t tk) (hti : TwI t') (hws : ∀ k w, t'.ws k = some w → t.ws k = some w) : TR t' tk := ⟨hti, fun k w hk => h.rel k w (hws k w hk)⟩
theorem tr_start : TR ⟨Bk.empty, fun _ => none⟩ (fun _ => []) := ⟨twn_start, fun _ _ e => (by cases e)⟩
theorem tr_join (h : TR t tk) (hc : joinC t.b v = 0) : TR ⟨joinB t.b v, setF t.ws v (some (newW t.b v))⟩ (setF tk v []) := by
 have h1 := ti_join h.ti v
 unfold joinT at h1
 simp only [hc, if_true] at h1
 exact h.set h1 rfl (Rel.comes_in h.ti.good v)
theorem tr_own (h : TR t tk) (hw : t.ws v = some w) (s : Tst) (hc : doC w.list (ownD w s) openN = 0) : TR ⟨t.b, setF t.ws v (some (doesW w (ownD w s)))⟩ (setF tk v (tk v ++ [tookL w.list (ownD w s)])) := by
 have h1 := ti_own h.ti hw s
 unfold ownT at h1
 simp only [hc, if_true] at h1
 obtain ⟨o1, o2, _⟩ := own_parts w s
 exact h.set h1 rfl ((h.rel v w hw).does o1 o2 hc)
theorem tr_send (h : TR t tk) (hw : t.ws v = some w) {d : Dd} (hd : w.opens[w.sent]? = some d) (hc : comesC t.b d = 0) : TR ⟨comesB t.b d, setF t.ws v (some (sentW w))⟩ tk := by
 have h1 := ti_send h.ti hw
 unfold sendT at h1
 simp only [hd, hc, if_true] at h1
 have h2 := h.set h1 rfl ((h.rel v w hw).sends (w.sent + 1))
 rw [setF_self] at h2
 exact h2
theorem tr_drop (h : TR t tk) (hw : t.ws v = some w) : TR (dropT t v) tk := by
 refine h.same (h.ti.drop (h.ti.is_here hw).1) (fun k y hk => ?_)
 have hk' : setF t.ws v none k = some y := hk
 by_cases e : k = v
 ·subst e; rw [setF_same] at hk'; cases hk'
 ·rw [setF_other _ _ e] at hk'; exact hk'
theorem tr_clear (h : TR t tk) (hw : t.ws v = some w) : TR ⟨t.b, setF t.ws v (some (clearW w (leastFor t.b w.seen)))⟩ tk := by
 obtain ⟨hm, c, hi⟩ := h.ti.wi _ w hw
 obtain ⟨l1, l2⟩ := least_for t.b w.seen
 obtain ⟨c', hc', _⟩ := hi.clears h.ti.good l1 l2
 have h1 : TwI ⟨t.b, setF t.ws v (some (clearW w (leastFor t.b w.seen)))⟩ := h.ti.set h.ti.good (h.ti.is_here hw).2 hm ⟨c', hc'⟩ (fun _ _ _ _ _ x => x) (fun _ _ x => x)
 have h2 := h.set h1 rfl ((h.rel v w hw).clears hi h.ti.good (hi.opens_least l1 l2))
 rw [setF_self] at h2
 exact h2
def heardK (w : Wr) (d : Dd) (ts : List (List Ch)) : List (List Ch) := if d.by_ ≠ w.me then ts else ts.tail.map fun u => u.map (numF d.no ((w.seen : Int) + 1))
theorem tr_hear (h : TR t tk) (hw : t.ws v = some w) {d : Dd} (hd : t.b.ds[w.seen]? = some d) (hc : hearC w d = 0) : TR ⟨saysB t.b v (hearW w d).least, setF t.ws v (some (hearW w d))⟩ (setF tk v (heardK w d (tk v))) := by
 have h1 := (ti_hear h.ti hw).1
 unfold hearT at h1
 simp only [hd, hc, if_true] at h1
 obtain ⟨hm, c, hi⟩ := h.ti.wi _ w hw
 have hr := h.rel v w hw
 obtain ⟨hl, rfl⟩ := List.getElem?_eq_some_iff.1 hd
 refine h.set h1 rfl ?_
 unfold hearW heardK
 by_cases hb : t.b.ds[w.seen].by_ = w.me
 ·rw [if_neg (fun x => x hb), if_neg (fun x => x hb)]
  obtain ⟨es, hes, _⟩ := hi.own_first hl hb
  have htk := hr.tk
  rw [hes] at htk
  cases htv : tk v with
  | nil => rw [htv] at htk; exact htk.elim
  | cons u us =>
   rw [htv] at hr
   have := (hr.hears_own hi h.ti.good hl hes).1
   rw [hes]
   exact this
 ·rw [if_pos hb, if_pos hb]
  exact hr.hears_other hi h.ti.good hl hb
end
end Go.Proofs.YtnabhdfodckpdacGreat

/-
  Plain mathematics of desks: settled, all see the text; what one alone writes; to clear changes nothing. No walk.
-/
namespace Go.Proofs.YtnabhdfodckpdacGreat
def SentAll (t : Twn) (k : Int) : Prop := ∀ w, t.ws k = some w → w.sent = w.opens.length
def HeardAll (t : Twn) (k : Int) : Prop := ∀ w, t.ws k = some w → w.seen = t.b.ds.length
theorem says_ds (b : Bk) (v n : Int) : (saysB b v n).ds = b.ds := by unfold saysB; split <;> rfl
theorem leave_ds (b : Bk) (v : Int) : (leaveB b v).ds = b.ds := by unfold leaveB; split <;> rfl
theorem send_end {t : Twn} (h : TwI t) {v : Int} {w : Wr} (hw : t.ws v = some w) (hc : (sendT t v w).1 ≠ 0) : SentAll (sendT t v w).2 v := by
 obtain ⟨_, c, hi⟩ := h.wi v w hw
 unfold sendT at hc ⊢
 cases hd : w.opens[w.sent]? with
 | none =>
  intro w' hw'
  have hw'' : t.ws v = some w' := hw'
  rw [hw, Option.some.injEq] at hw''
  subst hw''
  have h1 := List.getElem?_eq_none_iff.1 hd
  have h2 := hi.sent
  omega
 | some d =>
  rw [hd] at hc
  have hc' : comesC t.b d ≠ 0 := hc
  intro w' hw'
  have hw'' : (if comesC t.b d = 0 then (⟨comesB t.b d, setF t.ws v (some (sentW w))⟩ : Twn) else dropT t v).ws v = some w' := hw'
  rw [if_neg hc'] at hw''
  have : setF t.ws v none v = some w' := hw''
  rw [setF_same] at this
  cases this
theorem send_other {t : Twn} {v k : Int} {w : Wr} (hk : k ≠ v) (h : SentAll t k) : SentAll (sendT t v w).2 k := by
 unfold sendT
 cases w.opens[w.sent]? with
 | none => exact h
 | some d =>
  intro w' hw'
  have hw'' : (if comesC t.b d = 0 then (⟨comesB t.b d, setF t.ws v (some (sentW w))⟩ : Twn) else dropT t v).ws k = some w' := hw'
  split at hw''
  ·have : setF t.ws v (some (sentW w)) k = some w' := hw''
   rw [setF_other _ _ hk] at this
   exact h w' this
  ·have : setF t.ws v none k = some w' := hw''
   rw [setF_other _ _ hk] at this
   exact h w' this
theorem hearW_sent {w : Wr} {d : Dd} (h : w.sent = w.opens.length) : (hearW w d).sent = (hearW w d).opens.length := by
 unfold hearW
 split
 ·exact h
 ·show w.sent - 1 = w.opens.tail.length
  rw [List.length_tail, h]
theorem hear_sent {t : Twn} {v k : Int} {w : Wr} (hw : t.ws v = some w) (h : SentAll t k) : SentAll (hearT t v w).2 k := by
 unfold hearT
 cases t.b.ds[w.seen]? with
 | none => exact h
 | some d =>
  intro w' hw'
  have hw'' : (if hearC w d = 0 then (saysC t.b v (hearW w d).least, (⟨saysB t.b v (hearW w d).least, setF t.ws v (some (hearW w d))⟩ : Twn)) else (hearC w d, dropT t v)).2.ws k = some w' := hw'
  by_cases hk : k = v
  ·subst hk
   split at hw''
   ·have : setF t.ws k (some (hearW w d)) k = some w' := hw''
    rw [setF_same, Option.some.injEq] at this
    subst this
    exact hearW_sent (h w hw)
   ·have : setF t.ws k none k = some w' := hw''
    rw [setF_same] at this
    cases this
  ·split at hw''
   ·have : setF t.ws v (some (hearW w d)) k = some w' := hw''
    rw [setF_other _ _ hk] at this
    exact h w' this
   ·have : setF t.ws v none k = some w' := hw''
    rw [setF_other _ _ hk] at this
    exact h w' this
theorem hear_ds (t : Twn) (v : Int) (w : Wr) : (hearT t v w).2.b.ds = t.b.ds := by
 unfold hearT
 cases t.b.ds[w.seen]? with
 | none => rfl
 | some d =>
  show (if hearC w d = 0 then (saysC t.b v (hearW w d).least, (⟨saysB t.b v (hearW w d).least, setF t.ws v (some (hearW w d))⟩ : Twn)) else (hearC w d, dropT t v)).2.b.ds = _
  split
  ·exact says_ds _ _ _
  ·exact leave_ds _ _
theorem hear_other_heard {t : Twn} {v k : Int} {w : Wr} (hk : k ≠ v) (h : HeardAll t k) : HeardAll (hearT t v w).2 k := by
 intro w' hw'
 rw [hear_ds]
 refine h w' ?_
 unfold hearT at hw'
 cases hd : t.b.ds[w.seen]? with
 | none => rw [hd] at hw'; exact hw'
 | some d =>
  rw [hd] at hw'
  have hw'' : (if hearC w d = 0 then (saysC t.b v (hearW w d).least, (⟨saysB t.b v (hearW w d).least, setF t.ws v (some (hearW w d))⟩ : Twn)) else (hearC w d, dropT t v)).2.ws k = some w' := hw'
  split at hw''
  ·have : setF t.ws v (some (hearW w d)) k = some w' := hw''
   rw [setF_other _ _ hk] at this
   exact this
  ·have : setF t.ws v none k = some w' := hw''
   rw [setF_other _ _ hk] at this
   exact this
theorem hear_end {t : Twn} (h : TwI t) {v : Int} {w : Wr} (hw : t.ws v = some w) (hc : (hearT t v w).1 ≠ 0) : HeardAll (hearT t v w).2 v := by
 obtain ⟨_, c, hi⟩ := h.wi v w hw
 have h0 := (ti_hear h hw).2
 intro w' hw'
 rw [hear_ds]
 unfold hearT at hw'
 cases hd : t.b.ds[w.seen]? with
 | none =>
  rw [hd] at hw'
  have hw'' : t.ws v = some w' := hw'
  rw [hw, Option.some.injEq] at hw''
  subst hw''
  have h1 := List.getElem?_eq_none_iff.1 hd
  have h2 := hi.seen
  omega
 | some d =>
  rw [hd] at hw'
  have hn : hearC w d ≠ 0 := fun e => hc (h0 d hd e)
  have hw'' : (if hearC w d = 0 then (saysC t.b v (hearW w d).least, (⟨saysB t.b v (hearW w d).least, setF t.ws v (some (hearW w d))⟩ : Twn)) else (hearC w d, dropT t v)).2.ws v = some w' := hw'
  rw [if_neg hn] at hw''
  have : setF t.ws v none v = some w' := hw''
  rw [setF_same] at this
  cases this
theorem settled_text {t : Twn} (h : TwI t) {k : Int} {w : Wr} (hw : t.ws k = some w) (hs : SentAll t k) (hh : HeardAll t k) : w.opens = [] ∧ w.seen = t.b.ds.length ∧ vw w.list w.seen w.me = textL t.b.chars := by
 obtain ⟨_, c, hi⟩ := h.wi k w hw
 obtain ⟨h1, h2⟩ := hi.settled h.good (hh w hw) (hs w hw)
 exact ⟨h1, hh w hw, h2⟩
end Go.Proofs.YtnabhdfodckpdacGreat

/-
  Plain mathematics of desks: Settle, as a function, and what holds behind it. No walk.
-/
namespace Go.Proofs.YtnabhdfodckpdacGreat
def unsent (t : Twn) (v : Int) : Nat := match t.ws v with
 | none => 0
 | some w => w.opens.length - w.sent
def unheard (t : Twn) (v : Int) : Nat := match t.ws v with
 | none => 0
 | some w => t.b.ds.length - w.seen
theorem send_zero {t : Twn} {v : Int} {w : Wr} (hc : (sendT t v w).1 = 0) : ∃ d, w.opens[w.sent]? = some d ∧ comesC t.b d = 0 ∧ (sendT t v w).2 = ⟨comesB t.b d, setF t.ws v (some (sentW w))⟩ := by
 unfold sendT at hc ⊢
 cases hd : w.opens[w.sent]? with
 | none => rw [hd] at hc; cases hc
 | some d =>
  rw [hd] at hc
  have hc' : comesC t.b d = 0 := hc
  refine ⟨d, rfl, hc', ?_⟩
  show (if comesC t.b d = 0 then _ else _) = _
  rw [if_pos hc']
theorem hear_zero {t : Twn} {v : Int} {w : Wr} (hc : (hearT t v w).1 = 0) : ∃ d, t.b.ds[w.seen]? = some d ∧ hearC w d = 0 ∧ (hearT t v w).2 = ⟨saysB t.b v (hearW w d).least, setF t.ws v (some (hearW w d))⟩ := by
 unfold hearT at hc ⊢
 cases hd : t.b.ds[w.seen]? with
 | none => rw [hd] at hc; cases hc
 | some d =>
  rw [hd] at hc
  by_cases hz : hearC w d = 0
  ·refine ⟨d, rfl, hz, ?_⟩
   show (if hearC w d = 0 then _ else _ : Int × Twn).2 = _
   rw [if_pos hz]
  ·have hc' : (if hearC w d = 0 then (saysC t.b v (hearW w d).least, (⟨saysB t.b v (hearW w d).least, setF t.ws v (some (hearW w d))⟩ : Twn)) else (hearC w d, dropT t v)).1 = 0 := hc
   rw [if_neg hz] at hc'
   exact absurd hc' hz
theorem unsent_less {t : Twn} {v : Int} {w : Wr} (hw : t.ws v = some w) (hc : (sendT t v w).1 = 0) : unsent (sendT t v w).2 v < unsent t v := by
 obtain ⟨d, hd, _, he⟩ := send_zero hc
 have hl := (List.getElem?_eq_some_iff.1 hd).1
 have e1 : (sendT t v w).2.ws v = some (sentW w) := by rw [he]; exact setF_same _ _ _
 unfold unsent
 rw [e1, hw]
 show w.opens.length - (w.sent + 1) < w.opens.length - w.sent
 omega
theorem unheard_less {t : Twn} {v : Int} {w : Wr} (hw : t.ws v = some w) (hc : (hearT t v w).1 = 0) : unheard (hearT t v w).2 v < unheard t v := by
 obtain ⟨d, hd, _, he⟩ := hear_zero hc
 have hl := (List.getElem?_eq_some_iff.1 hd).1
 have e1 : (hearT t v w).2.ws v = some (hearW w d) := by rw [he]; exact setF_same _ _ _
 unfold unheard
 rw [e1, hw, hear_ds]
 show t.b.ds.length - (hearW w d).seen < t.b.ds.length - w.seen
 rw [(hearW_me w d).2]
 omega
def sendAll (t : Twn) (v : Int) : Twn :=
 match _hw : t.ws v with
 | none => t
 | some w => if _hc : (sendT t v w).1 = 0 then sendAll (sendT t v w).2 v else (sendT t v w).2
termination_by unsent t v
decreasing_by exact unsent_less _hw _hc
def hearAll (t : Twn) (v : Int) : Twn :=
 match _hw : t.ws v with
 | none => t
 | some w => if _hc : (hearT t v w).1 = 0 then hearAll (hearT t v w).2 v else (hearT t v w).2
termination_by unheard t v
decreasing_by exact unheard_less _hw _hc
theorem sendAll_none {t : Twn} {v : Int} (h : t.ws v = none) : sendAll t v = t := by
 rw [sendAll]
 split
 ·rfl
 ·rename_i w hw; rw [h] at hw; cases hw
theorem sendAll_some {t : Twn} {v : Int} {w : Wr} (h : t.ws v = some w) : sendAll t v = if (sendT t v w).1 = 0 then sendAll (sendT t v w).2 v else (sendT t v w).2 := by
 rw [sendAll]
 split
 ·rename_i hw; rw [h] at hw; cases hw
 ·rename_i w' hw
  rw [h, Option.some.injEq] at hw
  subst hw
  split <;> rfl
theorem hearAll_none {t : Twn} {v : Int} (h : t.ws v = none) : hearAll t v = t := by
 rw [hearAll]
 split
 ·rfl
 ·rename_i w hw; rw [h] at hw; cases hw
theorem hearAll_some {t : Twn} {v : Int} {w : Wr} (h : t.ws v = some w) : hearAll t v = if (hearT t v w).1 = 0 then hearAll (hearT t v w).2 v else (hearT t v w).2 := by
 rw [hearAll]
 split
 ·rename_i hw; rw [h] at hw; cases hw
 ·rename_i w' hw
  rw [h, Option.some.injEq] at hw
  subst hw
  split <;> rfl
theorem sendAll_ind {v : Int} (P : Twn → Prop) (hs : ∀ t w, P t → t.ws v = some w → P (sendT t v w).2) : ∀ (n : Nat) (t : Twn), unsent t v = n → P t → P (sendAll t v) := by
 intro n
 induction n using Nat.strongRecOn with
 | ind n ih =>
  intro t hn h
  cases hw : t.ws v with
  | none => rw [sendAll_none hw]; exact h
  | some w =>
   rw [sendAll_some hw]
   split
   ·rename_i hc
    exact ih _ (by rw [← hn]; exact unsent_less hw hc) _ rfl (hs t w h hw)
   ·exact hs t w h hw
theorem hearAll_ind {v : Int} (P : Twn → Prop) (hs : ∀ t w, P t → t.ws v = some w → P (hearT t v w).2) : ∀ (n : Nat) (t : Twn), unheard t v = n → P t → P (hearAll t v) := by
 intro n
 induction n using Nat.strongRecOn with
 | ind n ih =>
  intro t hn h
  cases hw : t.ws v with
  | none => rw [hearAll_none hw]; exact h
  | some w =>
   rw [hearAll_some hw]
   split
   ·rename_i hc
    exact ih _ (by rw [← hn]; exact unheard_less hw hc) _ rfl (hs t w h hw)
   ·exact hs t w h hw
theorem sendAll_end {v : Int} : ∀ (n : Nat) (t : Twn), unsent t v = n → TwI t → SentAll (sendAll t v) v := by
 intro n
 induction n using Nat.strongRecOn with
 | ind n ih =>
  intro t hn h
  cases hw : t.ws v with
  | none =>
   rw [sendAll_none hw]
   intro w' hw'
   rw [hw] at hw'; cases hw'
  | some w =>
   rw [sendAll_some hw]
   split
   ·rename_i hc
    exact ih _ (by rw [← hn]; exact unsent_less hw hc) _ rfl (ti_send h hw)
   ·rename_i hc
    exact send_end h hw hc
theorem hearAll_end {v : Int} : ∀ (n : Nat) (t : Twn), unheard t v = n → TwI t → HeardAll (hearAll t v) v := by
 intro n
 induction n using Nat.strongRecOn with
 | ind n ih =>
  intro t hn h
  cases hw : t.ws v with
  | none =>
   rw [hearAll_none hw]
   intro w' hw'
   rw [hw] at hw'; cases hw'
  | some w =>
   rw [hearAll_some hw]
   split
   ·rename_i hc
    exact ih _ (by rw [← hn]; exact unheard_less hw hc) _ rfl (ti_hear h hw).1
   ·rename_i hc
    exact hear_end h hw hc
def sendTo : Nat → Twn → Twn
 | 0, t => t
 | n + 1, t => sendAll (sendTo n t) n
def hearTo : Nat → Twn → Twn
 | 0, t => t
 | n + 1, t => hearAll (hearTo n t) n
def settleT (t : Twn) : Twn := hearTo 4 (sendTo 4 t)
theorem ti_sendTo {t : Twn} (h : TwI t) : ∀ n, TwI (sendTo n t)
 | 0 => h
 | n + 1 => sendAll_ind TwI (fun _ _ ht hw => ti_send ht hw) _ _ rfl (ti_sendTo h n)
theorem ti_hearTo {t : Twn} (h : TwI t) : ∀ n, TwI (hearTo n t)
 | 0 => h
 | n + 1 => hearAll_ind TwI (fun _ _ ht hw => (ti_hear ht hw).1) _ _ rfl (ti_hearTo h n)
theorem ti_settle {t : Twn} (h : TwI t) : TwI (settleT t) := ti_hearTo (ti_sendTo h 4) 4
theorem sentTo {t : Twn} (h : TwI t) : ∀ (n k : Nat), k < n → SentAll (sendTo n t) k
 | 0, _, hk => absurd hk (Nat.not_lt_zero _)
 | n + 1, k, hk => by
  by_cases e : k = n
  ·subst e
   exact sendAll_end _ _ rfl (ti_sendTo h k)
  ·exact sendAll_ind (fun t => SentAll t k) (fun t w ht _ => send_other (by omega) ht) _ _ rfl (sentTo h n k (by omega))
theorem hearTo_sent {t : Twn} {k : Int} (h : SentAll t k) : ∀ n, SentAll (hearTo n t) k
 | 0 => h
 | n + 1 => hearAll_ind (fun t => SentAll t k) (fun _ _ ht hw => hear_sent hw ht) _ _ rfl (hearTo_sent h n)
theorem heardTo {t : Twn} (h : TwI t) : ∀ (n k : Nat), k < n → HeardAll (hearTo n t) k
 | 0, _, hk => absurd hk (Nat.not_lt_zero _)
 | n + 1, k, hk => by
  by_cases e : k = n
  ·subst e
   exact hearAll_end _ _ rfl (ti_hearTo h k)
  ·exact hearAll_ind (fun t => HeardAll t k) (fun t w ht _ => hear_other_heard (by omega) ht) _ _ rfl (heardTo h n k (by omega))
theorem settle_all {t : Twn} (h : TwI t) (k : Int) : SentAll (settleT t) k ∧ HeardAll (settleT t) k := by
 by_cases hk : wrB k = true
 ·have hk' : 0 ≤ k ∧ k ≤ 3 := by simpa [wrB] using hk
  obtain ⟨n, rfl⟩ : ∃ n : Nat, k = n := ⟨k.toNat, by omega⟩
  exact ⟨hearTo_sent (sentTo h 4 n (by omega)) 4, heardTo (ti_sendTo h 4) 4 n (by omega)⟩
 ·have hn := (ti_settle h).none k (by simpa using hk)
  exact ⟨fun w hw => (by rw [hn] at hw; cases hw), fun w hw => (by rw [hn] at hw; cases hw)⟩
theorem settle_text {t : Twn} (h : TwI t) {k : Int} {w : Wr} (hw : (settleT t).ws k = some w) : w.opens = [] ∧ w.seen = (settleT t).b.ds.length ∧ vw w.list w.seen w.me = textL (settleT t).b.chars :=
 settled_text (ti_settle h) hw (settle_all h k).1 (settle_all h k).2
theorem hearTo_ds {t : Twn} : ∀ n, (hearTo n t).b.ds = t.b.ds
 | 0 => rfl
 | n + 1 => by
  have := hearAll_ind (v := (n : Int)) (fun u => u.b.ds = t.b.ds) (fun u w hu _ => by rw [hear_ds]; exact hu) _ _ rfl (hearTo_ds (t := t) n)
  exact this
theorem sendAll_same {t : Twn} {v : Int} (h : SentAll t v) : sendAll t v = t := by
 cases hw : t.ws v with
 | none => exact sendAll_none hw
 | some w =>
  have hs := h w hw
  have hd : w.opens[w.sent]? = none := List.getElem?_eq_none_iff.2 (by omega)
  have he : sendT t v w = (5, t) := by unfold sendT; rw [hd]
  rw [sendAll_some hw, he]
  rfl
theorem hearAll_same {t : Twn} {v : Int} (h : HeardAll t v) : hearAll t v = t := by
 cases hw : t.ws v with
 | none => exact hearAll_none hw
 | some w =>
  have hs := h w hw
  have hd : t.b.ds[w.seen]? = none := List.getElem?_eq_none_iff.2 (by omega)
  have he : hearT t v w = (5, t) := by unfold hearT; rw [hd]
  rw [hearAll_some hw, he]
  rfl
theorem sendAll_one {t : Twn} {v : Int} {w : Wr} {d : Dd} (hw : t.ws v = some w) (hd : w.opens[w.sent]? = some d) (hl : w.opens.length = w.sent + 1) :
 (comesC t.b d = 0 ∧ sendAll t v = ⟨comesB t.b d, setF t.ws v (some (sentW w))⟩) ∨ (comesC t.b d ≠ 0 ∧ sendAll t v = dropT t v) := by
 have he : sendT t v w = (comesC t.b d, if comesC t.b d = 0 then ⟨comesB t.b d, setF t.ws v (some (sentW w))⟩ else dropT t v) := by
  unfold sendT; rw [hd]
 rw [sendAll_some hw, he]
 by_cases hc : comesC t.b d = 0
 ·refine .inl ⟨hc, ?_⟩
  show (if comesC t.b d = 0 then sendAll (if comesC t.b d = 0 then _ else _) v else _) = _
  rw [if_pos hc, if_pos hc]
  refine sendAll_same (fun w' hw' => ?_)
  have : setF t.ws v (some (sentW w)) v = some w' := hw'
  rw [setF_same, Option.some.injEq] at this
  subst this
  exact hl.symm
 ·refine .inr ⟨hc, ?_⟩
  show (if comesC t.b d = 0 then _ else (if comesC t.b d = 0 then _ else _)) = _
  rw [if_neg hc, if_neg hc]
theorem chars_ds {b b' : Bk} (h : b.ds = b'.ds) : b.chars = b'.chars := by unfold Bk.chars; rw [h]
end Go.Proofs.YtnabhdfodckpdacGreat
