/-
  Plain mathematics of desks: settled, all see the text; what one alone writes; to clear changes nothing. No walk.
-/
import Derived.Test.YtfpemdbiplfkgacGreatTPlain
namespace Go.Proofs.YtfpemdbiplfkgacGreat

/-- What a deed makes of a plain text. -/
def spliceL (t : List Int) (d : Dd) : List Int := if d.kind = 1 then t.take d.at_.toNat ++ (nums d.text ++ t.drop d.at_.toNat) else t.take d.at_.toNat ++ t.drop (d.at_ + d.many).toNat

theorem vw_does {l : List Ch} {d : Dd} {n : Int} (h : Fit l d) : vw (doL l d n) d.seen d.by_ = spliceL (vw l d.seen d.by_) d := by
  have hp := check_parts h.1
  have hs : d.seen < openN := by have := hp.2.2.2.2.2.1; show d.seen < 1073741824; omega
  unfold spliceL
  by_cases hk : d.kind = 1
  · rw [if_pos hk, put_splices hk (fit_at h) hs]
  · rw [if_neg hk, take_splices hk hp.2.1 hp.2.2.2.2.2.2.2.2.1]

/-- A deed of one that has seen all does to the text what it means. -/
theorem text_comes {b : Bk} (hg : Good b) {d : Dd} (hc : comesC b d = 0) (hs : d.seen = b.len) : textL (comesB b d).chars = spliceL (textL b.chars) d := by
  obtain ⟨_, _, _, _, h5, h6⟩ := comes_parts hc
  have hg' := good_comes d hg
  have hch : (comesB b d).chars = doL b.chars d (b.len + 1) := by
    rw [comes_eq hc, Bk.chars]
    show (allL [] 0 (b.ds ++ [d])).1 = _
    rw [chars_comes hg hc]
  have hlen : ((comesB b d).ds.length : Int) = b.len + 1 := by
    rw [comes_eq hc]
    show (((b.ds ++ [d]).length : Nat) : Int) = _
    rw [List.length_append]
    unfold Bk.len
    simp
  have hfit := fit_of h6
  have h1 := vw_text hg' (me := d.by_)
  rw [hlen, hch] at h1
  have hup : Upto d.by_ b.len (doL b.chars d openN) := upto_do (by rw [← chars_all]; exact chars_upto hg (Nat.le_refl _) d.by_) rfl (by unfold Bk.len; omega)
  have h2 := vw_ack (ack_do (n := b.len + 1) (l := b.chars) (fit_wr hfit) (by show b.len + 1 ≠ 1073741824; omega)) hup
  rw [hch, ← h1, h2]
  have h3 := vw_does (n := openN) hfit
  rw [hs] at h3
  have h4 := vw_text hg (me := d.by_)
  have h5' : (b.len : Int) = (b.ds.length : Int) := rfl
  rw [h3, h5', h4]

/-- What its writer sees behind a deed of its own. -/
theorem vw_own {w : Wr} {e : Dd} (hb : e.by_ = w.me) (hs : e.seen = w.seen) (hc : doC w.list e openN = 0) : vw (doesW w e).list w.seen w.me = spliceL (vw w.list w.seen w.me) e := by
  have := vw_does (n := openN) (fit_of hc)
  rw [hs, hb] at this
  show vw (onTop w.base (w.opens ++ [e])) w.seen w.me = _
  rw [onTop_snoc]
  exact this

/-! Settled. -/

def SentAll (t : Twn) (k : Int) : Prop := ∀ w, t.ws k = some w → w.sent = w.opens.length
def HeardAll (t : Twn) (k : Int) : Prop := ∀ w, t.ws k = some w → w.seen = t.b.ds.length

theorem says_ds (b : Bk) (v n : Int) : (saysB b v n).ds = b.ds := by unfold saysB; split <;> rfl
theorem leave_ds (b : Bk) (v : Int) : (leaveB b v).ds = b.ds := by unfold leaveB; split <;> rfl

/-- Where nothing more is sent all is sent, or it is gone. -/
theorem send_end {t : Twn} (h : TwI t) {v : Int} {w : Wr} (hw : t.ws v = some w) (hc : (sendT t v w).1 ≠ 0) : SentAll (sendT t v w).2 v := by
  obtain ⟨_, c, hi⟩ := h.wi v w hw
  unfold sendT at hc ⊢
  cases hd : w.opens[w.sent]? with
  | none =>
    intro w' hw'
    have hw'' : t.ws v = some w' := hw'
    rw [hw, Option.some.injEq] at hw''
    subst hw''
    have h1 := List.getElem?_eq_none_iff.1 hd
    have h2 := hi.sent
    omega
  | some d =>
    rw [hd] at hc
    have hc' : comesC t.b d ≠ 0 := hc
    intro w' hw'
    have hw'' : (if comesC t.b d = 0 then (⟨comesB t.b d, setF t.ws v (some (sentW w))⟩ : Twn) else dropT t v).ws v = some w' := hw'
    rw [if_neg hc'] at hw''
    have : setF t.ws v none v = some w' := hw''
    rw [setF_same] at this
    cases this

theorem send_other {t : Twn} {v k : Int} {w : Wr} (hk : k ≠ v) (h : SentAll t k) : SentAll (sendT t v w).2 k := by
  unfold sendT
  cases w.opens[w.sent]? with
  | none => exact h
  | some d =>
    intro w' hw'
    have hw'' : (if comesC t.b d = 0 then (⟨comesB t.b d, setF t.ws v (some (sentW w))⟩ : Twn) else dropT t v).ws k = some w' := hw'
    split at hw''
    · have : setF t.ws v (some (sentW w)) k = some w' := hw''
      rw [setF_other _ _ hk] at this
      exact h w' this
    · have : setF t.ws v none k = some w' := hw''
      rw [setF_other _ _ hk] at this
      exact h w' this

theorem hearW_sent {w : Wr} {d : Dd} (h : w.sent = w.opens.length) : (hearW w d).sent = (hearW w d).opens.length := by
  unfold hearW
  split
  · exact h
  · show w.sent - 1 = w.opens.tail.length
    rw [List.length_tail, h]

theorem hear_sent {t : Twn} {v k : Int} {w : Wr} (hw : t.ws v = some w) (h : SentAll t k) : SentAll (hearT t v w).2 k := by
  unfold hearT
  cases t.b.ds[w.seen]? with
  | none => exact h
  | some d =>
    intro w' hw'
    have hw'' : (if hearC w d = 0 then (saysC t.b v (hearW w d).least, (⟨saysB t.b v (hearW w d).least, setF t.ws v (some (hearW w d))⟩ : Twn)) else (hearC w d, dropT t v)).2.ws k = some w' := hw'
    by_cases hk : k = v
    · subst hk
      split at hw''
      · have : setF t.ws k (some (hearW w d)) k = some w' := hw''
        rw [setF_same, Option.some.injEq] at this
        subst this
        exact hearW_sent (h w hw)
      · have : setF t.ws k none k = some w' := hw''
        rw [setF_same] at this
        cases this
    · split at hw''
      · have : setF t.ws v (some (hearW w d)) k = some w' := hw''
        rw [setF_other _ _ hk] at this
        exact h w' this
      · have : setF t.ws v none k = some w' := hw''
        rw [setF_other _ _ hk] at this
        exact h w' this

theorem hear_ds (t : Twn) (v : Int) (w : Wr) : (hearT t v w).2.b.ds = t.b.ds := by
  unfold hearT
  cases t.b.ds[w.seen]? with
  | none => rfl
  | some d =>
    show (if hearC w d = 0 then (saysC t.b v (hearW w d).least, (⟨saysB t.b v (hearW w d).least, setF t.ws v (some (hearW w d))⟩ : Twn)) else (hearC w d, dropT t v)).2.b.ds = _
    split
    · exact says_ds _ _ _
    · exact leave_ds _ _

theorem hear_other_heard {t : Twn} {v k : Int} {w : Wr} (hk : k ≠ v) (h : HeardAll t k) : HeardAll (hearT t v w).2 k := by
  intro w' hw'
  rw [hear_ds]
  refine h w' ?_
  unfold hearT at hw'
  cases hd : t.b.ds[w.seen]? with
  | none => rw [hd] at hw'; exact hw'
  | some d =>
    rw [hd] at hw'
    have hw'' : (if hearC w d = 0 then (saysC t.b v (hearW w d).least, (⟨saysB t.b v (hearW w d).least, setF t.ws v (some (hearW w d))⟩ : Twn)) else (hearC w d, dropT t v)).2.ws k = some w' := hw'
    split at hw''
    · have : setF t.ws v (some (hearW w d)) k = some w' := hw''
      rw [setF_other _ _ hk] at this
      exact this
    · have : setF t.ws v none k = some w' := hw''
      rw [setF_other _ _ hk] at this
      exact this

theorem hear_end {t : Twn} (h : TwI t) {v : Int} {w : Wr} (hw : t.ws v = some w) (hc : (hearT t v w).1 ≠ 0) : HeardAll (hearT t v w).2 v := by
  obtain ⟨_, c, hi⟩ := h.wi v w hw
  have h0 := (ti_hear h hw).2
  intro w' hw'
  rw [hear_ds]
  unfold hearT at hw'
  cases hd : t.b.ds[w.seen]? with
  | none =>
    rw [hd] at hw'
    have hw'' : t.ws v = some w' := hw'
    rw [hw, Option.some.injEq] at hw''
    subst hw''
    have h1 := List.getElem?_eq_none_iff.1 hd
    have h2 := hi.seen
    omega
  | some d =>
    rw [hd] at hw'
    have hn : hearC w d ≠ 0 := fun e => hc (h0 d hd e)
    have hw'' : (if hearC w d = 0 then (saysC t.b v (hearW w d).least, (⟨saysB t.b v (hearW w d).least, setF t.ws v (some (hearW w d))⟩ : Twn)) else (hearC w d, dropT t v)).2.ws v = some w' := hw'
    rw [if_neg hn] at hw''
    have : setF t.ws v none v = some w' := hw''
    rw [setF_same] at this
    cases this

/-- ALL COME TO THE SAME TEXT. -/
theorem settled_text {t : Twn} (h : TwI t) {k : Int} {w : Wr} (hw : t.ws k = some w) (hs : SentAll t k) (hh : HeardAll t k) : w.opens = [] ∧ w.seen = t.b.ds.length ∧ vw w.list w.seen w.me = textL t.b.chars := by
  obtain ⟨_, c, hi⟩ := h.wi k w hw
  obtain ⟨h1, h2⟩ := hi.settled h.good (hh w hw) (hs w hw)
  exact ⟨h1, hh w hw, h2⟩

/-! To clear changes nothing. -/

theorem doC_less {l : List Ch} {e : Dd} {c n : Int} (hs : c ≤ e.seen) (h : doC l e n ≠ 9) : doC (ofL c l) e n = doC l e n := by
  have hl := ofL_le c l
  have hm : mayC l e ≠ 9 := fun x => h (by rw [doC, if_pos (by rw [x]; decide), x])
  have : mayC (ofL c l) e = mayC l e := by
    unfold mayC at hm ⊢
    rw [cnt_of _ hs]
    split
    · rfl
    · split
      · rfl
      · rename_i h1 h2
        rw [if_neg h1, if_neg h2] at hm
        by_cases h3 : 200 < l.length + e.text.size
        · rw [if_pos h3] at hm; exact absurd rfl hm
        · rw [if_neg h3, if_neg (by omega)]
  unfold doC
  rw [this]

def SameW (w w' : Wr) : Prop := w.me = w'.me ∧ w.seen = w'.seen ∧ w.next = w'.next ∧ w.opens = w'.opens ∧ w.sent = w'.sent

/-- Desks that cleared, and the same without. -/
structure Twin (t u : Twn) : Prop where
  ti : TwI t
  ui : TwI u
  same : t.b = u.b
  bare : ∀ k w, u.ws k = some w → w.base = charsTo u.b.ds w.seen
  both : ∀ k, (t.ws k = none ∧ u.ws k = none) ∨ ∃ w w', t.ws k = some w ∧ u.ws k = some w' ∧ SameW w w'

theorem Twin.list {t u : Twn} (h : Twin t u) {k : Int} {w w' : Wr} (hw : t.ws k = some w) (hw' : u.ws k = some w') (hs : SameW w w') : ∃ c, WI t.b c w ∧ w.list = ofL c w'.list := by
  obtain ⟨_, c, hi⟩ := h.ti.wi k w hw
  refine ⟨c, hi, ?_⟩
  obtain ⟨s1, s2, s3, s4, s5⟩ := hs
  rw [(hi.list_eq h.ti.good).2, Wr.list, h.bare k w' hw', h.same, s2, s4]

/-- Both see the same. -/
theorem Twin.view {t u : Twn} (h : Twin t u) {k : Int} {w w' : Wr} (hw : t.ws k = some w) (hw' : u.ws k = some w') (hs : SameW w w') : vw w.list w.seen w.me = vw w'.list w'.seen w'.me := by
  obtain ⟨c, hi, hl⟩ := h.list hw hw' hs
  rw [hl, vw_of _ hi.cs, hs.1, hs.2.1]

theorem Twin.start : Twin ⟨Bk.empty, fun _ => none⟩ ⟨Bk.empty, fun _ => none⟩ :=
  ⟨twn_start, twn_start, rfl, fun _ _ h => (by cases h), fun _ => .inl ⟨rfl, rfl⟩⟩

theorem Twin.clears {t u : Twn} (h : Twin t u) (s : Tst) (hk : s.kind = 6) : Twin (tDo t s).2 u := by
  refine ⟨ti_do h.ti s, h.ui, ?_, h.bare, ?_⟩
  · rw [← h.same]
    unfold tDo
    rw [if_neg (by omega), if_neg (by omega)]
    cases hw : t.ws s.w with
    | none => rfl
    | some w =>
      show (if s.kind = 2 ∨ s.kind = 3 then ownT t s.w w s else if s.kind = 4 then sendT t s.w w else if s.kind = 5 then hearT t s.w w
          else if s.kind = 6 then (0, ⟨t.b, setF t.ws s.w (some (clearW w (leastFor t.b w.seen)))⟩) else (0, dropT t s.w)).2.b = t.b
      rw [if_neg (by omega), if_neg (by omega), if_neg (by omega), if_pos hk]
  · intro k
    unfold tDo
    rw [if_neg (by omega), if_neg (by omega)]
    cases hw : t.ws s.w with
    | none => exact h.both k
    | some w =>
      show ((if s.kind = 2 ∨ s.kind = 3 then ownT t s.w w s else if s.kind = 4 then sendT t s.w w else if s.kind = 5 then hearT t s.w w
          else if s.kind = 6 then (0, ⟨t.b, setF t.ws s.w (some (clearW w (leastFor t.b w.seen)))⟩) else (0, dropT t s.w)).2.ws k = none ∧ _) ∨ ∃ w1 w', (if s.kind = 2 ∨ s.kind = 3 then ownT t s.w w s else if s.kind = 4 then sendT t s.w w else if s.kind = 5 then hearT t s.w w
          else if s.kind = 6 then (0, ⟨t.b, setF t.ws s.w (some (clearW w (leastFor t.b w.seen)))⟩) else (0, dropT t s.w)).2.ws k = some w1 ∧ _
      rw [if_neg (by omega), if_neg (by omega), if_neg (by omega), if_pos hk]
      show (setF t.ws s.w (some (clearW w (leastFor t.b w.seen))) k = none ∧ _) ∨ ∃ w1 w', setF t.ws s.w (some (clearW w (leastFor t.b w.seen))) k = some w1 ∧ _
      by_cases e : k = s.w
      · subst e
        rcases h.both s.w with ⟨h1, _⟩ | ⟨w1, w', h1, h2, h3⟩
        · rw [hw] at h1; cases h1
        · rw [hw, Option.some.injEq] at h1
          subst h1
          exact .inr ⟨_, w', setF_same _ _ _, h2, h3⟩
      · rw [setF_other _ _ e]
        exact h.both k

theorem twin_set {b b' : Bk} {tw uw : Int → Option Wr} {v : Int} {w1 w1' : Wr} (h : Twin ⟨b, tw⟩ ⟨b, uw⟩) (ti : TwI ⟨b', setF tw v (some w1)⟩) (ui : TwI ⟨b', setF uw v (some w1')⟩) (hs : SameW w1 w1') (hb : w1'.base = charsTo b'.ds w1'.seen)
    (ho : ∀ k w, uw k = some w → charsTo b'.ds w.seen = charsTo b.ds w.seen) : Twin ⟨b', setF tw v (some w1)⟩ ⟨b', setF uw v (some w1')⟩ := by
  refine ⟨ti, ui, rfl, fun k w hw => ?_, fun k => ?_⟩
  · have hw' : setF uw v (some w1') k = some w := hw
    by_cases e : k = v
    · subst e
      rw [setF_same, Option.some.injEq] at hw'
      subst hw'
      exact hb
    · rw [setF_other _ _ e] at hw'
      show w.base = charsTo b'.ds w.seen
      rw [ho k w hw']
      exact h.bare k w hw'
  · show (setF tw v (some w1) k = none ∧ setF uw v (some w1') k = none) ∨ ∃ w w', setF tw v (some w1) k = some w ∧ setF uw v (some w1') k = some w' ∧ SameW w w'
    by_cases e : k = v
    · subst e
      exact .inr ⟨w1, w1', setF_same _ _ _, setF_same _ _ _, hs⟩
    · rw [setF_other _ _ e, setF_other _ _ e]
      exact h.both k

theorem twin_drop {b : Bk} {tw uw : Int → Option Wr} {v : Int} (h : Twin ⟨b, tw⟩ ⟨b, uw⟩) (hv : b.isHere v = true) : Twin (dropT ⟨b, tw⟩ v) (dropT ⟨b, uw⟩ v) := by
  refine ⟨h.ti.drop hv, h.ui.drop hv, rfl, fun k w hw => ?_, fun k => ?_⟩
  · have hw' : setF uw v none k = some w := hw
    by_cases e : k = v
    · subst e
      rw [setF_same] at hw'; cases hw'
    · rw [setF_other _ _ e] at hw'
      show w.base = charsTo (leaveB b v).ds w.seen
      rw [leave_ds]
      exact h.bare k w hw'
  · show (setF tw v none k = none ∧ setF uw v none k = none) ∨ ∃ w w', setF tw v none k = some w ∧ setF uw v none k = some w' ∧ SameW w w'
    by_cases e : k = v
    · subst e
      exact .inl ⟨setF_same _ _ _, setF_same _ _ _⟩
    · rw [setF_other _ _ e, setF_other _ _ e]
      exact h.both k

theorem same_least {w w' : Wr} (h : SameW w w') : w.least = w'.least := by
  unfold Wr.least
  rw [h.2.1, h.2.2.2.1, h.2.2.2.2]
theorem same_hear {w w' : Wr} (h : SameW w w') (d : Dd) : SameW (hearW w d) (hearW w' d) := by
  obtain ⟨h1, h2, h3, h4, h5⟩ := h
  unfold hearW
  rw [h1]
  split
  · exact ⟨rfl, by show w.seen + 1 = w'.seen + 1; rw [h2], h3, h4, h5⟩
  · exact ⟨rfl, by show w.seen + 1 = w'.seen + 1; rw [h2], h3, by show w.opens.tail = w'.opens.tail; rw [h4], by show w.sent - 1 = w'.sent - 1; rw [h5]⟩

/-- TO CLEAR CHANGES NOTHING: any other step tells both the same, as long as nothing is full. -/
theorem Twin.steps {t u : Twn} (h : Twin t u) (s : Tst) (hk : s.kind ≠ 6) (h9 : (tDo u s).1 ≠ 9) (hgo : ∀ w, u.ws s.w = some w → (tDo u s).2.ws s.w ≠ none ∨ s.kind = 7) :
    (tDo t s).1 = (tDo u s).1 ∧ Twin (tDo t s).2 (tDo u s).2 := by
  have ht' := ti_do h.ti s
  have hu' := ti_do h.ui s
  obtain ⟨tb, tw⟩ := t
  obtain ⟨ub, uw⟩ := u
  obtain rfl : tb = ub := h.same
  have hg := h.ti.good
  have hg : Good tb := hg
  unfold tDo at h9 hgo ht' hu' ⊢
  by_cases k0 : s.kind < 1 ∨ 7 < s.kind
  · rw [if_pos k0, if_pos k0]
    exact ⟨rfl, h⟩
  rw [if_neg k0] at h9 hgo ht' hu' ⊢
  rw [if_neg k0]
  by_cases k1 : s.kind = 1
  · rw [if_pos k1] at ht' hu' ⊢
    rw [if_pos k1]
    refine ⟨rfl, ?_⟩
    unfold joinT at ht' hu' ⊢
    show Twin (if joinC tb s.w = 0 then _ else _) (if joinC tb s.w = 0 then _ else _)
    by_cases hc : joinC tb s.w = 0
    · have ht2 : TwI (if joinC tb s.w = 0 then (⟨joinB tb s.w, setF tw s.w (some (newW tb s.w))⟩ : Twn) else ⟨tb, tw⟩) := ht'
      have hu2 : TwI (if joinC tb s.w = 0 then (⟨joinB tb s.w, setF uw s.w (some (newW tb s.w))⟩ : Twn) else ⟨tb, uw⟩) := hu'
      rw [if_pos hc] at ht2 hu2 ⊢
      rw [if_pos hc]
      have hds : (joinB tb s.w).ds = tb.ds := by rw [joinB, if_pos hc]
      refine twin_set h ht2 hu2 ⟨rfl, rfl, rfl, rfl, rfl⟩ ?_ (fun _ _ _ => by rw [hds])
      show tb.chars = charsTo (joinB tb s.w).ds tb.ds.length
      rw [hds, chars_all]
    · rw [if_neg hc, if_neg hc]; exact h
  rw [if_neg k1] at h9 hgo ht' hu' ⊢
  rw [if_neg k1]
  rcases h.both s.w with ⟨n1, n2⟩ | ⟨w, w', n1, n2, hs⟩
  · have n1' : tw s.w = none := n1
    have n2' : uw s.w = none := n2
    show ((match tw s.w with | none => ((5 : Int), (⟨tb, tw⟩ : Twn)) | some w => _).1 = (match uw s.w with | none => ((5 : Int), (⟨tb, uw⟩ : Twn)) | some w => _).1) ∧ Twin (match tw s.w with | none => ((5 : Int), (⟨tb, tw⟩ : Twn)) | some w => _).2 (match uw s.w with | none => ((5 : Int), (⟨tb, uw⟩ : Twn)) | some w => _).2
    rw [n1', n2']
    exact ⟨rfl, h⟩
  have n1' : tw s.w = some w := n1
  have n2' : uw s.w = some w' := n2
  have hgo' := hgo w' n2'
  simp only [n1'] at ht' ⊢
  simp only [n2'] at h9 hgo' hu' ⊢
  obtain ⟨c, hi, hl⟩ := h.list n1 n2 hs
  have hi : WI tb c w := hi
  obtain ⟨_, c2, hi2⟩ := h.ui.wi s.w w' n2
  have hi2 : WI tb c2 w' := hi2
  have hbare : w'.base = charsTo tb.ds w'.seen := h.bare s.w w' n2
  obtain ⟨s1, s2, s3, s4, s5⟩ := hs
  by_cases k2 : s.kind = 2 ∨ s.kind = 3
  · simp only [if_pos k2] at h9 ht' hu' ⊢
    have he : ownD w s = ownD w' s := by unfold ownD; rw [s1, s2, s3]
    have hes : c ≤ (ownD w' s).seen := by rw [(own_parts w' s).2.2, ← s2]; exact hi.cs
    have hcode : doC w.list (ownD w s) openN = doC w'.list (ownD w' s) openN := by
      rw [he, hl]
      exact doC_less hes h9
    unfold ownT at ht' hu' ⊢
    refine ⟨hcode, ?_⟩
    show Twin (if doC w.list (ownD w s) openN = 0 then _ else _) (if doC w'.list (ownD w' s) openN = 0 then _ else _)
    rw [hcode]
    by_cases hc : doC w'.list (ownD w' s) openN = 0
    · have ht2 : TwI (if doC w.list (ownD w s) openN = 0 then (⟨tb, setF tw s.w (some (doesW w (ownD w s)))⟩ : Twn) else ⟨tb, tw⟩) := ht'
      have hu2 : TwI (if doC w'.list (ownD w' s) openN = 0 then (⟨tb, setF uw s.w (some (doesW w' (ownD w' s)))⟩ : Twn) else ⟨tb, uw⟩) := hu'
      rw [hcode, if_pos hc] at ht2
      rw [if_pos hc] at hu2 ⊢
      rw [if_pos hc]
      refine twin_set h ht2 hu2 ⟨s1, s2, by show w.next + 1 = w'.next + 1; rw [s3], by show w.opens ++ _ = w'.opens ++ _; rw [s4, he], s5⟩ hbare (fun _ _ _ => rfl)
    · rw [if_neg hc, if_neg hc]; exact h
  simp only [if_neg k2] at h9 hgo' ht' hu' ⊢
  by_cases k4 : s.kind = 4
  · simp only [if_pos k4] at hgo' ht' hu' ⊢
    unfold sendT at hgo' ht' hu' ⊢
    rw [← s4, ← s5] at hgo' hu' ⊢
    cases hd : w.opens[w.sent]? with
    | none => exact ⟨rfl, h⟩
    | some d =>
      rw [hd] at hgo' ht' hu'
      refine ⟨rfl, ?_⟩
      show Twin (if comesC tb d = 0 then (⟨comesB tb d, setF tw s.w (some (sentW w))⟩ : Twn) else dropT ⟨tb, tw⟩ s.w) (if comesC tb d = 0 then (⟨comesB tb d, setF uw s.w (some (sentW w'))⟩ : Twn) else dropT ⟨tb, uw⟩ s.w)
      have ht2 : TwI (if comesC tb d = 0 then (⟨comesB tb d, setF tw s.w (some (sentW w))⟩ : Twn) else dropT ⟨tb, tw⟩ s.w) := ht'
      have hu2 : TwI (if comesC tb d = 0 then (⟨comesB tb d, setF uw s.w (some (sentW w'))⟩ : Twn) else dropT ⟨tb, uw⟩ s.w) := hu'
      have hg2 : (if comesC tb d = 0 then (⟨comesB tb d, setF uw s.w (some (sentW w'))⟩ : Twn) else dropT ⟨tb, uw⟩ s.w).ws s.w ≠ none ∨ s.kind = 7 := hgo'
      by_cases hc : comesC tb d = 0
      · rw [if_pos hc] at ht2 hu2 ⊢
        rw [if_pos hc]
        have hpre : ∀ i, i ≤ tb.ds.length → charsTo (comesB tb d).ds i = charsTo tb.ds i := fun i hi' => by
          rw [comes_eq hc]
          exact chars_pre hi'
        refine twin_set h ht2 hu2 ⟨s1, s2, s3, s4, by show w.sent + 1 = w'.sent + 1; rw [s5]⟩ ?_ (fun k x hx => ?_)
        · show w'.base = charsTo (comesB tb d).ds w'.seen
          rw [hpre _ hi2.seen]
          exact hbare
        · obtain ⟨_, c3, hi3⟩ := h.ui.wi k x hx
          exact hpre _ hi3.seen
      · rw [if_neg hc] at hg2
        rcases hg2 with hg2 | hg2
        · exact absurd (setF_same uw s.w none) hg2
        · omega
  simp only [if_neg k4] at h9 hgo' ht' hu' ⊢
  by_cases k5 : s.kind = 5
  · simp only [if_pos k5] at h9 hgo' ht' hu' ⊢
    unfold hearT at h9 hgo' ht' hu' ⊢
    rw [← s2] at h9 hgo' hu' ⊢
    cases hd : tb.ds[w.seen]? with
    | none =>
      exact ⟨rfl, h⟩
    | some d =>
      simp only [hd] at h9 hgo' ht' hu' ⊢
      have hok := hear_ok hi2 hg (d := d) (by rw [← s2]; exact hd)
      have hz : hearC w' d = 0 := by
        rcases hok.1 with h0 | h0
        · exact h0
        · rw [if_neg (by omega)] at h9
          exact absurd h0 h9
      have hz' : hearC w d = 0 := by
        unfold hearC at hz ⊢
        rw [s1, s4]
        by_cases hb : d.by_ ≠ w'.me
        · rw [if_pos hb] at hz ⊢
          rw [s2, hl]
          have hcd : c ≤ d.seen := hi.csee d (by
            obtain ⟨hlt, rfl⟩ := List.getElem?_eq_some_iff.1 hd
            rw [List.drop_eq_getElem_cons hlt]
            exact List.mem_cons_self ..)
          rw [doC_less hcd (by rw [hz]; decide)]
          exact hz
        · rw [if_neg hb] at hz ⊢
          exact hz
      rw [if_pos hz'] at ht'
      rw [if_pos hz] at hu'
      rw [if_pos hz', if_pos hz]
      have hsh := same_hear ⟨s1, s2, s3, s4, s5⟩ d
      have hle := same_least hsh
      rw [hle] at ht' ⊢
      refine ⟨rfl, twin_set h ht' hu' hsh ?_ (fun _ _ _ => by rw [says_ds])⟩
      rw [says_ds, (hearW_me w' d).2]
      obtain ⟨hlt, hde⟩ := List.getElem?_eq_some_iff.1 hd
      have hlt' : w'.seen < tb.ds.length := by rw [← s2]; exact hlt
      have hst := (chars_step hg hlt').2
      have hde' : tb.ds[w'.seen] = d := by rw [← hde]; congr 1; exact s2.symm
      rw [hst, hde', ← hbare]
      unfold hearW
      split <;> rfl
  simp only [if_neg k5, if_neg hk] at ht' hu' ⊢
  exact ⟨trivial, twin_drop h (h.ti.is_here n1).1⟩

end Go.Proofs.YtfpemdbiplfkgacGreat

/-
  Plain mathematics of desks: Settle, as a function, and what holds behind it. No walk.
-/
namespace Go.Proofs.YtfpemdbiplfkgacGreat

def unsent (t : Twn) (v : Int) : Nat := match t.ws v with
  | none => 0
  | some w => w.opens.length - w.sent
def unheard (t : Twn) (v : Int) : Nat := match t.ws v with
  | none => 0
  | some w => t.b.ds.length - w.seen

/-- A code of 0: it was sent. -/
theorem send_zero {t : Twn} {v : Int} {w : Wr} (hc : (sendT t v w).1 = 0) : ∃ d, w.opens[w.sent]? = some d ∧ comesC t.b d = 0 ∧ (sendT t v w).2 = ⟨comesB t.b d, setF t.ws v (some (sentW w))⟩ := by
  unfold sendT at hc ⊢
  cases hd : w.opens[w.sent]? with
  | none => rw [hd] at hc; cases hc
  | some d =>
    rw [hd] at hc
    have hc' : comesC t.b d = 0 := hc
    refine ⟨d, rfl, hc', ?_⟩
    show (if comesC t.b d = 0 then _ else _) = _
    rw [if_pos hc']
theorem hear_zero {t : Twn} {v : Int} {w : Wr} (hc : (hearT t v w).1 = 0) : ∃ d, t.b.ds[w.seen]? = some d ∧ hearC w d = 0 ∧ (hearT t v w).2 = ⟨saysB t.b v (hearW w d).least, setF t.ws v (some (hearW w d))⟩ := by
  unfold hearT at hc ⊢
  cases hd : t.b.ds[w.seen]? with
  | none => rw [hd] at hc; cases hc
  | some d =>
    rw [hd] at hc
    by_cases hz : hearC w d = 0
    · refine ⟨d, rfl, hz, ?_⟩
      show (if hearC w d = 0 then _ else _ : Int × Twn).2 = _
      rw [if_pos hz]
    · have hc' : (if hearC w d = 0 then (saysC t.b v (hearW w d).least, (⟨saysB t.b v (hearW w d).least, setF t.ws v (some (hearW w d))⟩ : Twn)) else (hearC w d, dropT t v)).1 = 0 := hc
      rw [if_neg hz] at hc'
      exact absurd hc' hz

theorem unsent_less {t : Twn} {v : Int} {w : Wr} (hw : t.ws v = some w) (hc : (sendT t v w).1 = 0) : unsent (sendT t v w).2 v < unsent t v := by
  obtain ⟨d, hd, _, he⟩ := send_zero hc
  have hl := (List.getElem?_eq_some_iff.1 hd).1
  have e1 : (sendT t v w).2.ws v = some (sentW w) := by rw [he]; exact setF_same _ _ _
  unfold unsent
  rw [e1, hw]
  show w.opens.length - (w.sent + 1) < w.opens.length - w.sent
  omega
theorem unheard_less {t : Twn} {v : Int} {w : Wr} (hw : t.ws v = some w) (hc : (hearT t v w).1 = 0) : unheard (hearT t v w).2 v < unheard t v := by
  obtain ⟨d, hd, _, he⟩ := hear_zero hc
  have hl := (List.getElem?_eq_some_iff.1 hd).1
  have e1 : (hearT t v w).2.ws v = some (hearW w d) := by rw [he]; exact setF_same _ _ _
  unfold unheard
  rw [e1, hw, hear_ds]
  show t.b.ds.length - (hearW w d).seen < t.b.ds.length - w.seen
  rw [(hearW_me w d).2]
  omega

/-- It sends as long as it can. -/
def sendAll (t : Twn) (v : Int) : Twn :=
  match _hw : t.ws v with
  | none => t
  | some w => if _hc : (sendT t v w).1 = 0 then sendAll (sendT t v w).2 v else (sendT t v w).2
termination_by unsent t v
decreasing_by exact unsent_less _hw _hc

/-- It hears as long as it can. -/
def hearAll (t : Twn) (v : Int) : Twn :=
  match _hw : t.ws v with
  | none => t
  | some w => if _hc : (hearT t v w).1 = 0 then hearAll (hearT t v w).2 v else (hearT t v w).2
termination_by unheard t v
decreasing_by exact unheard_less _hw _hc

theorem sendAll_none {t : Twn} {v : Int} (h : t.ws v = none) : sendAll t v = t := by
  rw [sendAll]
  split
  · rfl
  · rename_i w hw; rw [h] at hw; cases hw
theorem sendAll_some {t : Twn} {v : Int} {w : Wr} (h : t.ws v = some w) : sendAll t v = if (sendT t v w).1 = 0 then sendAll (sendT t v w).2 v else (sendT t v w).2 := by
  rw [sendAll]
  split
  · rename_i hw; rw [h] at hw; cases hw
  · rename_i w' hw
    rw [h, Option.some.injEq] at hw
    subst hw
    split <;> rfl
theorem hearAll_none {t : Twn} {v : Int} (h : t.ws v = none) : hearAll t v = t := by
  rw [hearAll]
  split
  · rfl
  · rename_i w hw; rw [h] at hw; cases hw
theorem hearAll_some {t : Twn} {v : Int} {w : Wr} (h : t.ws v = some w) : hearAll t v = if (hearT t v w).1 = 0 then hearAll (hearT t v w).2 v else (hearT t v w).2 := by
  rw [hearAll]
  split
  · rename_i hw; rw [h] at hw; cases hw
  · rename_i w' hw
    rw [h, Option.some.injEq] at hw
    subst hw
    split <;> rfl

theorem sendAll_ind {v : Int} (P : Twn → Prop) (hs : ∀ t w, P t → t.ws v = some w → P (sendT t v w).2) : ∀ (n : Nat) (t : Twn), unsent t v = n → P t → P (sendAll t v) := by
  intro n
  induction n using Nat.strongRecOn with
  | ind n ih =>
    intro t hn h
    cases hw : t.ws v with
    | none => rw [sendAll_none hw]; exact h
    | some w =>
      rw [sendAll_some hw]
      split
      · rename_i hc
        exact ih _ (by rw [← hn]; exact unsent_less hw hc) _ rfl (hs t w h hw)
      · exact hs t w h hw
theorem hearAll_ind {v : Int} (P : Twn → Prop) (hs : ∀ t w, P t → t.ws v = some w → P (hearT t v w).2) : ∀ (n : Nat) (t : Twn), unheard t v = n → P t → P (hearAll t v) := by
  intro n
  induction n using Nat.strongRecOn with
  | ind n ih =>
    intro t hn h
    cases hw : t.ws v with
    | none => rw [hearAll_none hw]; exact h
    | some w =>
      rw [hearAll_some hw]
      split
      · rename_i hc
        exact ih _ (by rw [← hn]; exact unheard_less hw hc) _ rfl (hs t w h hw)
      · exact hs t w h hw

theorem sendAll_end {v : Int} : ∀ (n : Nat) (t : Twn), unsent t v = n → TwI t → SentAll (sendAll t v) v := by
  intro n
  induction n using Nat.strongRecOn with
  | ind n ih =>
    intro t hn h
    cases hw : t.ws v with
    | none =>
      rw [sendAll_none hw]
      intro w' hw'
      rw [hw] at hw'; cases hw'
    | some w =>
      rw [sendAll_some hw]
      split
      · rename_i hc
        exact ih _ (by rw [← hn]; exact unsent_less hw hc) _ rfl (ti_send h hw)
      · rename_i hc
        exact send_end h hw hc
theorem hearAll_end {v : Int} : ∀ (n : Nat) (t : Twn), unheard t v = n → TwI t → HeardAll (hearAll t v) v := by
  intro n
  induction n using Nat.strongRecOn with
  | ind n ih =>
    intro t hn h
    cases hw : t.ws v with
    | none =>
      rw [hearAll_none hw]
      intro w' hw'
      rw [hw] at hw'; cases hw'
    | some w =>
      rw [hearAll_some hw]
      split
      · rename_i hc
        exact ih _ (by rw [← hn]; exact unheard_less hw hc) _ rfl (ti_hear h hw).1
      · rename_i hc
        exact hear_end h hw hc

def sendTo : Nat → Twn → Twn
  | 0, t => t
  | n + 1, t => sendAll (sendTo n t) n
def hearTo : Nat → Twn → Twn
  | 0, t => t
  | n + 1, t => hearAll (hearTo n t) n
def settleT (t : Twn) : Twn := hearTo 4 (sendTo 4 t)

theorem ti_sendTo {t : Twn} (h : TwI t) : ∀ n, TwI (sendTo n t)
  | 0 => h
  | n + 1 => sendAll_ind TwI (fun _ _ ht hw => ti_send ht hw) _ _ rfl (ti_sendTo h n)
theorem ti_hearTo {t : Twn} (h : TwI t) : ∀ n, TwI (hearTo n t)
  | 0 => h
  | n + 1 => hearAll_ind TwI (fun _ _ ht hw => (ti_hear ht hw).1) _ _ rfl (ti_hearTo h n)
theorem ti_settle {t : Twn} (h : TwI t) : TwI (settleT t) := ti_hearTo (ti_sendTo h 4) 4

theorem sentTo {t : Twn} (h : TwI t) : ∀ (n k : Nat), k < n → SentAll (sendTo n t) k
  | 0, _, hk => absurd hk (Nat.not_lt_zero _)
  | n + 1, k, hk => by
    by_cases e : k = n
    · subst e
      exact sendAll_end _ _ rfl (ti_sendTo h k)
    · exact sendAll_ind (fun t => SentAll t k) (fun t w ht _ => send_other (by omega) ht) _ _ rfl (sentTo h n k (by omega))
theorem hearTo_sent {t : Twn} {k : Int} (h : SentAll t k) : ∀ n, SentAll (hearTo n t) k
  | 0 => h
  | n + 1 => hearAll_ind (fun t => SentAll t k) (fun _ _ ht hw => hear_sent hw ht) _ _ rfl (hearTo_sent h n)
theorem heardTo {t : Twn} (h : TwI t) : ∀ (n k : Nat), k < n → HeardAll (hearTo n t) k
  | 0, _, hk => absurd hk (Nat.not_lt_zero _)
  | n + 1, k, hk => by
    by_cases e : k = n
    · subst e
      exact hearAll_end _ _ rfl (ti_hearTo h k)
    · exact hearAll_ind (fun t => HeardAll t k) (fun t w ht _ => hear_other_heard (by omega) ht) _ _ rfl (heardTo h n k (by omega))

/-- Behind Settle all is sent and heard. -/
theorem settle_all {t : Twn} (h : TwI t) (k : Int) : SentAll (settleT t) k ∧ HeardAll (settleT t) k := by
  by_cases hk : wrB k = true
  · have hk' : 0 ≤ k ∧ k ≤ 3 := by simpa [wrB] using hk
    obtain ⟨n, rfl⟩ : ∃ n : Nat, k = n := ⟨k.toNat, by omega⟩
    exact ⟨hearTo_sent (sentTo h 4 n (by omega)) 4, heardTo (ti_sendTo h 4) 4 n (by omega)⟩
  · have hn := (ti_settle h).none k (by simpa using hk)
    exact ⟨fun w hw => (by rw [hn] at hw; cases hw), fun w hw => (by rw [hn] at hw; cases hw)⟩

/-- ALL COME TO THE SAME TEXT. -/
theorem settle_text {t : Twn} (h : TwI t) {k : Int} {w : Wr} (hw : (settleT t).ws k = some w) : w.opens = [] ∧ w.seen = (settleT t).b.ds.length ∧ vw w.list w.seen w.me = textL (settleT t).b.chars :=
  settled_text (ti_settle h) hw (settle_all h k).1 (settle_all h k).2

theorem hearTo_ds {t : Twn} : ∀ n, (hearTo n t).b.ds = t.b.ds
  | 0 => rfl
  | n + 1 => by
    have := hearAll_ind (v := (n : Int)) (fun u => u.b.ds = t.b.ds) (fun u w hu _ => by rw [hear_ds]; exact hu) _ _ rfl (hearTo_ds (t := t) n)
    exact this

/-- Where all is sent nothing is. -/
theorem sendAll_same {t : Twn} {v : Int} (h : SentAll t v) : sendAll t v = t := by
  cases hw : t.ws v with
  | none => exact sendAll_none hw
  | some w =>
    have hs := h w hw
    have hd : w.opens[w.sent]? = none := List.getElem?_eq_none_iff.2 (by omega)
    have he : sendT t v w = (5, t) := by unfold sendT; rw [hd]
    rw [sendAll_some hw, he]
    rfl
theorem hearAll_same {t : Twn} {v : Int} (h : HeardAll t v) : hearAll t v = t := by
  cases hw : t.ws v with
  | none => exact hearAll_none hw
  | some w =>
    have hs := h w hw
    have hd : t.b.ds[w.seen]? = none := List.getElem?_eq_none_iff.2 (by omega)
    have he : hearT t v w = (5, t) := by unfold hearT; rw [hd]
    rw [hearAll_some hw, he]
    rfl
theorem sendTo_same {t : Twn} (h : ∀ k, SentAll t k) : ∀ n, sendTo n t = t
  | 0 => rfl
  | n + 1 => by rw [sendTo, sendTo_same h n, sendAll_same (h n)]
theorem hearTo_same {t : Twn} (h : ∀ k, HeardAll t k) : ∀ n, hearTo n t = t
  | 0 => rfl
  | n + 1 => by rw [hearTo, hearTo_same h n, hearAll_same (h n)]

/-- SETTLED, IT IS SETTLED. -/
theorem settle_again {t : Twn} (h : TwI t) : settleT (settleT t) = settleT t := by
  rw [settleT, sendTo_same (fun k => (settle_all h k).1), hearTo_same (fun k => (settle_all h k).2)]

/-- One deed more, of one that has seen all, where nothing else is unsent: it comes to the log, or its writer goes. -/
theorem sendAll_one {t : Twn} {v : Int} {w : Wr} {d : Dd} (hw : t.ws v = some w) (hd : w.opens[w.sent]? = some d) (hl : w.opens.length = w.sent + 1) :
    (comesC t.b d = 0 ∧ sendAll t v = ⟨comesB t.b d, setF t.ws v (some (sentW w))⟩) ∨ (comesC t.b d ≠ 0 ∧ sendAll t v = dropT t v) := by
  have he : sendT t v w = (comesC t.b d, if comesC t.b d = 0 then ⟨comesB t.b d, setF t.ws v (some (sentW w))⟩ else dropT t v) := by
    unfold sendT; rw [hd]
  rw [sendAll_some hw, he]
  by_cases hc : comesC t.b d = 0
  · refine .inl ⟨hc, ?_⟩
    show (if comesC t.b d = 0 then sendAll (if comesC t.b d = 0 then _ else _) v else _) = _
    rw [if_pos hc, if_pos hc]
    refine sendAll_same (fun w' hw' => ?_)
    have : setF t.ws v (some (sentW w)) v = some w' := hw'
    rw [setF_same, Option.some.injEq] at this
    subst this
    exact hl.symm
  · refine .inr ⟨hc, ?_⟩
    show (if comesC t.b d = 0 then _ else (if comesC t.b d = 0 then _ else _)) = _
    rw [if_neg hc, if_neg hc]

theorem sendTo_one {t : Twn} {v : Int} {w : Wr} {d : Dd} (hw : t.ws v = some w) (hd : w.opens[w.sent]? = some d) (hl : w.opens.length = w.sent + 1) (ho : ∀ k, k ≠ v → SentAll t k) (hv : wrB v = true) :
    sendTo 4 t = sendAll t v := by
  have hv' : 0 ≤ v ∧ v ≤ 3 := by simpa [wrB] using hv
  obtain ⟨m, rfl⟩ : ∃ m : Nat, v = m := ⟨v.toNat, by omega⟩
  have hm : m < 4 := by omega
  have low : ∀ n, n ≤ m → sendTo n t = t := by
    intro n
    induction n with
    | zero => exact fun _ => rfl
    | succ n ih =>
      intro hn
      rw [sendTo, ih (by omega), sendAll_same (ho n (by omega))]
  have hk : ∀ k, SentAll (sendAll t m) k := by
    intro k
    rcases sendAll_one hw hd hl with ⟨_, e⟩ | ⟨_, e⟩
    · rw [e]
      intro w' hw'
      have hw'' : setF t.ws m (some (sentW w)) k = some w' := hw'
      by_cases hkm : k = (m : Int)
      · rw [hkm, setF_same, Option.some.injEq] at hw''
        subst hw''
        exact hl.symm
      · rw [setF_other _ _ hkm] at hw''
        exact ho k hkm w' hw''
    · rw [e]
      intro w' hw'
      have hw'' : setF t.ws m none k = some w' := hw'
      by_cases hkm : k = (m : Int)
      · rw [hkm, setF_same] at hw''
        cases hw''
      · rw [setF_other _ _ hkm] at hw''
        exact ho k hkm w' hw''
  have high : ∀ n, m < n → sendTo n t = sendAll t m := by
    intro n
    induction n with
    | zero => exact fun h => absurd h (Nat.not_lt_zero _)
    | succ n ih =>
      intro hn
      by_cases e : m = n
      · subst e
        rw [sendTo, low m (Nat.le_refl _)]
      · rw [sendTo, ih (by omega), sendAll_same (hk n)]
  exact high 4 hm

/-! One deed, and settled again. -/

theorem hear_none {t : Twn} {v k : Int} {w : Wr} (hw : t.ws v = some w) (h : t.ws k = none) : (hearT t v w).2.ws k = none := by
  have hk : k ≠ v := fun e => by subst e; rw [h] at hw; cases hw
  unfold hearT
  cases t.b.ds[w.seen]? with
  | none => exact h
  | some d =>
    show (if hearC w d = 0 then (saysC t.b v (hearW w d).least, (⟨saysB t.b v (hearW w d).least, setF t.ws v (some (hearW w d))⟩ : Twn)) else (hearC w d, dropT t v)).2.ws k = none
    split
    · show setF t.ws v _ k = none
      rw [setF_other _ _ hk]; exact h
    · show setF t.ws v _ k = none
      rw [setF_other _ _ hk]; exact h
theorem hearTo_none {t : Twn} {k : Int} (h : t.ws k = none) : ∀ n, (hearTo n t).ws k = none
  | 0 => h
  | n + 1 => hearAll_ind (fun t => t.ws k = none) (fun _ _ ht hw => hear_none hw ht) _ _ rfl (hearTo_none h n)

theorem chars_ds {b b' : Bk} (h : b.ds = b'.ds) : b.chars = b'.chars := by unfold Bk.chars; rw [h]

def ownedT (t : Twn) (v : Int) (w : Wr) (e : Dd) : Twn := ⟨t.b, setF t.ws v (some (doesW w e))⟩

/-- WHAT ONE PUTS IN THEN ALL SEE THERE. -/
theorem again_text {t : Twn} (h : TwI t) (hs : ∀ k, SentAll t k) (hh : ∀ k, HeardAll t k) {v : Int} {w : Wr} (hw : t.ws v = some w) {s : Tst} (hthere : (settleT (ownedT t v w (ownD w s))).ws v ≠ none) :
    comesC t.b (ownD w s) = 0 ∧ (settleT (ownedT t v w (ownD w s))).b.ds = t.b.ds ++ [ownD w s] ∧ textL (settleT (ownedT t v w (ownD w s))).b.chars = spliceL (textL t.b.chars) (ownD w s) := by
  have hv := (h.is_here hw).2
  obtain ⟨ho, hsn, _⟩ := settled_text h hw (hs v) (hh v)
  have hsent : w.sent = 0 := by have := hs v w hw; rw [ho] at this; exact this
  have hw1 : (ownedT t v w (ownD w s)).ws v = some (doesW w (ownD w s)) := setF_same _ _ _
  have hd1 : (doesW w (ownD w s)).opens[(doesW w (ownD w s)).sent]? = some (ownD w s) := by
    show (w.opens ++ [ownD w s])[w.sent]? = some (ownD w s)
    rw [ho, hsent]; rfl
  have hl1 : (doesW w (ownD w s)).opens.length = (doesW w (ownD w s)).sent + 1 := by
    show (w.opens ++ [ownD w s]).length = w.sent + 1
    rw [ho, hsent]; rfl
  have hother : ∀ k, k ≠ v → SentAll (ownedT t v w (ownD w s)) k := by
    intro k hk w' hw'
    have hw'' : setF t.ws v (some (doesW w (ownD w s))) k = some w' := hw'
    rw [setF_other _ _ hk] at hw''
    exact hs k w' hw''
  have hsend := sendTo_one hw1 hd1 hl1 hother hv
  have hset : settleT (ownedT t v w (ownD w s)) = hearTo 4 (sendAll (ownedT t v w (ownD w s)) v) := by rw [settleT, hsend]
  rw [hset] at hthere ⊢
  rcases sendAll_one hw1 hd1 hl1 with ⟨c0, e⟩ | ⟨_, e⟩
  · have c0' : comesC t.b (ownD w s) = 0 := c0
    have hds : (hearTo 4 (sendAll (ownedT t v w (ownD w s)) v)).b.ds = (comesB t.b (ownD w s)).ds := by
      rw [hearTo_ds, e]; rfl
    refine ⟨c0', ?_, ?_⟩
    · rw [hds, comes_eq c0']
    · rw [chars_ds hds]
      refine text_comes h.good c0' ?_
      rw [(own_parts w s).2.2, hsn]
      rfl
  · rw [e] at hthere
    exact absurd (hearTo_none (setF_same _ _ _) 4) hthere

/-- WHO COMES LATE HAS ALL. -/
theorem late_text {t : Twn} (h : TwI t) (v : Int) : vw (newW t.b v).list (newW t.b v).seen (newW t.b v).me = textL t.b.chars := vw_text h.good

theorem late_put {t : Twn} (h : TwI t) {v : Int} {w : Wr} (hw : t.ws v = some w) (ho : w.opens = []) (hz : w.sent = 0) (hsn : w.seen = t.b.ds.length) {s : Tst} (hc : doC w.list (ownD w s) openN = 0) (hc' : comesC t.b (ownD w s) = 0) :
    textL (comesB t.b (ownD w s)).chars = spliceL (textL t.b.chars) (ownD w s) ∧ vw (sentW (doesW w (ownD w s))).list w.seen w.me = spliceL (textL t.b.chars) (ownD w s) := by
  obtain ⟨o1, _, o3⟩ := own_parts w s
  obtain ⟨_, c, hi⟩ := h.wi v w hw
  have ht := (hi.settled h.good hsn (by rw [ho, hz]; rfl)).2
  refine ⟨text_comes h.good hc' (by rw [o3, hsn]; rfl), ?_⟩
  rw [← ht]
  exact vw_own o1 o3 hc

theorem splice_end {t : List Int} {d : Dd} (hk : d.kind = 1) (ha : d.at_ = t.length) : spliceL t d = t ++ nums d.text := by
  rw [spliceL, if_pos hk, ha]
  simp

end Go.Proofs.YtfpemdbiplfkgacGreat
