/-
  Plain mathematics of a town: a log, and writers at their desks; what steps do, and what always holds. No walk.
-/
import Derived.Test.YtcbnnfeelhlapadGreatDoorRPlain
import Derived.Test.YtcbnnfeelhlapadGreatDoorDLeaf
namespace Go.Proofs.YtcbnnfeelhlapadGreatDoor
structure Tst where
 kind : Int
 w : Int
 at_ : Int
 many : Int
 text : ByteArray
structure Twn where
 b : Bk
 ws : Int → Option Wr
def leastFor (b : Bk) (seen : Nat) : Int := (b.ds.drop seen).foldl (fun n d => if d.seen < n then d.seen else n) (leastL b)
def ownD (w : Wr) (s : Tst) : Dd := if s.kind = 2 then ⟨1, w.me, w.next, w.seen, s.at_, 0, s.text⟩ else ⟨2, w.me, w.next, w.seen, s.at_, s.many, ByteArray.empty⟩
theorem dd_eq (a b : Dd) : (a.kind = b.kind ∧ a.by_ = b.by_ ∧ a.no = b.no ∧ a.seen = b.seen ∧ a.at_ = b.at_ ∧ a.many = b.many ∧ a.text.data = b.text.data) ↔ a = b := by
 obtain ⟨a1, a2, a3, a4, a5, a6, ⟨a7⟩⟩ := a
 obtain ⟨b1, b2, b3, b4, b5, b6, ⟨b7⟩⟩ := b
 simp
instance : DecidableEq Dd := fun a b => decidable_of_iff _ (dd_eq a b)
def doesW (w : Wr) (e : Dd) : Wr := ⟨w.me, w.seen, w.next + 1, w.base, w.opens ++ [e], w.sent⟩
def sentW (w : Wr) : Wr := ⟨w.me, w.seen, w.next, w.base, w.opens, w.sent + 1⟩
def hearC (w : Wr) (d : Dd) : Int := if d.by_ ≠ w.me then doC w.list d ((w.seen : Int) + 1) else if w.opens.head? = some d then 0 else 12
def hearW (w : Wr) (d : Dd) : Wr :=
 if d.by_ ≠ w.me then ⟨w.me, w.seen + 1, w.next, doL w.base d ((w.seen : Int) + 1), w.opens, w.sent⟩ else ⟨w.me, w.seen + 1, w.next, doL w.base d ((w.seen : Int) + 1), w.opens.tail, w.sent - 1⟩
def clearW (w : Wr) (least : Int) : Wr := ⟨w.me, w.seen, w.next, ofL least w.base, w.opens, w.sent⟩
def newW (b : Bk) (v : Int) : Wr := ⟨v, b.ds.length, b.last v + 1, b.chars, [], 0⟩
def dropT (t : Twn) (v : Int) : Twn := ⟨leaveB t.b v, setF t.ws v none⟩
def sendT (t : Twn) (v : Int) (w : Wr) : Int × Twn :=
 match w.opens[w.sent]? with
 | none => (5, t)
 | some d => (comesC t.b d, if comesC t.b d = 0 then ⟨comesB t.b d, setF t.ws v (some (sentW w))⟩ else dropT t v)
def hearT (t : Twn) (v : Int) (w : Wr) : Int × Twn :=
 match t.b.ds[w.seen]? with
 | none => (5, t)
 | some d => if hearC w d = 0 then (saysC t.b v (hearW w d).least, ⟨saysB t.b v (hearW w d).least, setF t.ws v (some (hearW w d))⟩) else (hearC w d, dropT t v)
def ownT (t : Twn) (v : Int) (w : Wr) (s : Tst) : Int × Twn :=
 (doC w.list (ownD w s) openN, if doC w.list (ownD w s) openN = 0 then ⟨t.b, setF t.ws v (some (doesW w (ownD w s)))⟩ else t)
def joinT (t : Twn) (v : Int) : Int × Twn :=
 (joinC t.b v, if joinC t.b v = 0 then ⟨joinB t.b v, setF t.ws v (some (newW t.b v))⟩ else t)
def tDo (t : Twn) (s : Tst) : Int × Twn :=
 if s.kind < 1 ∨ 7 < s.kind then (2, t) else if s.kind = 1 then joinT t s.w else
  match t.ws s.w with
  | none => (5, t)
  | some w =>
   if s.kind = 2 ∨ s.kind = 3 then ownT t s.w w s else if s.kind = 4 then sendT t s.w w else if s.kind = 5 then hearT t s.w w
   else if s.kind = 6 then (0, ⟨t.b, setF t.ws s.w (some (clearW w (leastFor t.b w.seen)))⟩) else (0, dropT t s.w)
structure TwI (t : Twn) : Prop where
 good : Good t.b
 wi : ∀ k w, t.ws k = some w → w.me = k ∧ ∃ c, WI t.b c w
 here : ∀ k, t.b.here k = true → ∃ w, t.ws k = some w
 none : ∀ k, wrB k = false → t.ws k = none
theorem twn_start : TwI ⟨Bk.empty, fun _ => none⟩ := by
 refine ⟨good_empty, fun k w h => ?_, fun k h => ?_, fun _ _ => rfl⟩
 ·cases h
 ·cases h
theorem TwI.set {t : Twn} (h : TwI t) {b' : Bk} {v : Int} {w' : Wr} (hg : Good b') (hv : wrB v = true) (hm : w'.me = v) (hw : ∃ c, WI b' c w') (ho : ∀ k w c, k ≠ v → t.ws k = some w → WI t.b c w → WI b' c w) (hh : ∀ k, k ≠ v → b'.here k = true → t.b.here k = true) :
 TwI ⟨b', setF t.ws v (some w')⟩ := by
 refine ⟨hg, fun k w hk => ?_, fun k hk => ?_, fun k hk => ?_⟩
 ·have hk' : setF t.ws v (some w') k = some w := hk
  by_cases e : k = v
  ·subst e
   rw [setF_same, Option.some.injEq] at hk'
   subst hk'
   exact ⟨hm, hw⟩
  ·rw [setF_other _ _ e] at hk'
   obtain ⟨h1, c, h2⟩ := h.wi k w hk'
   exact ⟨h1, c, ho k w c e hk' h2⟩
 ·show ∃ w, setF t.ws v (some w') k = some w
  by_cases e : k = v
  ·subst e
   exact ⟨w', setF_same _ _ _⟩
  ·rw [setF_other _ _ e]
   exact h.here k (hh k e hk)
 ·show setF t.ws v (some w') k = Option.none
  have e : k ≠ v := fun e => by subst e; rw [hv] at hk; cases hk
  rw [setF_other _ _ e]
  exact h.none k hk
theorem TwI.drop {t : Twn} (h : TwI t) {v : Int} (hv : t.b.isHere v = true) : TwI (dropT t v) := by
 refine ⟨good_leave v h.good, fun k w hk => ?_, fun k hk => ?_, fun k hk => ?_⟩
 ·have hk' : setF t.ws v Option.none k = some w := hk
  by_cases e : k = v
  ·subst e
   rw [setF_same] at hk'; cases hk'
  ·rw [setF_other _ _ e] at hk'
   obtain ⟨h1, c, h2⟩ := h.wi k w hk'
   exact ⟨h1, c, h2.other_leaves (by rw [h1]; exact Ne.symm e)⟩
 ·have hl : leaveC t.b v = 0 := by rw [leaveC, if_pos hv]
  have hk' : (leaveB t.b v).here k = true := hk
  rw [leaveB, if_pos hl] at hk'
  have hk'' : setF t.b.here v false k = true := hk'
  show ∃ w, setF t.ws v Option.none k = some w
  by_cases e : k = v
  ·subst e
   rw [setF_same] at hk''; cases hk''
  ·rw [setF_other _ _ e] at hk'' ⊢
   exact h.here k hk''
 ·show setF t.ws v Option.none k = Option.none
  by_cases e : k = v
  ·subst e; exact setF_same _ _ _
  ·rw [setF_other _ _ e]; exact h.none k hk
theorem TwI.is_here {t : Twn} (h : TwI t) {v : Int} {w : Wr} (hw : t.ws v = some w) : t.b.isHere v = true ∧ wrB v = true := by
 obtain ⟨rfl, c, hi⟩ := h.wi v w hw
 exact ⟨by rw [Bk.isHere, hi.wr, hi.here]; rfl, hi.wr⟩
theorem least_for (b : Bk) (seen : Nat) : leastFor b seen ≤ leastL b ∧ ∀ d ∈ b.ds.drop seen, leastFor b seen ≤ d.seen := by
 have : ∀ (l : List Dd) (n : Int), l.foldl (fun n d => if d.seen < n then d.seen else n) n ≤ n ∧ ∀ d ∈ l, l.foldl (fun n d => if d.seen < n then d.seen else n) n ≤ d.seen := by
  intro l
  induction l with
  | nil => exact fun n => ⟨Int.le_refl _, fun d hd => absurd hd (by simp)⟩
  | cons x l ih =>
   intro n
   obtain ⟨i1, i2⟩ := ih (if x.seen < n then x.seen else n)
   have hle : (if x.seen < n then x.seen else n) ≤ n ∧ (if x.seen < n then x.seen else n) ≤ x.seen := by split <;> omega
   rw [List.foldl_cons]
   refine ⟨by omega, fun d hd => ?_⟩
   rcases List.mem_cons.1 hd with rfl | hd
   ·omega
   ·exact i2 d hd
 exact this _ _
theorem ti_join {t : Twn} (h : TwI t) (v : Int) : TwI (joinT t v).2 := by
 unfold joinT
 by_cases hc : joinC t.b v = 0
 ·show TwI (if joinC t.b v = 0 then _ else _)
  rw [if_pos hc]
  have hv : wrB v = true := by
   unfold joinC at hc
   cases hh : wrB v
   ·rw [if_pos hh] at hc; cases hc
   ·rfl
  refine h.set (good_join v h.good) hv rfl ⟨0, WI.comes_in h.good hc⟩ (fun k w c hk hw hi => ?_) (fun k hk hh => ?_)
  ·obtain ⟨h1, _⟩ := h.wi k w hw
   exact hi.other_joins (by rw [h1]; exact Ne.symm hk)
  ·rw [joinB, if_pos hc] at hh
   have hh' : setF t.b.here v true k = true := hh
   rw [setF_other _ _ hk] at hh'
   exact hh'
 ·show TwI (if joinC t.b v = 0 then _ else _)
  rw [if_neg hc]; exact h
theorem own_parts (w : Wr) (s : Tst) : (ownD w s).by_ = w.me ∧ (ownD w s).no = w.next ∧ (ownD w s).seen = w.seen := by
 unfold ownD
 split <;> exact ⟨rfl, rfl, rfl⟩
theorem ti_own {t : Twn} (h : TwI t) {v : Int} {w : Wr} (hw : t.ws v = some w) (s : Tst) : TwI (ownT t v w s).2 := by
 obtain ⟨hm, c, hi⟩ := h.wi v w hw
 obtain ⟨o1, o2, o3⟩ := own_parts w s
 unfold ownT
 show TwI (if doC w.list (ownD w s) openN = 0 then _ else _)
 by_cases hc : doC w.list (ownD w s) openN = 0
 ·rw [if_pos hc]
  exact h.set h.good (h.is_here hw).2 hm ⟨c, hi.does h.good o1 o2 o3 hc⟩ (fun _ _ _ _ _ x => x) (fun _ _ x => x)
 ·rw [if_neg hc]; exact h
theorem ti_send {t : Twn} (h : TwI t) {v : Int} {w : Wr} (hw : t.ws v = some w) : TwI (sendT t v w).2 := by
 obtain ⟨hm, c, hi⟩ := h.wi v w hw
 unfold sendT
 cases hd : w.opens[w.sent]? with
 | none => exact h
 | some d =>
  show TwI (if comesC t.b d = 0 then _ else _)
  by_cases hc : comesC t.b d = 0
  ·rw [if_pos hc]
   have hb := (hi.own d (List.mem_of_getElem? hd)).1
   refine h.set (good_comes d h.good) (h.is_here hw).2 hm ⟨c, hi.sent_ok hd hc⟩ (fun k w' c' hk hw' hi' => ?_) (fun k _ hh => ?_)
   ·obtain ⟨h1, _⟩ := h.wi k w' hw'
    exact hi'.other_comes (by rw [hb, hm, h1]; exact Ne.symm hk) hc
   ·rw [comes_eq hc] at hh
    exact hh
  ·rw [if_neg hc]
   exact h.drop (h.is_here hw).1
theorem hear_ok {b : Bk} {c : Int} {w : Wr} (hi : WI b c w) (hg : Good b) {d : Dd} (hd : b.ds[w.seen]? = some d) : (hearC w d = 0 ∨ hearC w d = 9) ∧ (hearC w d = 0 → WI b c (hearW w d)) := by
 obtain ⟨hl, rfl⟩ := List.getElem?_eq_some_iff.1 hd
 unfold hearC hearW
 by_cases hb : b.ds[w.seen].by_ = w.me
 ·have hnb : ¬ b.ds[w.seen].by_ ≠ w.me := fun x => x hb
  rw [if_neg hnb, if_neg hnb]
  obtain ⟨es, he, h1⟩ := hi.own_first hl hb
  have hh : w.opens.head? = some b.ds[w.seen] := by rw [he]; rfl
  have ht : w.opens.tail = es := by rw [he]; rfl
  rw [if_pos hh, ht]
  exact ⟨.inl rfl, fun _ => (hi.hears_own hg hl he h1 hb).1⟩
 ·rw [if_pos hb, if_pos hb]
  obtain ⟨h1, h2⟩ := hi.hears_other hg hl hb
  exact ⟨h1, fun hc => (h2 hc).2⟩
theorem hearW_me (w : Wr) (d : Dd) : (hearW w d).me = w.me ∧ (hearW w d).seen = w.seen + 1 := by
 unfold hearW
 split <;> exact ⟨rfl, rfl⟩
theorem ti_hear {t : Twn} (h : TwI t) {v : Int} {w : Wr} (hw : t.ws v = some w) : TwI (hearT t v w).2 ∧ (∀ d, t.b.ds[w.seen]? = some d → hearC w d = 0 → (hearT t v w).1 = 0) := by
 obtain ⟨hm, c, hi⟩ := h.wi v w hw
 unfold hearT
 cases hd : t.b.ds[w.seen]? with
 | none => exact ⟨h, fun d hd => by cases hd⟩
 | some d =>
  obtain ⟨_, h2⟩ := hear_ok hi h.good hd
  by_cases hc : hearC w d = 0
  ·have hs := (h2 hc).says
   rw [(hearW_me w d).1, hm] at hs
   show TwI (if hearC w d = 0 then (_, _) else (_, _)).2 ∧ _
   refine ⟨?_, fun d' hd' hc' => ?_⟩
   ·rw [if_pos hc]
    refine h.set (good_says _ _ h.good) (h.is_here hw).2 ((hearW_me w d).1.trans hm) ⟨c, hs.2⟩ (fun k w' c' hk hw' hi' => ?_) (fun k _ hh => ?_)
    ·obtain ⟨h1, _⟩ := h.wi k w' hw'
     exact hi'.other_says (by rw [h1]; exact Ne.symm hk)
    ·rw [saysB, if_pos hs.1] at hh
     exact hh
   ·show (if hearC w d = 0 then (_, _) else (_, _)).1 = (0 : Int)
    rw [if_pos hc]
    exact hs.1
  ·show TwI (if hearC w d = 0 then (_, _) else (_, _)).2 ∧ _
   refine ⟨?_, fun d' hd' hc' => ?_⟩
   ·rw [if_neg hc]
    exact h.drop (h.is_here hw).1
   ·obtain rfl := Option.some.inj hd'
    exact absurd hc' hc
end Go.Proofs.YtcbnnfeelhlapadGreatDoor

/-
  Plain mathematics of desks: settled, all see the text; what one alone writes; to clear changes nothing. No walk.
-/
namespace Go.Proofs.YtcbnnfeelhlapadGreatDoor
theorem says_ds (b : Bk) (v n : Int) : (saysB b v n).ds = b.ds := by unfold saysB; split <;> rfl
theorem leave_ds (b : Bk) (v : Int) : (leaveB b v).ds = b.ds := by unfold leaveB; split <;> rfl
theorem hear_ds (t : Twn) (v : Int) (w : Wr) : (hearT t v w).2.b.ds = t.b.ds := by
 unfold hearT
 cases t.b.ds[w.seen]? with
 | none => rfl
 | some d =>
  show (if hearC w d = 0 then (saysC t.b v (hearW w d).least, (⟨saysB t.b v (hearW w d).least, setF t.ws v (some (hearW w d))⟩ : Twn)) else (hearC w d, dropT t v)).2.b.ds = _
  split
  ·exact says_ds _ _ _
  ·exact leave_ds _ _
end Go.Proofs.YtcbnnfeelhlapadGreatDoor

/-
  Plain mathematics of desks: Settle, as a function, and what holds behind it. No walk.
-/
namespace Go.Proofs.YtcbnnfeelhlapadGreatDoor
def unsent (t : Twn) (v : Int) : Nat := match t.ws v with
 | none => 0
 | some w => w.opens.length - w.sent
def unheard (t : Twn) (v : Int) : Nat := match t.ws v with
 | none => 0
 | some w => t.b.ds.length - w.seen
theorem send_zero {t : Twn} {v : Int} {w : Wr} (hc : (sendT t v w).1 = 0) : ∃ d, w.opens[w.sent]? = some d ∧ comesC t.b d = 0 ∧ (sendT t v w).2 = ⟨comesB t.b d, setF t.ws v (some (sentW w))⟩ := by
 unfold sendT at hc ⊢
 cases hd : w.opens[w.sent]? with
 | none => rw [hd] at hc; cases hc
 | some d =>
  rw [hd] at hc
  have hc' : comesC t.b d = 0 := hc
  refine ⟨d, rfl, hc', ?_⟩
  show (if comesC t.b d = 0 then _ else _) = _
  rw [if_pos hc']
theorem hear_zero {t : Twn} {v : Int} {w : Wr} (hc : (hearT t v w).1 = 0) : ∃ d, t.b.ds[w.seen]? = some d ∧ hearC w d = 0 ∧ (hearT t v w).2 = ⟨saysB t.b v (hearW w d).least, setF t.ws v (some (hearW w d))⟩ := by
 unfold hearT at hc ⊢
 cases hd : t.b.ds[w.seen]? with
 | none => rw [hd] at hc; cases hc
 | some d =>
  rw [hd] at hc
  by_cases hz : hearC w d = 0
  ·refine ⟨d, rfl, hz, ?_⟩
   show (if hearC w d = 0 then _ else _ : Int × Twn).2 = _
   rw [if_pos hz]
  ·have hc' : (if hearC w d = 0 then (saysC t.b v (hearW w d).least, (⟨saysB t.b v (hearW w d).least, setF t.ws v (some (hearW w d))⟩ : Twn)) else (hearC w d, dropT t v)).1 = 0 := hc
   rw [if_neg hz] at hc'
   exact absurd hc' hz
theorem unsent_less {t : Twn} {v : Int} {w : Wr} (hw : t.ws v = some w) (hc : (sendT t v w).1 = 0) : unsent (sendT t v w).2 v < unsent t v := by
 obtain ⟨d, hd, _, he⟩ := send_zero hc
 have hl := (List.getElem?_eq_some_iff.1 hd).1
 have e1 : (sendT t v w).2.ws v = some (sentW w) := by rw [he]; exact setF_same _ _ _
 unfold unsent
 rw [e1, hw]
 show w.opens.length - (w.sent + 1) < w.opens.length - w.sent
 omega
theorem unheard_less {t : Twn} {v : Int} {w : Wr} (hw : t.ws v = some w) (hc : (hearT t v w).1 = 0) : unheard (hearT t v w).2 v < unheard t v := by
 obtain ⟨d, hd, _, he⟩ := hear_zero hc
 have hl := (List.getElem?_eq_some_iff.1 hd).1
 have e1 : (hearT t v w).2.ws v = some (hearW w d) := by rw [he]; exact setF_same _ _ _
 unfold unheard
 rw [e1, hw, hear_ds]
 show t.b.ds.length - (hearW w d).seen < t.b.ds.length - w.seen
 rw [(hearW_me w d).2]
 omega
def sendAll (t : Twn) (v : Int) : Twn :=
 match _hw : t.ws v with
 | none => t
 | some w => if _hc : (sendT t v w).1 = 0 then sendAll (sendT t v w).2 v else (sendT t v w).2
termination_by unsent t v
decreasing_by exact unsent_less _hw _hc
def hearAll (t : Twn) (v : Int) : Twn :=
 match _hw : t.ws v with
 | none => t
 | some w => if _hc : (hearT t v w).1 = 0 then hearAll (hearT t v w).2 v else (hearT t v w).2
termination_by unheard t v
decreasing_by exact unheard_less _hw _hc
theorem sendAll_none {t : Twn} {v : Int} (h : t.ws v = none) : sendAll t v = t := by
 rw [sendAll]
 split
 ·rfl
 ·rename_i w hw; rw [h] at hw; cases hw
theorem sendAll_some {t : Twn} {v : Int} {w : Wr} (h : t.ws v = some w) : sendAll t v = if (sendT t v w).1 = 0 then sendAll (sendT t v w).2 v else (sendT t v w).2 := by
 rw [sendAll]
 split
 ·rename_i hw; rw [h] at hw; cases hw
 ·rename_i w' hw
  rw [h, Option.some.injEq] at hw
  subst hw
  split <;> rfl
theorem hearAll_none {t : Twn} {v : Int} (h : t.ws v = none) : hearAll t v = t := by
 rw [hearAll]
 split
 ·rfl
 ·rename_i w hw; rw [h] at hw; cases hw
theorem hearAll_some {t : Twn} {v : Int} {w : Wr} (h : t.ws v = some w) : hearAll t v = if (hearT t v w).1 = 0 then hearAll (hearT t v w).2 v else (hearT t v w).2 := by
 rw [hearAll]
 split
 ·rename_i hw; rw [h] at hw; cases hw
 ·rename_i w' hw
  rw [h, Option.some.injEq] at hw
  subst hw
  split <;> rfl
def sendTo : Nat → Twn → Twn
 | 0, t => t
 | n + 1, t => sendAll (sendTo n t) n
def hearTo : Nat → Twn → Twn
 | 0, t => t
 | n + 1, t => hearAll (hearTo n t) n
def settleT (t : Twn) : Twn := hearTo 4 (sendTo 4 t)
end Go.Proofs.YtcbnnfeelhlapadGreatDoor

/-
  Plain mathematics of the story: from one text to the next; a byte stands at one place, and never comes back. No walk.
-/
namespace Go.Proofs.YtcbnnfeelhlapadGreatDoor
end Go.Proofs.YtcbnnfeelhlapadGreatDoor

/-
  Plain mathematics of the story: the list behind all deeds tells each text ahead. No walk.
-/
namespace Go.Proofs.YtcbnnfeelhlapadGreatDoor
def thenL (l : List Ch) (n : Int) : List Ch := l.filter (seesC n (-1))
theorem thenL_snoc (l : List Ch) (x : Ch) (n : Int) : thenL (l ++ [x]) n = thenL l n ++ if seesC n (-1) x = true then [x] else [] := by
 unfold thenL
 rw [List.filter_append]
 by_cases h : seesC n (-1) x = true <;> simp [h]
theorem thenL_le (l : List Ch) (n : Int) : (thenL l n).length ≤ l.length := List.length_filter_le _ _
end Go.Proofs.YtcbnnfeelhlapadGreatDoor

/-
  Plain mathematics of StoryGrows: common beginnings and common ends of what the story tells. No walk.
-/
namespace Go.Proofs.YtcbnnfeelhlapadGreatDoor
end Go.Proofs.YtcbnnfeelhlapadGreatDoor

/-
  A region that draws its order, as in FStage; but some operations that leave the world alone (the LATE ones) read what an operation of the spine has made, and wait for it: the class of worlds gets smaller at each operation of the spine. No walk of the program.
-/
namespace Go.Proofs.YtcbnnfeelhlapadGreatDoor
open Go
abbrev Cls := World → Prop
section
variable {P : Program} {ops : Array Oper} {md : Region.Mode} {U0 : Cls} {sp lt : Nat → Bool}
def lateSpine (P : Program) (o : Oper) (a : Act) (U D : Cls) (p : Value → Prop) (U' D' : Value → Cls) : Prop :=
 (∃ v, p v) ∧ (∀ v w, U' v w → U w) ∧ (∀ v w, D' v w → U' v w) ∧ ∀ w, D w → spineUpon P (fun v w' => p v ∧ D' v w') ((execOp a.eval o).run P w)
def lateStep (P : Program) (U0 : Cls) (s t : Bool) (o : Oper) (a : Act) (U D : Cls) (K : Act → Cls → Cls → Prop) : Prop :=
 if s = true then ∃ p U' D', lateSpine P o a U D p U' D' ∧ ∀ v, p v → K (a.put o.dst v) (U' v) (D' v)
 else ∃ v, stillIn P (if t = true then U else U0) o a v ∧ K (a.put o.dst v) U D
def wpLate (P : Program) (ops : Array Oper) (U0 : Cls) (sp lt : Nat → Bool) (Q : Act → World → Prop) : List Oper → Nat → Act → Cls → Cls → Prop
 | [], _, a, _, D => ∀ w, D w → Q a w
 | o :: rest, k, a, U, D => if Region.wanted o (yielded ops a.tmps) = true then lateStep P U0 (sp k) (lt k) o a U D (wpLate P ops U0 sp lt Q rest (k + 1)) else wpLate P ops U0 sp lt Q rest (k + 1) (a.put o.dst undef) U D
def lateOp (P : Program) (ops : Array Oper) (U0 : Cls) (sp lt : Nat → Bool) (i : Nat) (K : Act → Cls → Cls → Prop) (a : Act) (U D : Cls) : Prop :=
 match ops[i]? with
 | none => K a U D
 | some o => if Region.wanted o (yielded ops a.tmps) = true then lateStep P U0 (sp i) (lt i) o a U D K else K (a.put o.dst undef) U D
theorem lateStep_mono {s t : Bool} {o : Oper} {a : Act} {U D : Cls} {K K' : Act → Cls → Cls → Prop} (h : ∀ a U' D', (∀ w, U' w → U w) → K a U' D' → K' a U' D') (hh : lateStep P U0 s t o a U D K) : lateStep P U0 s t o a U D K' := by
 unfold lateStep at *
 cases s
 ·obtain ⟨v, h1, h2⟩ := hh
  exact ⟨v, h1, h _ _ _ (fun _ h => h) h2⟩
 ·obtain ⟨p, U', D', h1, h2⟩ := hh
  exact ⟨p, U', D', h1, fun v hv => h _ _ _ (h1.2.1 v) (h2 v hv)⟩
theorem lateOp_mono {i : Nat} {a : Act} {U D : Cls} {K K' : Act → Cls → Cls → Prop} (h : ∀ a U' D', (∀ w, U' w → U w) → K a U' D' → K' a U' D') (hh : lateOp P ops U0 sp lt i K a U D) : lateOp P ops U0 sp lt i K' a U D := by
 unfold lateOp at *
 cases ho : ops[i]? with
 | none => rw [ho] at hh; exact h _ _ _ (fun _ h => h) hh
 | some o =>
  rw [ho] at hh
  show if _ then _ else _
  have hh' : if Region.wanted o (yielded ops a.tmps) = true then lateStep P U0 (sp i) (lt i) o a U D K else K (a.put o.dst undef) U D := hh
  by_cases hw : Region.wanted o (yielded ops a.tmps) = true
  ·rw [if_pos hw] at hh' ⊢; exact lateStep_mono h hh'
  ·rw [if_neg hw] at hh' ⊢; exact h _ _ _ (fun _ h => h) hh'
def wpAnyT (P : Program) (md : Region.Mode) (ops : Array Oper) (U0 : Cls) (sp lt : Nat → Bool) (Q : Act → World → Prop) : Nat → Array Bool → Act → Cls → Cls → Prop
 | 0, listed, a, _, D => Region.ready md ops listed = [] ∧ ∀ w, D w → Q a w
 | fuel + 1, listed, a, U, D =>
  (Region.ready md ops listed = [] → ∀ w, D w → Q a w) ∧
  ∀ i ∈ Region.ready md ops listed, lateOp P ops U0 sp lt i (wpAnyT P md ops U0 sp lt Q fuel (listed.setIfInBounds i true)) a U D
theorem wp_of_late {s t : Bool} {o : Oper} {a : Act} {U D : Cls} {K : Act → Cls → Cls → Prop} {K' : Act → World → Prop} {Q' : Exit → Act → World → Prop} {w : World} (hU : ∀ w, U w → U0 w) (hDU : ∀ w, D w → U w) (hw : D w)
 (h : ∀ a (U' D' : Cls) w', (∀ w, U' w → U0 w) → (∀ w, D' w → U' w) → D' w' → K a U' D' → K' a w') (hh : lateStep P U0 s t o a U D K) : o.wp P a w K' Q' := by
 unfold lateStep at hh
 unfold Oper.wp
 cases s
 ·obtain ⟨v, h1, h2⟩ := hh
  have hr : (execOp a.eval o).run P w = .ok (.value v) w := by
   apply h1
   cases t
   ·exact hU w (hDU w hw)
   ·exact hDU w hw
  rw [hr]
  exact h _ U D _ hU hDU hw h2
 ·obtain ⟨p, U', D', ⟨_, hU', hD', h1⟩, h2⟩ := hh
  have h3 := h1 w hw
  generalize (execOp a.eval o).run P w = r at *
  cases r with
  | ok n w' =>
   cases n <;> simp only [spineUpon] at h3 <;> simp only [Oper.upon]
   case value u => exact h _ (U' u) (D' u) _ (fun w hw => hU w (hU' u w hw)) (hD' u) h3.2 (h2 u h3.1)
   case skip => exact h _ (U' undef) (D' undef) _ (fun w hw => hU w (hU' undef w hw)) (hD' undef) h3.2 (h2 undef h3.1)
   case enter f args =>
    exact h3.mono fun e w'' ⟨v, he, hp, hd⟩ => by subst he; exact h _ (U' v) (D' v) _ (fun w hw => hU w (hU' v w hw)) (hD' v) hd (h2 v hp)
  | halt x w' => simp only [spineUpon] at h3
theorem wpAny_of_late {Q : Act → World → Prop} {Q' : Exit → Act → World → Prop} (hQ : ∀ a w, Q a w → Q' .normal a w) : ∀ (fuel : Nat) (listed : Array Bool) (a : Act) (U D : Cls) (w : World), (∀ w, U w → U0 w) → (∀ w, D w → U w) → D w →
 wpAnyT P md ops U0 sp lt Q fuel listed a U D → wpAny P md ops Q' fuel listed a w
 | 0, _, _, _, _, _, _, _, hw, h => ⟨h.1, hQ _ _ (h.2 _ hw)⟩
 | fuel + 1, listed, a, U, D, w, hU, hD, hw, h => ⟨fun h0 => hQ _ _ (h.1 h0 _ hw), fun i hi => by
  have h1 := h.2 i hi
  unfold lateOp at h1
  unfold wpOp
  cases ho : ops[i]? with
  | none => rw [ho] at h1; exact wpAny_of_late hQ fuel _ _ U D _ hU hD hw h1
  | some o =>
   rw [ho] at h1
   have h2 : if Region.wanted o (yielded ops a.tmps) = true then lateStep P U0 (sp i) (lt i) o a U D (wpAnyT P md ops U0 sp lt Q fuel (listed.setIfInBounds i true)) else wpAnyT P md ops U0 sp lt Q fuel (listed.setIfInBounds i true) (a.put o.dst undef) U D := h1
   show if _ then _ else _
   by_cases hwt : Region.wanted o (yielded ops a.tmps) = true
   ·rw [if_pos hwt] at h2 ⊢
    exact .inl (wp_of_late hU hD hw (fun a' U' D' w' hU' hD' hd hk => wpAny_of_late hQ fuel _ a' U' D' w' hU' hD' hd hk) h2)
   ·rw [if_neg hwt] at h2 ⊢
    exact wpAny_of_late hQ fuel _ _ U D _ hU hD hw h2⟩
theorem LeavesV.less {U U' : Cls} {s : Bool} {o : Oper} {v : Value} {a : Act} (h : LeavesV P ops U s o v a) (hU : ∀ w, U' w → U w) : LeavesV P ops U' s o v a := by
 rcases h with ⟨h1, h2, h3⟩ | h
 ·exact .inl ⟨h1, h2, fun w hw => h3 w (hU w hw)⟩
 ·exact .inr h
theorem lateOp_put {s : Bool} {j : Nat} {oi oj : Oper} {v : Value} (hj : ops[j]? = some oj) (hap : oi.apart ops oj = true)
 (hsi : ∀ cs b, oi.op ≠ .select cs b) (hsj : ∀ cs b, oj.op ≠ .select cs b) {K : Act → Cls → Cls → Prop} {a : Act} {U D : Cls} {t : Bool}
 (hy : LeavesV P ops (if t = true then U else U0) s oi v a) (h : lateOp P ops U0 sp lt j K (a.put oi.dst v) U D) :
 lateOp P ops U0 sp lt j (fun a' U' D' => LeavesV P ops (if t = true then U' else U0) s oi v a' ∧ K (a'.put oi.dst v) U' D') a U D := by
 obtain ⟨h1, h2, h3⟩ := Oper.apart_spec hap
 unfold lateOp at *
 simp only [hj] at *
 rw [wanted_put oj a oi.dst v h1] at h
 by_cases hw : Region.wanted oj (yielded ops a.tmps) = true
 ·rw [if_pos hw] at h ⊢
  unfold lateStep lateSpine at *
  cases hs : sp j
  ·rw [hs] at h
   obtain ⟨u, hu, hn⟩ := h
   refine ⟨u, ?_, hy.put hsi h3, by rw [← Act.put_comm a v u h2]; exact hn⟩
   unfold stillIn at hu ⊢
   rw [execOp_put oj hsj a oi.dst v h1] at hu
   exact hu
  ·rw [hs] at h
   obtain ⟨p, U', D', hu, hn⟩ := h
   rw [execOp_put oj hsj a oi.dst v h1] at hu
   refine ⟨p, U', D', hu, fun u hp => ⟨?_, by rw [← Act.put_comm a v u h2]; exact hn u hp⟩⟩
   refine LeavesV.put hsi h3 (hy.less ?_)
   cases t
   ·exact fun w hw => hw
   ·exact hu.2.1 u
 ·rw [if_neg hw] at h ⊢
  exact ⟨hy.put hsi h3, by rw [← Act.put_comm a v undef h2]; exact h⟩
theorem late_first_still {s t : Bool} {Q : Act → World → Prop} {i : Nat} {oi : Oper} {v : Value} (hi : ops[i]? = some oi) (hsel : ∀ (j : Nat) (o : Oper) cs b, ops[j]? = some o → o.op ≠ .select cs b)
 (hown : ∀ {K : Act → Cls → Cls → Prop} {a : Act} {U D : Cls}, LeavesV P ops (if t = true then U else U0) s oi v a → K (a.put oi.dst v) U D → lateOp P ops U0 sp lt i K a U D) :
 ∀ (fuel : Nat) (listed : Array Bool) (a : Act) (U D : Cls), FreeOf md ops oi i listed → i ∈ Region.ready md ops listed → LeavesV P ops (if t = true then U else U0) s oi v a →
  wpAnyT P md ops U0 sp lt Q fuel (listed.setIfInBounds i true) (a.put oi.dst v) U D → wpAnyT P md ops U0 sp lt Q (fuel + 1) listed a U D := by
 intro fuel
 induction fuel with
 | zero =>
  intro listed a U D _ hr hy H
  refine ⟨fun h => (by rw [h] at hr; cases hr), fun j hj => ?_⟩
  by_cases hji : j = i
  ·subst hji; exact hown hy H
  ·have := ready_mono hj hji
   rw [H.1] at this
   cases this
 | succ fuel ih =>
  intro listed a U D hfree hr hy H
  refine ⟨fun h => (by rw [h] at hr; cases hr), fun j hj => ?_⟩
  by_cases hji : j = i
  ·subst hji; exact hown hy H
  ·have h1 := H.2 j (ready_mono hj hji)
   obtain ⟨hjun, oj, hoj, hall⟩ := mem_ready.1 hj
   have h2 := lateOp_put hoj (hfree j oj hoj hji hjun (not_after hr hall)) (fun cs b => hsel i oi cs b hi) (fun cs b => hsel j oj cs b hoj) hy h1
   refine lateOp_mono (fun a' U' D' _ h3 => ih (listed.setIfInBounds j true) a' U' D' (hfree.later hjun) (ready_mono hr (Ne.symm hji)) h3.1 ?_) h2
   rw [Array.setIfInBounds_comm _ _ hji]
   exact h3.2
def Lone (md : Region.Mode) (ops : Array Oper) (sp lt : Nat → Bool) (i : Nat) (listed : Array Bool) : Prop :=
 ∀ j oj, (sp j || lt j) = true → j ≠ i → ops[j]? = some oj → listed.getD j true = false → ∃ e ∈ oj.after, Region.binds md e = true ∧ sp e.on = true ∧ listed.getD e.on false = false
theorem Lone.not_ready {i j : Nat} {listed : Array Bool} (h : Lone md ops sp lt i listed) (hj : j ∈ Region.ready md ops listed) (hji : j ≠ i) : sp j = false ∧ lt j = false := by
 obtain ⟨hun, oj, hoj, hall⟩ := mem_ready.1 hj
 cases hs : (sp j || lt j)
 ·exact Bool.or_eq_false_iff.1 hs
 ·obtain ⟨e, he, hb, _, hl⟩ := h j oj hs hji hoj hun
  rw [hall e he hb] at hl
  cases hl
theorem Lone.later {i j : Nat} {listed : Array Bool} (h : Lone md ops sp lt i listed) (hs : sp j = false) : Lone md ops sp lt i (listed.setIfInBounds j true) := by
 intro k ok hk hki hok hun
 by_cases hjk : j = k
 ·subst hjk
  rcases Nat.lt_or_ge j listed.size with h' | h'
  ·simp [h'] at hun
  ·rw [show listed.setIfInBounds j true = listed by simp [Array.setIfInBounds, Nat.not_lt.2 h']] at hun
   simp [Array.getElem?_eq_none h'] at hun
 ·rw [getD_set_ne true hjk] at hun
  obtain ⟨e, he, hb, hse, hl⟩ := h k ok hk hki hok hun
  have hje : j ≠ e.on := fun e' => by rw [e', hse] at hs; cases hs
  exact ⟨e, he, hb, hse, by rw [getD_set_ne false hje]; exact hl⟩
theorem late_first_spine {Q : Act → World → Prop} {i : Nat} {oi : Oper} {p : Value → Prop} {U' D' : Value → Cls} {w0 : World} (hw0 : U0 w0) (hi : ops[i]? = some oi) (hsi : sp i = true) (hsel : ∀ (j : Nat) (o : Oper) cs b, ops[j]? = some o → o.op ≠ .select cs b) :
 ∀ (fuel : Nat) (listed : Array Bool) (a : Act) (U D : Cls), FreeOf md ops oi i listed → Lone md ops sp lt i listed → i ∈ Region.ready md ops listed → Region.wanted oi (yielded ops a.tmps) = true → lateSpine P oi a U D p U' D' →
  (∀ v, p v → wpAnyT P md ops U0 sp lt Q fuel (listed.setIfInBounds i true) (a.put oi.dst v) (U' v) (D' v)) → wpAnyT P md ops U0 sp lt Q (fuel + 1) listed a U D := by
 intro fuel
 induction fuel with
 | zero =>
  intro listed a U D _ _ hr hw hy H
  refine ⟨fun h => (by rw [h] at hr; cases hr), fun j hj => ?_⟩
  by_cases hji : j = i
  ·subst hji
   unfold lateOp
   simp only [hi, if_pos hw]
   unfold lateStep
   rw [if_pos hsi]
   exact ⟨p, U', D', hy, H⟩
  ·obtain ⟨v0, hv0⟩ := hy.1
   have := ready_mono hj hji
   rw [(H v0 hv0).1] at this
   cases this
 | succ fuel ih =>
  intro listed a U D hfree hal hr hw hy H
  refine ⟨fun h => (by rw [h] at hr; cases hr), fun j hj => ?_⟩
  by_cases hji : j = i
  ·subst hji
   unfold lateOp
   simp only [hi, if_pos hw]
   unfold lateStep
   rw [if_pos hsi]
   exact ⟨p, U', D', hy, H⟩
  ·obtain ⟨hjun, oj, hoj, hall⟩ := mem_ready.1 hj
   obtain ⟨hsj, hlj⟩ := hal.not_ready hj hji
   have hap := hfree j oj hoj hji hjun (not_after hr hall)
   obtain ⟨h1, h2, h3⟩ := Oper.apart_spec hap
   have seli := fun cs b => hsel i oi cs b hi
   have selj := fun cs b => hsel j oj cs b hoj
   have hw' : ∀ u, Region.wanted oi (yielded ops (a.put oj.dst u).tmps) = true := fun u => by rw [wanted_put oi a oj.dst u h3]; exact hw
   have hy' : ∀ u, lateSpine P oi (a.put oj.dst u) U D p U' D' := fun u => by unfold lateSpine at *; rw [execOp_put oi seli a oj.dst u h3]; exact hy
   have hop : ∀ v, p v → lateOp P ops U0 sp lt j (wpAnyT P md ops U0 sp lt Q fuel ((listed.setIfInBounds i true).setIfInBounds j true)) (a.put oi.dst v) (U' v) (D' v) := fun v hv => (H v hv).2 j (ready_mono hj hji)
   unfold lateOp at hop ⊢
   simp only [hoj] at hop ⊢
   by_cases hwj : Region.wanted oj (yielded ops a.tmps) = true
   ·rw [if_pos hwj]
    unfold lateStep
    rw [if_neg (by simp [hsj]), hlj]
    have hst : ∀ v, p v → ∃ u, stillIn P U0 oj a u ∧ wpAnyT P md ops U0 sp lt Q fuel ((listed.setIfInBounds i true).setIfInBounds j true) ((a.put oi.dst v).put oj.dst u) (U' v) (D' v) := fun v hv => by
     have h4 := hop v hv
     rw [wanted_put oj a oi.dst v h1, if_pos hwj] at h4
     unfold lateStep at h4
     rw [if_neg (by simp [hsj]), hlj] at h4
     obtain ⟨u, hu, hk⟩ := h4
     refine ⟨u, ?_, hk⟩
     have hu' : stillIn P U0 oj (a.put oi.dst v) u := hu
     unfold stillIn at hu' ⊢
     rw [execOp_put oj selj a oi.dst v h1] at hu'
     exact hu'
    obtain ⟨v0, hv0⟩ := hy.1
    obtain ⟨u, hu, _⟩ := hst v0 hv0
    refine ⟨u, hu, ih (listed.setIfInBounds j true) _ U D (hfree.later hjun) (hal.later hsj) (ready_mono hr (Ne.symm hji)) (hw' u) (hy' u) (fun v hv => ?_)⟩
    obtain ⟨u', hu', hk⟩ := hst v hv
    have e : u' = u := by
     have e1 := hu' w0 hw0
     rw [hu w0 hw0] at e1
     simp at e1
     exact e1.symm
    subst e
    rw [← Act.put_comm a v u' h2, Array.setIfInBounds_comm _ _ hji]
    exact hk
   ·rw [if_neg hwj]
    refine ih (listed.setIfInBounds j true) _ U D (hfree.later hjun) (hal.later hsj) (ready_mono hr (Ne.symm hji)) (hw' undef) (hy' undef) (fun v hv => ?_)
    have h4 := hop v hv
    rw [wanted_put oj a oi.dst v h1, if_neg hwj] at h4
    rw [← Act.put_comm a v undef h2, Array.setIfInBounds_comm _ _ hji]
    exact h4
def loneB (md : Region.Mode) (ops : Array Oper) (sp lt : Nat → Bool) : Bool :=
 (List.range ops.size).all fun j => !(sp j || lt j) || (List.range j).all (fun i => !sp i) ||
  match ops[j]? with
  | some oj => oj.after.any fun e => Region.binds md e && sp e.on && decide (e.on < j) && (List.range ops.size).all fun i => !sp i || decide (i ≤ e.on) || decide (j ≤ i)
  | none => true
theorem lone_spec (h : loneB md ops sp lt = true) {i : Nat} {listed : Array Bool} (hi : sp i = true) (hlow : ∀ j, j < i → listed.getD j false = true) (hhigh' : ∀ j, i ≤ j → j < ops.size → listed.getD j false = false) : Lone md ops sp lt i listed := by
 intro j oj hs hji hoj hun
 have hjs : j < ops.size := (Array.getElem?_eq_some_iff.1 hoj).1
 unfold loneB at h
 rw [List.all_eq_true] at h
 have h1 := h j (List.mem_range.2 hjs)
 simp only [hs, hoj, Bool.not_true, Bool.false_or, Bool.or_eq_true, List.all_eq_true, List.mem_range, Bool.not_eq_true'] at h1
 by_cases hlt : j < i
 ·have h2 := hlow j hlt
  rcases Nat.lt_or_ge j listed.size with h' | h'
  ·simp [h'] at h2 hun; rw [h2] at hun; cases hun
  ·simp [Array.getElem?_eq_none h'] at h2
 ·have hij : i < j := by omega
  rcases h1 with h1 | h1
  ·have := h1 i hij
   rw [hi] at this; cases this
  ·obtain ⟨e, he, hb⟩ := Array.any_eq_true'.1 h1
   simp only [Bool.and_eq_true, decide_eq_true_eq, List.all_eq_true, List.mem_range, Bool.or_eq_true, Bool.not_eq_true'] at hb
   obtain ⟨⟨⟨hb1, hb2⟩, hb3⟩, hb4⟩ := hb
   have hie : i ≤ e.on := by
    rcases hb4 i (by omega) with (h5 | h5) | h5
    ·rw [hi] at h5; cases h5
    ·exact h5
    ·omega
   exact ⟨e, he, hb1, hb2, hhigh' e.on hie (by omega)⟩
theorem wpAnyT_lex {Q : Act → World → Prop} {w0 : World} (hw0 : U0 w0) (hs : Region.noSelect ops = true) (hc : loneB md ops sp lt = true) : ∀ (l : List Oper) (k : Nat) (a : Act) (U D : Cls), (∀ j, l[j]? = ops[k + j]?) → k + l.length = ops.size →
 Region.lexFrom md ops l.length k (upto ops.size k) = true → wpLate P ops U0 sp lt Q l k a U D → wpAnyT P md ops U0 sp lt Q l.length (upto ops.size k) a U D
 | [], _, _, _, _, _, _, hB, h => ⟨by simpa [Region.lexFrom] using hB, h⟩
 | o :: l, k, a, U, D, hl, hsz, hB, h => by
  have h0 : ops[k]? = some o := by simpa using (hl 0).symm
  simp only [List.length_cons, Region.lexFrom, Bool.and_eq_true] at hB
  obtain ⟨⟨hr, hf⟩, hB'⟩ := hB
  rw [upto_succ] at hB'
  have hr' : k ∈ Region.ready md ops (upto ops.size k) := by simpa using hr
  have hfree : FreeOf md ops o k (upto ops.size k) := Region.free_spec h0 hf
  have next : ∀ a' U' D', wpLate P ops U0 sp lt Q l (k + 1) a' U' D' → wpAnyT P md ops U0 sp lt Q l.length ((upto ops.size k).setIfInBounds k true) a' U' D' := fun a' U' D' hh => by
   rw [upto_succ]
   exact wpAnyT_lex hw0 hs hc l (k + 1) a' U' D' (fun j => by have := hl (j + 1); simpa [Nat.add_assoc, Nat.add_comm 1 j] using this) (by simp at hsz; omega) hB' hh
  have h' : if Region.wanted o (yielded ops a.tmps) = true then lateStep P U0 (sp k) (lt k) o a U D (wpLate P ops U0 sp lt Q l (k + 1)) else wpLate P ops U0 sp lt Q l (k + 1) (a.put o.dst undef) U D := h
  by_cases hw : Region.wanted o (yielded ops a.tmps) = true
  ·rw [if_pos hw] at h'
   unfold lateStep at h'
   cases hsp : sp k
   ·rw [hsp] at h'
    obtain ⟨v, hv, hk⟩ := h'
    refine late_first_still (s := false) (t := lt k) h0 (Region.noSelect_spec hs) ?_ l.length _ a U D hfree hr' (.inl ⟨rfl, hw, hv⟩) (next _ _ _ hk)
    intro K a U D hy hK
    unfold lateOp
    simp only [h0]
    rcases hy with ⟨_, hw2, hv2⟩ | ⟨hw2, rfl⟩
    ·rw [if_pos hw2]
     unfold lateStep
     rw [hsp]
     exact ⟨v, hv2, hK⟩
    ·rw [if_neg (by simp [hw2])]
     exact hK
   ·rw [hsp] at h'
    obtain ⟨p, U', D', hy, hk⟩ := h'
    have hks : k < ops.size := by simp at hsz; omega
    refine late_first_spine hw0 h0 hsp (Region.noSelect_spec hs) l.length _ a U D hfree (lone_spec hc hsp (fun j hj => ?_) (fun j hj hjs => ?_)) hr' hw hy (fun v hv => next _ _ _ (hk v hv))
    ·rw [upto_lt (by omega)]; exact decide_eq_true hj
    ·rw [upto_lt hjs]; exact decide_eq_false (by omega)
  ·rw [if_neg hw] at h'
   have hw' : Region.wanted o (yielded ops a.tmps) = false := by simpa using hw
   refine late_first_still (s := true) (t := true) h0 (Region.noSelect_spec hs) ?_ l.length _ a U D hfree hr' (.inr ⟨hw', rfl⟩) (next _ _ _ h')
   intro K a U D hy hK
   unfold lateOp
   simp only [h0]
   rcases hy with ⟨hf, _⟩ | ⟨hw2, _⟩
   ·cases hf
   ·rw [if_neg (by simp [hw2])]
    exact hK
theorem wp_region_late {id : Nat} {Q : Exit → Act → World → Prop} {a : Act} {w : World} (U0 : Cls) (sp lt : Nat → Bool) (hm : P.follows .mixedOrders = true) (hB : Region.lexB .any ops = true) (hc : loneB .any ops sp lt = true)
 (hD : U0 w.drew) (h : wpLate P ops U0 sp lt (fun a' w' => Q .normal a' w') ops.toList 0 a U0 U0) : (Code.region id ops true).wp P Q a w := by
 simp only [Region.lexB, Bool.and_eq_true] at hB
 have hD' : U0 { w with drawn := w.drawn + 1 } := hD
 refine wp_region_any hm (wpAny_of_late (U0 := U0) (sp := sp) (lt := lt) (Q := fun a' w' => Q .normal a' w') (fun _ _ h => h) _ _ _ U0 U0 _ (fun _ h => h) (fun _ h => h) hD' ?_)
 have := wpAnyT_lex (md := .any) hD' hB.1 hc ops.toList 0 a U0 U0 (by simp) (by simp) (by rw [upto_zero]; simpa using hB.2) h
 rw [upto_zero] at this
 simpa using this
theorem wpLate_nil {Q : Act → World → Prop} {a : Act} {k : Nat} {U D : Cls} (h : ∀ w, D w → Q a w) : wpLate P ops U0 sp lt Q [] k a U D := h
theorem wpLate_still {Q : Act → World → Prop} {a : Act} {o : Oper} {rest : List Oper} {k : Nat} {U D : Cls} (hs : (sp k || lt k) = false)
 (h : ∀ K : Act → Prop, (∀ a, wpLate P ops U0 sp lt Q rest (k + 1) a U D → K a) → if Region.wanted o (yielded ops a.tmps) = true then ∃ v, (∀ w, U0 w → (execOp a.eval o).run P w = .ok (.value v) w) ∧ K (a.put o.dst v) else K (a.put o.dst undef)) : wpLate P ops U0 sp lt Q (o :: rest) k a U D := by
 have h1 := h (fun a => wpLate P ops U0 sp lt Q rest (k + 1) a U D) (fun _ h => h)
 obtain ⟨hs1, hs2⟩ := Bool.or_eq_false_iff.1 hs
 show if _ then _ else _
 by_cases hw : Region.wanted o (yielded ops a.tmps) = true
 ·rw [if_pos hw] at h1 ⊢
  unfold lateStep
  rw [hs1, hs2]
  exact h1
 ·rw [if_neg hw] at h1 ⊢
  exact h1
theorem wpLate_spine {Q : Act → World → Prop} {a : Act} {o : Oper} {rest : List Oper} {k : Nat} {U D : Cls} (hs : sp k = true) (hw : Region.wanted o (yielded ops a.tmps) = true) (p : Value → Prop) (U' D' : Value → Cls) (hp : ∃ v, p v) (hU : ∀ v w, U' v w → U w) (hD : ∀ v w, D' v w → U' v w)
 (hrun : ∀ w, D w → spineUpon P (fun v w' => p v ∧ D' v w') ((execOp a.eval o).run P w)) (h : ∀ v, p v → wpLate P ops U0 sp lt Q rest (k + 1) (a.put o.dst v) (U' v) (D' v)) : wpLate P ops U0 sp lt Q (o :: rest) k a U D := by
 show if _ then _ else _
 rw [if_pos hw]
 unfold lateStep
 rw [hs]
 exact ⟨p, U', D', ⟨hp, hU, hD, hrun⟩, h⟩
end
end Go.Proofs.YtcbnnfeelhlapadGreatDoor
