/-
  Plain mathematics of a town: a log, and writers at their desks; what steps do, and what always holds. No walk.
-/
import Derived.Test.YtnabhdfodckpdacWRoom
import Derived.Test.YtnabhdfodckpdacRPlain
import Derived.Test.YtnabhdfodckpdacFSame
namespace Go.Proofs.Ytnabhdfodckpdac

structure Tst where
  kind : Int
  w : Int
  at_ : Int
  many : Int
  text : ByteArray
structure Twn where
  b : Bk
  ws : Int → Option Wr

def leastFor (b : Bk) (seen : Nat) : Int := (b.ds.drop seen).foldl (fun n d => if d.seen < n then d.seen else n) (leastL b)

/-- A step's deed: its writer's next one. -/
def ownD (w : Wr) (s : Tst) : Dd := if s.kind = 2 then ⟨1, w.me, w.next, w.seen, s.at_, 0, s.text⟩ else ⟨2, w.me, w.next, w.seen, s.at_, s.many, ByteArray.empty⟩
theorem dd_eq (a b : Dd) : (a.kind = b.kind ∧ a.by_ = b.by_ ∧ a.no = b.no ∧ a.seen = b.seen ∧ a.at_ = b.at_ ∧ a.many = b.many ∧ a.text.data = b.text.data) ↔ a = b := by
  obtain ⟨a1, a2, a3, a4, a5, a6, ⟨a7⟩⟩ := a
  obtain ⟨b1, b2, b3, b4, b5, b6, ⟨b7⟩⟩ := b
  simp
instance : DecidableEq Dd := fun a b => decidable_of_iff _ (dd_eq a b)
def doesW (w : Wr) (e : Dd) : Wr := ⟨w.me, w.seen, w.next + 1, w.base, w.opens ++ [e], w.sent⟩
def sentW (w : Wr) : Wr := ⟨w.me, w.seen, w.next, w.base, w.opens, w.sent + 1⟩
def hearC (w : Wr) (d : Dd) : Int := if d.by_ ≠ w.me then doC w.list d ((w.seen : Int) + 1) else if w.opens.head? = some d then 0 else 12
def hearW (w : Wr) (d : Dd) : Wr :=
  if d.by_ ≠ w.me then ⟨w.me, w.seen + 1, w.next, doL w.base d ((w.seen : Int) + 1), w.opens, w.sent⟩ else ⟨w.me, w.seen + 1, w.next, doL w.base d ((w.seen : Int) + 1), w.opens.tail, w.sent - 1⟩
def clearW (w : Wr) (least : Int) : Wr := ⟨w.me, w.seen, w.next, ofL least w.base, w.opens, w.sent⟩
def newW (b : Bk) (v : Int) : Wr := ⟨v, b.ds.length, b.last v + 1, b.chars, [], 0⟩
def dropT (t : Twn) (v : Int) : Twn := ⟨leaveB t.b v, setF t.ws v none⟩

def sendT (t : Twn) (v : Int) (w : Wr) : Int × Twn :=
  match w.opens[w.sent]? with
  | none => (5, t)
  | some d => (comesC t.b d, if comesC t.b d = 0 then ⟨comesB t.b d, setF t.ws v (some (sentW w))⟩ else dropT t v)
def hearT (t : Twn) (v : Int) (w : Wr) : Int × Twn :=
  match t.b.ds[w.seen]? with
  | none => (5, t)
  | some d => if hearC w d = 0 then (saysC t.b v (hearW w d).least, ⟨saysB t.b v (hearW w d).least, setF t.ws v (some (hearW w d))⟩) else (hearC w d, dropT t v)
def ownT (t : Twn) (v : Int) (w : Wr) (s : Tst) : Int × Twn :=
  (doC w.list (ownD w s) openN, if doC w.list (ownD w s) openN = 0 then ⟨t.b, setF t.ws v (some (doesW w (ownD w s)))⟩ else t)
def joinT (t : Twn) (v : Int) : Int × Twn :=
  (joinC t.b v, if joinC t.b v = 0 then ⟨joinB t.b v, setF t.ws v (some (newW t.b v))⟩ else t)

def tDo (t : Twn) (s : Tst) : Int × Twn :=
  if s.kind < 1 ∨ 7 < s.kind then (2, t) else if s.kind = 1 then joinT t s.w else
    match t.ws s.w with
    | none => (5, t)
    | some w =>
      if s.kind = 2 ∨ s.kind = 3 then ownT t s.w w s else if s.kind = 4 then sendT t s.w w else if s.kind = 5 then hearT t s.w w
      else if s.kind = 6 then (0, ⟨t.b, setF t.ws s.w (some (clearW w (leastFor t.b w.seen)))⟩) else (0, dropT t s.w)

/-- What always holds. -/
structure TwI (t : Twn) : Prop where
  good : Good t.b
  wi : ∀ k w, t.ws k = some w → w.me = k ∧ ∃ c, WI t.b c w
  here : ∀ k, t.b.here k = true → ∃ w, t.ws k = some w
  none : ∀ k, wrB k = false → t.ws k = none

theorem twn_start : TwI ⟨Bk.empty, fun _ => none⟩ := by
  refine ⟨good_empty, fun k w h => ?_, fun k h => ?_, fun _ _ => rfl⟩
  · cases h
  · cases h

theorem TwI.set {t : Twn} (h : TwI t) {b' : Bk} {v : Int} {w' : Wr} (hg : Good b') (hv : wrB v = true) (hm : w'.me = v) (hw : ∃ c, WI b' c w') (ho : ∀ k w c, k ≠ v → t.ws k = some w → WI t.b c w → WI b' c w) (hh : ∀ k, k ≠ v → b'.here k = true → t.b.here k = true) :
    TwI ⟨b', setF t.ws v (some w')⟩ := by
  refine ⟨hg, fun k w hk => ?_, fun k hk => ?_, fun k hk => ?_⟩
  · have hk' : setF t.ws v (some w') k = some w := hk
    by_cases e : k = v
    · subst e
      rw [setF_same, Option.some.injEq] at hk'
      subst hk'
      exact ⟨hm, hw⟩
    · rw [setF_other _ _ e] at hk'
      obtain ⟨h1, c, h2⟩ := h.wi k w hk'
      exact ⟨h1, c, ho k w c e hk' h2⟩
  · show ∃ w, setF t.ws v (some w') k = some w
    by_cases e : k = v
    · subst e
      exact ⟨w', setF_same _ _ _⟩
    · rw [setF_other _ _ e]
      exact h.here k (hh k e hk)
  · show setF t.ws v (some w') k = Option.none
    have e : k ≠ v := fun e => by subst e; rw [hv] at hk; cases hk
    rw [setF_other _ _ e]
    exact h.none k hk

theorem TwI.drop {t : Twn} (h : TwI t) {v : Int} (hv : t.b.isHere v = true) : TwI (dropT t v) := by
  refine ⟨good_leave v h.good, fun k w hk => ?_, fun k hk => ?_, fun k hk => ?_⟩
  · have hk' : setF t.ws v Option.none k = some w := hk
    by_cases e : k = v
    · subst e
      rw [setF_same] at hk'; cases hk'
    · rw [setF_other _ _ e] at hk'
      obtain ⟨h1, c, h2⟩ := h.wi k w hk'
      exact ⟨h1, c, h2.other_leaves (by rw [h1]; exact Ne.symm e)⟩
  · have hl : leaveC t.b v = 0 := by rw [leaveC, if_pos hv]
    have hk' : (leaveB t.b v).here k = true := hk
    rw [leaveB, if_pos hl] at hk'
    have hk'' : setF t.b.here v false k = true := hk'
    show ∃ w, setF t.ws v Option.none k = some w
    by_cases e : k = v
    · subst e
      rw [setF_same] at hk''; cases hk''
    · rw [setF_other _ _ e] at hk'' ⊢
      exact h.here k hk''
  · show setF t.ws v Option.none k = Option.none
    by_cases e : k = v
    · subst e; exact setF_same _ _ _
    · rw [setF_other _ _ e]; exact h.none k hk

theorem TwI.is_here {t : Twn} (h : TwI t) {v : Int} {w : Wr} (hw : t.ws v = some w) : t.b.isHere v = true ∧ wrB v = true := by
  obtain ⟨rfl, c, hi⟩ := h.wi v w hw
  exact ⟨by rw [Bk.isHere, hi.wr, hi.here]; rfl, hi.wr⟩

theorem least_for (b : Bk) (seen : Nat) : leastFor b seen ≤ leastL b ∧ ∀ d ∈ b.ds.drop seen, leastFor b seen ≤ d.seen := by
  have : ∀ (l : List Dd) (n : Int), l.foldl (fun n d => if d.seen < n then d.seen else n) n ≤ n ∧ ∀ d ∈ l, l.foldl (fun n d => if d.seen < n then d.seen else n) n ≤ d.seen := by
    intro l
    induction l with
    | nil => exact fun n => ⟨Int.le_refl _, fun d hd => absurd hd (by simp)⟩
    | cons x l ih =>
      intro n
      obtain ⟨i1, i2⟩ := ih (if x.seen < n then x.seen else n)
      have hle : (if x.seen < n then x.seen else n) ≤ n ∧ (if x.seen < n then x.seen else n) ≤ x.seen := by split <;> omega
      rw [List.foldl_cons]
      refine ⟨by omega, fun d hd => ?_⟩
      rcases List.mem_cons.1 hd with rfl | hd
      · omega
      · exact i2 d hd
  exact this _ _

theorem ti_join {t : Twn} (h : TwI t) (v : Int) : TwI (joinT t v).2 := by
  unfold joinT
  by_cases hc : joinC t.b v = 0
  · show TwI (if joinC t.b v = 0 then _ else _)
    rw [if_pos hc]
    have hv : wrB v = true := by
      unfold joinC at hc
      cases hh : wrB v
      · rw [if_pos hh] at hc; cases hc
      · rfl
    refine h.set (good_join v h.good) hv rfl ⟨0, WI.comes_in h.good hc⟩ (fun k w c hk hw hi => ?_) (fun k hk hh => ?_)
    · obtain ⟨h1, _⟩ := h.wi k w hw
      exact hi.other_joins (by rw [h1]; exact Ne.symm hk)
    · rw [joinB, if_pos hc] at hh
      have hh' : setF t.b.here v true k = true := hh
      rw [setF_other _ _ hk] at hh'
      exact hh'
  · show TwI (if joinC t.b v = 0 then _ else _)
    rw [if_neg hc]; exact h

theorem own_parts (w : Wr) (s : Tst) : (ownD w s).by_ = w.me ∧ (ownD w s).no = w.next ∧ (ownD w s).seen = w.seen := by
  unfold ownD
  split <;> exact ⟨rfl, rfl, rfl⟩

theorem ti_own {t : Twn} (h : TwI t) {v : Int} {w : Wr} (hw : t.ws v = some w) (s : Tst) : TwI (ownT t v w s).2 := by
  obtain ⟨hm, c, hi⟩ := h.wi v w hw
  obtain ⟨o1, o2, o3⟩ := own_parts w s
  unfold ownT
  show TwI (if doC w.list (ownD w s) openN = 0 then _ else _)
  by_cases hc : doC w.list (ownD w s) openN = 0
  · rw [if_pos hc]
    exact h.set h.good (h.is_here hw).2 hm ⟨c, hi.does h.good o1 o2 o3 hc⟩ (fun _ _ _ _ _ x => x) (fun _ _ x => x)
  · rw [if_neg hc]; exact h

/-- What it sends is taken, as long as there is room. -/
theorem ti_send {t : Twn} (h : TwI t) {v : Int} {w : Wr} (hw : t.ws v = some w) : TwI (sendT t v w).2 := by
  obtain ⟨hm, c, hi⟩ := h.wi v w hw
  unfold sendT
  cases hd : w.opens[w.sent]? with
  | none => exact h
  | some d =>
    show TwI (if comesC t.b d = 0 then _ else _)
    by_cases hc : comesC t.b d = 0
    · rw [if_pos hc]
      have hb := (hi.own d (List.mem_of_getElem? hd)).1
      refine h.set (good_comes d h.good) (h.is_here hw).2 hm ⟨c, hi.sent_ok hd hc⟩ (fun k w' c' hk hw' hi' => ?_) (fun k _ hh => ?_)
      · obtain ⟨h1, _⟩ := h.wi k w' hw'
        exact hi'.other_comes (by rw [hb, hm, h1]; exact Ne.symm hk) hc
      · rw [comes_eq hc] at hh
        exact hh
    · rw [if_neg hc]
      exact h.drop (h.is_here hw).1

theorem hear_ok {b : Bk} {c : Int} {w : Wr} (hi : WI b c w) (hg : Good b) {d : Dd} (hd : b.ds[w.seen]? = some d) : (hearC w d = 0 ∨ hearC w d = 9) ∧ (hearC w d = 0 → WI b c (hearW w d)) := by
  obtain ⟨hl, rfl⟩ := List.getElem?_eq_some_iff.1 hd
  unfold hearC hearW
  by_cases hb : b.ds[w.seen].by_ = w.me
  · have hnb : ¬ b.ds[w.seen].by_ ≠ w.me := fun x => x hb
    rw [if_neg hnb, if_neg hnb]
    obtain ⟨es, he, h1⟩ := hi.own_first hl hb
    have hh : w.opens.head? = some b.ds[w.seen] := by rw [he]; rfl
    have ht : w.opens.tail = es := by rw [he]; rfl
    rw [if_pos hh, ht]
    exact ⟨.inl rfl, fun _ => (hi.hears_own hg hl he h1 hb).1⟩
  · rw [if_pos hb, if_pos hb]
    obtain ⟨h1, h2⟩ := hi.hears_other hg hl hb
    exact ⟨h1, fun hc => (h2 hc).2⟩

theorem hearW_me (w : Wr) (d : Dd) : (hearW w d).me = w.me ∧ (hearW w d).seen = w.seen + 1 := by
  unfold hearW
  split <;> exact ⟨rfl, rfl⟩

theorem ti_hear {t : Twn} (h : TwI t) {v : Int} {w : Wr} (hw : t.ws v = some w) : TwI (hearT t v w).2 ∧ (∀ d, t.b.ds[w.seen]? = some d → hearC w d = 0 → (hearT t v w).1 = 0) := by
  obtain ⟨hm, c, hi⟩ := h.wi v w hw
  unfold hearT
  cases hd : t.b.ds[w.seen]? with
  | none => exact ⟨h, fun d hd => by cases hd⟩
  | some d =>
    obtain ⟨_, h2⟩ := hear_ok hi h.good hd
    by_cases hc : hearC w d = 0
    · have hs := (h2 hc).says
      rw [(hearW_me w d).1, hm] at hs
      show TwI (if hearC w d = 0 then (_, _) else (_, _)).2 ∧ _
      refine ⟨?_, fun d' hd' hc' => ?_⟩
      · rw [if_pos hc]
        refine h.set (good_says _ _ h.good) (h.is_here hw).2 ((hearW_me w d).1.trans hm) ⟨c, hs.2⟩ (fun k w' c' hk hw' hi' => ?_) (fun k _ hh => ?_)
        · obtain ⟨h1, _⟩ := h.wi k w' hw'
          exact hi'.other_says (by rw [h1]; exact Ne.symm hk)
        · rw [saysB, if_pos hs.1] at hh
          exact hh
      · show (if hearC w d = 0 then (_, _) else (_, _)).1 = (0 : Int)
        rw [if_pos hc]
        exact hs.1
    · show TwI (if hearC w d = 0 then (_, _) else (_, _)).2 ∧ _
      refine ⟨?_, fun d' hd' hc' => ?_⟩
      · rw [if_neg hc]
        exact h.drop (h.is_here hw).1
      · obtain rfl := Option.some.inj hd'
        exact absurd hc' hc

theorem ti_do {t : Twn} (h : TwI t) (s : Tst) : TwI (tDo t s).2 := by
  unfold tDo
  split
  · exact h
  · split
    · exact ti_join h s.w
    · cases hw : t.ws s.w with
      | none => exact h
      | some w =>
        show TwI (if s.kind = 2 ∨ s.kind = 3 then ownT t s.w w s else if s.kind = 4 then sendT t s.w w else if s.kind = 5 then hearT t s.w w
          else if s.kind = 6 then (0, ⟨t.b, setF t.ws s.w (some (clearW w (leastFor t.b w.seen)))⟩) else (0, dropT t s.w)).2
        split
        · exact ti_own h hw s
        · split
          · exact ti_send h hw
          · split
            · exact (ti_hear h hw).1
            · split
              · obtain ⟨hm, c, hi⟩ := h.wi _ w hw
                obtain ⟨l1, l2⟩ := least_for t.b w.seen
                obtain ⟨c', hc', _⟩ := hi.clears h.good l1 l2
                exact h.set h.good (h.is_here hw).2 hm ⟨c', hc'⟩ (fun _ _ _ _ _ x => x) (fun _ _ x => x)
              · exact h.drop (h.is_here hw).1

/-! All come to the same text. -/

/-- What has a number took away with it. -/
theorem gone_do {l : List Ch} {d : Dd} {n : Int} (h : ∀ x ∈ l, x.gone ≠ 0 → x.out ≠ 0) (h1 : 1 ≤ n) (ho : n < openN) : ∀ x ∈ doL l d n, x.gone ≠ 0 → x.out ≠ 0 := by
  by_cases kd : d.kind = 1
  · rw [doL_put kd]
    intro x hx hg
    rcases ins_mem.1 hx with hx | hx
    · exact absurd (new_parts hx).2.2.2.1 hg
    · exact h x hx hg
  · rw [doL_take kd]
    intro y hy hg
    obtain ⟨x, hx, hxy⟩ := takeL_mem hy
    rcases hxy with rfl | ⟨_, rfl⟩
    · exact h y hx hg
    · show markOut n x.out ≠ 0
      unfold markOut
      split
      · omega
      · rename_i hc
        intro e
        exact hc ⟨by omega, .inl e⟩

theorem gone_out {b : Bk} (hg : Good b) : ∀ i, i ≤ b.ds.length → ∀ x ∈ charsTo b.ds i, x.gone ≠ 0 → x.out ≠ 0
  | 0, _ => fun x hx => by simp [charsTo, allL] at hx
  | i + 1, hi => by
    obtain ⟨_, s2⟩ := chars_step hg (i := i) (by omega)
    rw [s2]
    have := hg.small
    exact gone_do (gone_out hg i (by omega)) (by omega) (by show (i : Int) + 1 < 1073741824; omega)

/-- Who has seen all sees the text. -/
theorem vw_text {b : Bk} (hg : Good b) {me : Int} : vw b.chars b.ds.length me = textL b.chars := by
  rw [← good_text hg]
  unfold vw
  congr 1
  apply List.filter_congr
  intro x hx
  rw [← chars_all] at hx
  obtain ⟨hm, _⟩ := chars_made hg b.ds.length (Nat.le_refl _)
  have h1 := hm.inn x hx
  have h2 := hm.out x hx
  have h3 := gone_out hg b.ds.length (Nat.le_refl _) x hx
  have hs := hg.small
  have hw : wrB (-1) = false := by decide
  show (inB x.inn x.by_ b.ds.length me && !outB x.out x.gone b.ds.length me) = (inB x.inn x.by_ 1073741823 (-1) && !outB x.out x.gone 1073741823 (-1))
  have e1 : inB x.inn x.by_ b.ds.length me = true := by rw [inB, decide_eq_true_eq]; exact .inl h1.2
  have e2 : inB x.inn x.by_ 1073741823 (-1) = true := by rw [inB, decide_eq_true_eq]; exact .inl (by omega)
  have e3 : outB x.out x.gone b.ds.length me = decide (x.out ≠ 0) := by
    unfold outB
    by_cases ho : x.out = 0
    · have : x.gone = 0 := by
        by_cases hz : x.gone = 0
        · exact hz
        · exact absurd ho (h3 hz)
      simp [ho, this, tookB, bitB]
    · have : x.out ≠ 0 ∧ x.out ≤ b.ds.length := ⟨ho, h2.2.1⟩
      simp [ho, this]
  have e4 : outB x.out x.gone 1073741823 (-1) = decide (x.out ≠ 0) := by
    unfold outB
    rw [tookB, hw]
    by_cases ho : x.out = 0
    · simp [ho]
    · have : x.out ≠ 0 ∧ x.out ≤ 1073741823 := ⟨ho, by omega⟩
      simp [ho, this]
  rw [e1, e2, e3, e4]

/-- ALL COME TO THE SAME TEXT: who has sent all, and heard all, has nothing open, and sees the text of the log. -/
theorem WI.settled {b : Bk} {c : Int} {w : Wr} (h : WI b c w) (hg : Good b) (hs : w.seen = b.ds.length) (ha : w.sent = w.opens.length) : w.opens = [] ∧ vw w.list w.seen w.me = textL b.chars := by
  have ht := h.told
  rw [hs, List.drop_length, List.filter_nil, ha, List.take_length] at ht
  refine ⟨ht.symm, ?_⟩
  rw [Wr.list, ← ht, onTop, h.base, hs, chars_all, vw_of _ (by have := h.cs; rw [hs] at this; exact this), vw_text hg]

end Go.Proofs.Ytnabhdfodckpdac

/-
  Plain mathematics of a town: what its writers keep of what their open deeds took away, step by step. No walk.
-/
namespace Go.Proofs.Ytnabhdfodckpdac

/-- What always holds of a town whose writers keep what they took away. -/
structure TR (t : Twn) (tk : Int → List (List Ch)) : Prop where
  ti : TwI t
  rel : ∀ k w, t.ws k = some w → Rel w (tk k)

theorem setF_self {α : Type} (f : Int → α) (v : Int) : setF f v (f v) = f := by
  funext k
  by_cases e : k = v
  · subst e; exact setF_same _ _ _
  · exact setF_other _ _ e

section
variable {t t' : Twn} {tk : Int → List (List Ch)} {v : Int} {w w' : Wr}

theorem TR.set (h : TR t tk) (hti : TwI t') (hws : t'.ws = setF t.ws v (some w')) {x : List (List Ch)} (hr : Rel w' x) : TR t' (setF tk v x) := by
  refine ⟨hti, fun k y hk => ?_⟩
  rw [hws] at hk
  by_cases e : k = v
  · subst e
    rw [setF_same] at hk ⊢
    obtain rfl := Option.some.inj hk
    exact hr
  · rw [setF_other _ _ e] at hk ⊢
    exact h.rel k y hk

theorem TR.same (h : TR t tk) (hti : TwI t') (hws : ∀ k w, t'.ws k = some w → t.ws k = some w) : TR t' tk := ⟨hti, fun k w hk => h.rel k w (hws k w hk)⟩

theorem tr_start : TR ⟨Bk.empty, fun _ => none⟩ (fun _ => []) := ⟨twn_start, fun _ _ e => (by cases e)⟩

theorem tr_join (h : TR t tk) (hc : joinC t.b v = 0) : TR ⟨joinB t.b v, setF t.ws v (some (newW t.b v))⟩ (setF tk v []) := by
  have h1 := ti_join h.ti v
  unfold joinT at h1
  simp only [hc, if_true] at h1
  exact h.set h1 rfl (Rel.comes_in h.ti.good v)

theorem tr_own (h : TR t tk) (hw : t.ws v = some w) (s : Tst) (hc : doC w.list (ownD w s) openN = 0) : TR ⟨t.b, setF t.ws v (some (doesW w (ownD w s)))⟩ (setF tk v (tk v ++ [tookL w.list (ownD w s)])) := by
  have h1 := ti_own h.ti hw s
  unfold ownT at h1
  simp only [hc, if_true] at h1
  obtain ⟨o1, o2, _⟩ := own_parts w s
  exact h.set h1 rfl ((h.rel v w hw).does o1 o2 hc)

theorem tr_send (h : TR t tk) (hw : t.ws v = some w) {d : Dd} (hd : w.opens[w.sent]? = some d) (hc : comesC t.b d = 0) : TR ⟨comesB t.b d, setF t.ws v (some (sentW w))⟩ tk := by
  have h1 := ti_send h.ti hw
  unfold sendT at h1
  simp only [hd, hc, if_true] at h1
  have h2 := h.set h1 rfl ((h.rel v w hw).sends (w.sent + 1))
  rw [setF_self] at h2
  exact h2

theorem tr_drop (h : TR t tk) (hw : t.ws v = some w) : TR (dropT t v) tk := by
  refine h.same (h.ti.drop (h.ti.is_here hw).1) (fun k y hk => ?_)
  have hk' : setF t.ws v none k = some y := hk
  by_cases e : k = v
  · subst e; rw [setF_same] at hk'; cases hk'
  · rw [setF_other _ _ e] at hk'; exact hk'

theorem tr_clear (h : TR t tk) (hw : t.ws v = some w) : TR ⟨t.b, setF t.ws v (some (clearW w (leastFor t.b w.seen)))⟩ tk := by
  obtain ⟨hm, c, hi⟩ := h.ti.wi _ w hw
  obtain ⟨l1, l2⟩ := least_for t.b w.seen
  obtain ⟨c', hc', _⟩ := hi.clears h.ti.good l1 l2
  have h1 : TwI ⟨t.b, setF t.ws v (some (clearW w (leastFor t.b w.seen)))⟩ := h.ti.set h.ti.good (h.ti.is_here hw).2 hm ⟨c', hc'⟩ (fun _ _ _ _ _ x => x) (fun _ _ x => x)
  have h2 := h.set h1 rfl ((h.rel v w hw).clears hi h.ti.good (hi.opens_least l1 l2))
  rw [setF_self] at h2
  exact h2

/-- What it keeps behind hearing. -/
def heardK (w : Wr) (d : Dd) (ts : List (List Ch)) : List (List Ch) := if d.by_ ≠ w.me then ts else ts.tail.map fun u => u.map (numF d.no ((w.seen : Int) + 1))

theorem tr_hear (h : TR t tk) (hw : t.ws v = some w) {d : Dd} (hd : t.b.ds[w.seen]? = some d) (hc : hearC w d = 0) : TR ⟨saysB t.b v (hearW w d).least, setF t.ws v (some (hearW w d))⟩ (setF tk v (heardK w d (tk v))) := by
  have h1 := (ti_hear h.ti hw).1
  unfold hearT at h1
  simp only [hd, hc, if_true] at h1
  obtain ⟨hm, c, hi⟩ := h.ti.wi _ w hw
  have hr := h.rel v w hw
  obtain ⟨hl, rfl⟩ := List.getElem?_eq_some_iff.1 hd
  refine h.set h1 rfl ?_
  unfold hearW heardK
  by_cases hb : t.b.ds[w.seen].by_ = w.me
  · rw [if_neg (fun x => x hb), if_neg (fun x => x hb)]
    obtain ⟨es, hes, _⟩ := hi.own_first hl hb
    have htk := hr.tk
    rw [hes] at htk
    cases htv : tk v with
    | nil => rw [htv] at htk; exact htk.elim
    | cons u us =>
      rw [htv] at hr
      have := (hr.hears_own hi h.ti.good hl hes).1
      rw [hes]
      exact this
  · rw [if_pos hb, if_pos hb]
    exact hr.hears_other hi h.ti.good hl hb

end

end Go.Proofs.Ytnabhdfodckpdac
