/-
  Plain mathematics of what the document's own answer reckons: bytes of which it says what the program says. No walk.
-/
import Derived.Test.YtfpemdbiplfkgacGreatLPlain
import Derived.Test.YtfpemdbiplfkgacGreatWRoom
namespace Go.Proofs.YtfpemdbiplfkgacGreat
open Go.RowKit

/-- Bytes that lie in a log: the two readings of Out say the same of them. -/
def Tame (l : List Ch) : Prop := ∀ x ∈ l, 0 ≤ x.out ∧ 0 ≤ x.gone ∧ x.gone ≤ 15

theorem tame_nil : Tame [] := fun x hx => by simp at hx

theorem tame_get {l : List Ch} (h : Tame l) (k : Nat) (hk : k < l.length) : 0 ≤ l[k].out ∧ l[k].inn = l[k].inn ∧ 0 ≤ l[k].gone ∧ l[k].gone ≤ 15 := ⟨(h _ (List.getElem_mem hk)).1, rfl, (h _ (List.getElem_mem hk)).2⟩

theorem made_tame {last : Int → Int} {i : Nat} {l : List Ch} (h : Made last i l) (_hi : i ≤ 1000) : Tame l := by
  intro x hx
  have h1 := h.out x hx
  have h3 := h.gone x hx
  exact ⟨h1.1, h3.1, h3.2⟩

theorem good_made {b : Bk} (h : Good b) : Made (lastAt b.ds) b.ds.length b.chars := by
  have := (made_all b.ds [] [] h.ok (by have := h.small; simp; omega) made_nil rfl (Nat.zero_le _) h.all0).1
  exact this

theorem good_tame {b : Bk} (h : Good b) : Tame b.chars := made_tame (good_made h) (by have := h.small; omega)

theorem fits_tame {l : List Ch} (h : Tame l) : FitsL l := fun x hx => by
  have := h x hx
  omega

theorem tame_new (d : Dd) (n : Int) : Tame (newL d n) := by
  intro x hx
  obtain ⟨j, b, rfl, _⟩ := newFrom_mem hx
  show 0 ≤ (0 : Int) ∧ 0 ≤ (0 : Int) ∧ (0 : Int) ≤ 15
  omega

theorem markOut_pos {number out : Int} (h : 0 ≤ out) (hn : 1 ≤ number) : 0 ≤ markOut number out := by
  unfold markOut
  split <;> omega

theorem tame_any {l : List Ch} {d : Dd} {number : Int} (h : Tame l) (hc : checkC d = 0) (h1 : 1 ≤ number) : Tame (doL l d number) := by
  obtain ⟨_, hw, _⟩ := check_parts hc
  by_cases hk : d.kind = 1
  · rw [doL, if_pos hk]
    intro x hx
    rcases List.mem_append.1 hx with hx | hx
    · exact h x (List.mem_of_mem_take hx)
    · rcases List.mem_append.1 hx with hx | hx
      · exact tame_new d _ x hx
      · exact h x (List.mem_of_mem_drop hx)
  · rw [doL, if_neg hk]
    intro y hy
    obtain ⟨x, hx, hyx⟩ := takeL_mem hy
    obtain ⟨g1, g3, g4⟩ := h x hx
    rcases hyx with rfl | ⟨hs, rfl⟩
    · exact ⟨g1, g3, g4⟩
    · have h3 := gone_add hw (sees_took hs) g3 g4
      exact ⟨markOut_pos g1 h1, h3.1, h3.2.1⟩

theorem tame_do {l : List Ch} {d : Dd} {number : Int} (h : Tame l) (hc : checkC d = 0) (h1 : 1 ≤ number) (_h2 : number ≤ 1000) : Tame (doL l d number) := tame_any h hc h1

/-- The document's 'it knows that it was taken away'. -/
theorem out_tame {o g seen by_ : Int} (h : 0 ≤ o) : (tookB g by_ || (decide (0 < o) && decide (o ≤ seen))) = outB o g seen by_ := by
  unfold outB
  rw [Bool.or_comm]
  congr 1
  rw [Bool.eq_iff_iff]
  simp
  omega

theorem in_comm {i b seen by_ : Int} : (decide (b = by_) || decide (i ≤ seen)) = inB i b seen by_ := by
  unfold inB
  rw [Bool.eq_iff_iff]
  simp
  exact Or.comm

theorem takeL_snoc {d : Dd} {number : Int} (x : Ch) : ∀ (l : List Ch) (k : Int), takeL d number k (l ++ [x]) = takeL d number k l ++ [if seesC d.seen d.by_ x = true then (if d.at_ ≤ k + cnt l d.seen d.by_ ∧ k + cnt l d.seen d.by_ < d.at_ + d.many then mark d.by_ number x else x) else x]
  | [], k => by
    have e : cnt [] d.seen d.by_ = 0 := rfl
    rw [List.nil_append, takeL, takeL, takeL, takeL, e, Int.add_zero]
    split <;> rfl
  | y :: r, k => by
    rw [List.cons_append, takeL, takeL]
    by_cases hy : seesC d.seen d.by_ y = true
    · have e : cnt (y :: r) d.seen d.by_ = cnt r d.seen d.by_ + 1 := by simp [cnt, hy]
      rw [if_pos hy, if_pos hy, takeL_snoc x r (k + 1), List.cons_append, e, show k + 1 + cnt r d.seen d.by_ = k + (cnt r d.seen d.by_ + 1) by omega]
    · have e : cnt (y :: r) d.seen d.by_ = cnt r d.seen d.by_ := by simp [cnt, hy]
      rw [if_neg hy, if_neg hy, takeL_snoc x r k, List.cons_append, e]

/-- Behind: what has been passed, and what is still to be looked for. -/
def BTo (l : List Ch) (seen by_ : Int) (n i k : Nat) : Prop := k < n ∧ behindL seen by_ n l = (behindL seen by_ (n - k) (l.drop i)).map (· + i)

theorem bto_start (l : List Ch) (seen by_ : Int) {n : Nat} (h : 0 < n) : BTo l seen by_ n 0 0 := by
  refine ⟨h, ?_⟩
  simp

theorem bto_miss {l : List Ch} {seen by_ : Int} {n i k : Nat} (h : BTo l seen by_ n i k) (hi : i < l.length) (hs : seesC seen by_ l[i] = false) : BTo l seen by_ n (i + 1) k := by
  refine ⟨h.1, ?_⟩
  rw [h.2, List.drop_eq_getElem_cons hi]
  obtain ⟨m, hm⟩ : ∃ m, n - k = m + 1 := ⟨n - k - 1, by have := h.1; omega⟩
  rw [hm, behindL, if_neg (by simp [hs]), Option.map_map]
  congr 1
  funext x
  show x + 1 + i = x + (i + 1)
  omega

theorem bto_met {l : List Ch} {seen by_ : Int} {n i k : Nat} (h : BTo l seen by_ n i k) (hi : i < l.length) (hs : seesC seen by_ l[i] = true) (hk : k + 1 ≠ n) : BTo l seen by_ n (i + 1) (k + 1) := by
  have h1 := h.1
  refine ⟨by omega, ?_⟩
  rw [h.2, List.drop_eq_getElem_cons hi]
  obtain ⟨m, hm⟩ : ∃ m, n - k = m + 1 := ⟨n - k - 1, by omega⟩
  rw [hm, behindL, if_pos hs, Option.map_map, show n - (k + 1) = m by omega]
  congr 1
  funext x
  show x + 1 + i = x + (i + 1)
  omega

theorem bto_hit {l : List Ch} {seen by_ : Int} {n i k : Nat} (h : BTo l seen by_ n i k) (hi : i < l.length) (hs : seesC seen by_ l[i] = true) (hk : k + 1 = n) : behindL seen by_ n l = some (i + 1) := by
  have h1 := h.1
  rw [h.2, List.drop_eq_getElem_cons hi, show n - k = 0 + 1 by omega, behindL, if_pos hs]
  have e : behindL seen by_ 0 (l.drop (i + 1)) = some 0 := by cases l.drop (i + 1) <;> rfl
  rw [e]
  show some (0 + 1 + i) = some (i + 1)
  congr 1
  omega

theorem bto_end {l : List Ch} {seen by_ : Int} {n k : Nat} (h : BTo l seen by_ n l.length k) : behindL seen by_ n l = none := by
  have h1 := h.1
  rw [h.2, List.drop_eq_nil_of_le (Nat.le_refl _), show n - k = (n - k - 1) + 1 by omega, behindL]
  rfl

/-- What BehindOf answers. -/
def behindI (l : List Ch) (seen by_ : Int) (n : Nat) : Int := match behindL seen by_ n l with
  | some p => p
  | none => -1

theorem behindI_some {l : List Ch} {seen by_ : Int} {n p : Nat} (h : behindL seen by_ n l = some p) : behindI l seen by_ n = p := by rw [behindI, h]
theorem behindI_none {l : List Ch} {seen by_ : Int} {n : Nat} (h : behindL seen by_ n l = none) : behindI l seen by_ n = -1 := by rw [behindI, h]

/-- The text of a log, as the document reckons it. -/
theorem text_tame {l : List Ch} (h : ∀ x ∈ l, 0 ≤ x.out ∧ x.out ≤ 1000 ∧ x.inn ≤ 1000 ∧ 0 ≤ x.by_) : vw l 1073741823 (-1) = textL l := by
  unfold vw textL
  congr 1
  apply List.filter_congr
  intro x hx
  obtain ⟨h1, h2, h3, h4⟩ := h x hx
  have hw : wrB (-1) = false := by decide
  show (inB x.inn x.by_ 1073741823 (-1) && !outB x.out x.gone 1073741823 (-1)) = textB x
  rw [outB, tookB, hw, textB, goneB, inB]
  rw [Bool.eq_iff_iff]
  simp [openN]
  omega

theorem good_text {b : Bk} (h : Good b) : vw b.chars 1073741823 (-1) = textL b.chars := by
  have hm := good_made h
  have hs := h.small
  refine text_tame (fun x hx => ?_)
  have h1 := hm.out x hx
  have h2 := hm.inn x hx
  have h3 := hm.wr x hx
  have h4 : 0 ≤ x.by_ ∧ x.by_ ≤ 3 := by simpa [wrB] using h3
  omega

theorem mayR {l : List Ch} {d : Dd} (h : checkC d = 0) : mayC l d = if cnt l d.seen d.by_ < d.at_ ∨ cnt l d.seen d.by_ < d.at_ + d.many then 1 else if 200 < l.length + d.text.size then 9 else 0 := by
  have hm := (check_parts h).2.2.2.2.2.2.2.2.1
  rw [mayC, if_neg (fun e => e h)]
  by_cases h1 : cnt l d.seen d.by_ < d.at_ + d.many
  · rw [if_pos h1, if_pos (.inr h1)]
  · have h2 : ¬ (cnt l d.seen d.by_ < d.at_ ∨ cnt l d.seen d.by_ < d.at_ + d.many) := by omega
    rw [if_neg h1, if_neg h2]

end Go.Proofs.YtfpemdbiplfkgacGreat

/-
  Plain mathematics of a town: a log, and writers at their desks; what steps do, and what always holds. No walk.
-/
namespace Go.Proofs.YtfpemdbiplfkgacGreat

structure Tst where
  kind : Int
  w : Int
  at_ : Int
  many : Int
  text : ByteArray
structure Twn where
  b : Bk
  ws : Int → Option Wr

def leastFor (b : Bk) (seen : Nat) : Int := (b.ds.drop seen).foldl (fun n d => if d.seen < n then d.seen else n) (leastL b)

/-- A step's deed: its writer's next one. -/
def ownD (w : Wr) (s : Tst) : Dd := if s.kind = 2 then ⟨1, w.me, w.next, w.seen, s.at_, 0, s.text⟩ else ⟨2, w.me, w.next, w.seen, s.at_, s.many, ByteArray.empty⟩
theorem dd_eq (a b : Dd) : (a.kind = b.kind ∧ a.by_ = b.by_ ∧ a.no = b.no ∧ a.seen = b.seen ∧ a.at_ = b.at_ ∧ a.many = b.many ∧ a.text.data = b.text.data) ↔ a = b := by
  obtain ⟨a1, a2, a3, a4, a5, a6, ⟨a7⟩⟩ := a
  obtain ⟨b1, b2, b3, b4, b5, b6, ⟨b7⟩⟩ := b
  simp
instance : DecidableEq Dd := fun a b => decidable_of_iff _ (dd_eq a b)
def doesW (w : Wr) (e : Dd) : Wr := ⟨w.me, w.seen, w.next + 1, w.base, w.opens ++ [e], w.sent⟩
def sentW (w : Wr) : Wr := ⟨w.me, w.seen, w.next, w.base, w.opens, w.sent + 1⟩
def hearC (w : Wr) (d : Dd) : Int := if d.by_ ≠ w.me then doC w.list d ((w.seen : Int) + 1) else if w.opens.head? = some d then 0 else 12
def hearW (w : Wr) (d : Dd) : Wr :=
  if d.by_ ≠ w.me then ⟨w.me, w.seen + 1, w.next, doL w.base d ((w.seen : Int) + 1), w.opens, w.sent⟩ else ⟨w.me, w.seen + 1, w.next, doL w.base d ((w.seen : Int) + 1), w.opens.tail, w.sent - 1⟩
def clearW (w : Wr) (least : Int) : Wr := ⟨w.me, w.seen, w.next, ofL least w.base, w.opens, w.sent⟩
def newW (b : Bk) (v : Int) : Wr := ⟨v, b.ds.length, b.last v + 1, b.chars, [], 0⟩
def dropT (t : Twn) (v : Int) : Twn := ⟨leaveB t.b v, setF t.ws v none⟩

def sendT (t : Twn) (v : Int) (w : Wr) : Int × Twn :=
  match w.opens[w.sent]? with
  | none => (5, t)
  | some d => (comesC t.b d, if comesC t.b d = 0 then ⟨comesB t.b d, setF t.ws v (some (sentW w))⟩ else dropT t v)
def hearT (t : Twn) (v : Int) (w : Wr) : Int × Twn :=
  match t.b.ds[w.seen]? with
  | none => (5, t)
  | some d => if hearC w d = 0 then (saysC t.b v (hearW w d).least, ⟨saysB t.b v (hearW w d).least, setF t.ws v (some (hearW w d))⟩) else (hearC w d, dropT t v)
def ownT (t : Twn) (v : Int) (w : Wr) (s : Tst) : Int × Twn :=
  (doC w.list (ownD w s) openN, if doC w.list (ownD w s) openN = 0 then ⟨t.b, setF t.ws v (some (doesW w (ownD w s)))⟩ else t)
def joinT (t : Twn) (v : Int) : Int × Twn :=
  (joinC t.b v, if joinC t.b v = 0 then ⟨joinB t.b v, setF t.ws v (some (newW t.b v))⟩ else t)

def tDo (t : Twn) (s : Tst) : Int × Twn :=
  if s.kind < 1 ∨ 7 < s.kind then (2, t) else if s.kind = 1 then joinT t s.w else
    match t.ws s.w with
    | none => (5, t)
    | some w =>
      if s.kind = 2 ∨ s.kind = 3 then ownT t s.w w s else if s.kind = 4 then sendT t s.w w else if s.kind = 5 then hearT t s.w w
      else if s.kind = 6 then (0, ⟨t.b, setF t.ws s.w (some (clearW w (leastFor t.b w.seen)))⟩) else (0, dropT t s.w)

/-- What always holds. -/
structure TwI (t : Twn) : Prop where
  good : Good t.b
  wi : ∀ k w, t.ws k = some w → w.me = k ∧ ∃ c, WI t.b c w
  here : ∀ k, t.b.here k = true → ∃ w, t.ws k = some w
  none : ∀ k, wrB k = false → t.ws k = none

theorem twn_start : TwI ⟨Bk.empty, fun _ => none⟩ := by
  refine ⟨good_empty, fun k w h => ?_, fun k h => ?_, fun _ _ => rfl⟩
  · cases h
  · cases h

theorem TwI.set {t : Twn} (h : TwI t) {b' : Bk} {v : Int} {w' : Wr} (hg : Good b') (hv : wrB v = true) (hm : w'.me = v) (hw : ∃ c, WI b' c w') (ho : ∀ k w c, k ≠ v → t.ws k = some w → WI t.b c w → WI b' c w) (hh : ∀ k, k ≠ v → b'.here k = true → t.b.here k = true) :
    TwI ⟨b', setF t.ws v (some w')⟩ := by
  refine ⟨hg, fun k w hk => ?_, fun k hk => ?_, fun k hk => ?_⟩
  · have hk' : setF t.ws v (some w') k = some w := hk
    by_cases e : k = v
    · subst e
      rw [setF_same, Option.some.injEq] at hk'
      subst hk'
      exact ⟨hm, hw⟩
    · rw [setF_other _ _ e] at hk'
      obtain ⟨h1, c, h2⟩ := h.wi k w hk'
      exact ⟨h1, c, ho k w c e hk' h2⟩
  · show ∃ w, setF t.ws v (some w') k = some w
    by_cases e : k = v
    · subst e
      exact ⟨w', setF_same _ _ _⟩
    · rw [setF_other _ _ e]
      exact h.here k (hh k e hk)
  · show setF t.ws v (some w') k = Option.none
    have e : k ≠ v := fun e => by subst e; rw [hv] at hk; cases hk
    rw [setF_other _ _ e]
    exact h.none k hk

theorem TwI.drop {t : Twn} (h : TwI t) {v : Int} (hv : t.b.isHere v = true) : TwI (dropT t v) := by
  refine ⟨good_leave v h.good, fun k w hk => ?_, fun k hk => ?_, fun k hk => ?_⟩
  · have hk' : setF t.ws v Option.none k = some w := hk
    by_cases e : k = v
    · subst e
      rw [setF_same] at hk'; cases hk'
    · rw [setF_other _ _ e] at hk'
      obtain ⟨h1, c, h2⟩ := h.wi k w hk'
      exact ⟨h1, c, h2.other_leaves (by rw [h1]; exact Ne.symm e)⟩
  · have hl : leaveC t.b v = 0 := by rw [leaveC, if_pos hv]
    have hk' : (leaveB t.b v).here k = true := hk
    rw [leaveB, if_pos hl] at hk'
    have hk'' : setF t.b.here v false k = true := hk'
    show ∃ w, setF t.ws v Option.none k = some w
    by_cases e : k = v
    · subst e
      rw [setF_same] at hk''; cases hk''
    · rw [setF_other _ _ e] at hk'' ⊢
      exact h.here k hk''
  · show setF t.ws v Option.none k = Option.none
    by_cases e : k = v
    · subst e; exact setF_same _ _ _
    · rw [setF_other _ _ e]; exact h.none k hk

theorem TwI.is_here {t : Twn} (h : TwI t) {v : Int} {w : Wr} (hw : t.ws v = some w) : t.b.isHere v = true ∧ wrB v = true := by
  obtain ⟨rfl, c, hi⟩ := h.wi v w hw
  exact ⟨by rw [Bk.isHere, hi.wr, hi.here]; rfl, hi.wr⟩

theorem least_for (b : Bk) (seen : Nat) : leastFor b seen ≤ leastL b ∧ ∀ d ∈ b.ds.drop seen, leastFor b seen ≤ d.seen := by
  have : ∀ (l : List Dd) (n : Int), l.foldl (fun n d => if d.seen < n then d.seen else n) n ≤ n ∧ ∀ d ∈ l, l.foldl (fun n d => if d.seen < n then d.seen else n) n ≤ d.seen := by
    intro l
    induction l with
    | nil => exact fun n => ⟨Int.le_refl _, fun d hd => absurd hd (by simp)⟩
    | cons x l ih =>
      intro n
      obtain ⟨i1, i2⟩ := ih (if x.seen < n then x.seen else n)
      have hle : (if x.seen < n then x.seen else n) ≤ n ∧ (if x.seen < n then x.seen else n) ≤ x.seen := by split <;> omega
      rw [List.foldl_cons]
      refine ⟨by omega, fun d hd => ?_⟩
      rcases List.mem_cons.1 hd with rfl | hd
      · omega
      · exact i2 d hd
  exact this _ _

theorem ti_join {t : Twn} (h : TwI t) (v : Int) : TwI (joinT t v).2 := by
  unfold joinT
  by_cases hc : joinC t.b v = 0
  · show TwI (if joinC t.b v = 0 then _ else _)
    rw [if_pos hc]
    have hv : wrB v = true := by
      unfold joinC at hc
      cases hh : wrB v
      · rw [if_pos hh] at hc; cases hc
      · rfl
    refine h.set (good_join v h.good) hv rfl ⟨0, WI.comes_in h.good hc⟩ (fun k w c hk hw hi => ?_) (fun k hk hh => ?_)
    · obtain ⟨h1, _⟩ := h.wi k w hw
      exact hi.other_joins (by rw [h1]; exact Ne.symm hk)
    · rw [joinB, if_pos hc] at hh
      have hh' : setF t.b.here v true k = true := hh
      rw [setF_other _ _ hk] at hh'
      exact hh'
  · show TwI (if joinC t.b v = 0 then _ else _)
    rw [if_neg hc]; exact h

theorem own_parts (w : Wr) (s : Tst) : (ownD w s).by_ = w.me ∧ (ownD w s).no = w.next ∧ (ownD w s).seen = w.seen := by
  unfold ownD
  split <;> exact ⟨rfl, rfl, rfl⟩

theorem ti_own {t : Twn} (h : TwI t) {v : Int} {w : Wr} (hw : t.ws v = some w) (s : Tst) : TwI (ownT t v w s).2 := by
  obtain ⟨hm, c, hi⟩ := h.wi v w hw
  obtain ⟨o1, o2, o3⟩ := own_parts w s
  unfold ownT
  show TwI (if doC w.list (ownD w s) openN = 0 then _ else _)
  by_cases hc : doC w.list (ownD w s) openN = 0
  · rw [if_pos hc]
    exact h.set h.good (h.is_here hw).2 hm ⟨c, hi.does h.good o1 o2 o3 hc⟩ (fun _ _ _ _ _ x => x) (fun _ _ x => x)
  · rw [if_neg hc]; exact h

/-- What it sends is taken, as long as there is room. -/
theorem ti_send {t : Twn} (h : TwI t) {v : Int} {w : Wr} (hw : t.ws v = some w) : TwI (sendT t v w).2 := by
  obtain ⟨hm, c, hi⟩ := h.wi v w hw
  unfold sendT
  cases hd : w.opens[w.sent]? with
  | none => exact h
  | some d =>
    show TwI (if comesC t.b d = 0 then _ else _)
    by_cases hc : comesC t.b d = 0
    · rw [if_pos hc]
      have hb := (hi.own d (List.mem_of_getElem? hd)).1
      refine h.set (good_comes d h.good) (h.is_here hw).2 hm ⟨c, hi.sent_ok hd hc⟩ (fun k w' c' hk hw' hi' => ?_) (fun k _ hh => ?_)
      · obtain ⟨h1, _⟩ := h.wi k w' hw'
        exact hi'.other_comes (by rw [hb, hm, h1]; exact Ne.symm hk) hc
      · rw [comes_eq hc] at hh
        exact hh
    · rw [if_neg hc]
      exact h.drop (h.is_here hw).1

theorem hear_ok {b : Bk} {c : Int} {w : Wr} (hi : WI b c w) (hg : Good b) {d : Dd} (hd : b.ds[w.seen]? = some d) : (hearC w d = 0 ∨ hearC w d = 9) ∧ (hearC w d = 0 → WI b c (hearW w d)) := by
  obtain ⟨hl, rfl⟩ := List.getElem?_eq_some_iff.1 hd
  unfold hearC hearW
  by_cases hb : b.ds[w.seen].by_ = w.me
  · have hnb : ¬ b.ds[w.seen].by_ ≠ w.me := fun x => x hb
    rw [if_neg hnb, if_neg hnb]
    obtain ⟨es, he, h1⟩ := hi.own_first hl hb
    have hh : w.opens.head? = some b.ds[w.seen] := by rw [he]; rfl
    have ht : w.opens.tail = es := by rw [he]; rfl
    rw [if_pos hh, ht]
    exact ⟨.inl rfl, fun _ => (hi.hears_own hg hl he h1 hb).1⟩
  · rw [if_pos hb, if_pos hb]
    obtain ⟨h1, h2⟩ := hi.hears_other hg hl hb
    exact ⟨h1, fun hc => (h2 hc).2⟩

theorem hearW_me (w : Wr) (d : Dd) : (hearW w d).me = w.me ∧ (hearW w d).seen = w.seen + 1 := by
  unfold hearW
  split <;> exact ⟨rfl, rfl⟩

theorem ti_hear {t : Twn} (h : TwI t) {v : Int} {w : Wr} (hw : t.ws v = some w) : TwI (hearT t v w).2 ∧ (∀ d, t.b.ds[w.seen]? = some d → hearC w d = 0 → (hearT t v w).1 = 0) := by
  obtain ⟨hm, c, hi⟩ := h.wi v w hw
  unfold hearT
  cases hd : t.b.ds[w.seen]? with
  | none => exact ⟨h, fun d hd => by cases hd⟩
  | some d =>
    obtain ⟨_, h2⟩ := hear_ok hi h.good hd
    by_cases hc : hearC w d = 0
    · have hs := (h2 hc).says
      rw [(hearW_me w d).1, hm] at hs
      show TwI (if hearC w d = 0 then (_, _) else (_, _)).2 ∧ _
      refine ⟨?_, fun d' hd' hc' => ?_⟩
      · rw [if_pos hc]
        refine h.set (good_says _ _ h.good) (h.is_here hw).2 ((hearW_me w d).1.trans hm) ⟨c, hs.2⟩ (fun k w' c' hk hw' hi' => ?_) (fun k _ hh => ?_)
        · obtain ⟨h1, _⟩ := h.wi k w' hw'
          exact hi'.other_says (by rw [h1]; exact Ne.symm hk)
        · rw [saysB, if_pos hs.1] at hh
          exact hh
      · show (if hearC w d = 0 then (_, _) else (_, _)).1 = (0 : Int)
        rw [if_pos hc]
        exact hs.1
    · show TwI (if hearC w d = 0 then (_, _) else (_, _)).2 ∧ _
      refine ⟨?_, fun d' hd' hc' => ?_⟩
      · rw [if_neg hc]
        exact h.drop (h.is_here hw).1
      · obtain rfl := Option.some.inj hd'
        exact absurd hc' hc

theorem ti_do {t : Twn} (h : TwI t) (s : Tst) : TwI (tDo t s).2 := by
  unfold tDo
  split
  · exact h
  · split
    · exact ti_join h s.w
    · cases hw : t.ws s.w with
      | none => exact h
      | some w =>
        show TwI (if s.kind = 2 ∨ s.kind = 3 then ownT t s.w w s else if s.kind = 4 then sendT t s.w w else if s.kind = 5 then hearT t s.w w
          else if s.kind = 6 then (0, ⟨t.b, setF t.ws s.w (some (clearW w (leastFor t.b w.seen)))⟩) else (0, dropT t s.w)).2
        split
        · exact ti_own h hw s
        · split
          · exact ti_send h hw
          · split
            · exact (ti_hear h hw).1
            · split
              · obtain ⟨hm, c, hi⟩ := h.wi _ w hw
                obtain ⟨l1, l2⟩ := least_for t.b w.seen
                obtain ⟨c', hc', _⟩ := hi.clears h.good l1 l2
                exact h.set h.good (h.is_here hw).2 hm ⟨c', hc'⟩ (fun _ _ _ _ _ x => x) (fun _ _ x => x)
              · exact h.drop (h.is_here hw).1

/-! All come to the same text. -/

/-- What has a number took away with it. -/
theorem gone_do {l : List Ch} {d : Dd} {n : Int} (h : ∀ x ∈ l, x.gone ≠ 0 → x.out ≠ 0) (h1 : 1 ≤ n) (ho : n < openN) : ∀ x ∈ doL l d n, x.gone ≠ 0 → x.out ≠ 0 := by
  by_cases kd : d.kind = 1
  · rw [doL_put kd]
    intro x hx hg
    rcases ins_mem.1 hx with hx | hx
    · exact absurd (new_parts hx).2.2.2.1 hg
    · exact h x hx hg
  · rw [doL_take kd]
    intro y hy hg
    obtain ⟨x, hx, hxy⟩ := takeL_mem hy
    rcases hxy with rfl | ⟨_, rfl⟩
    · exact h y hx hg
    · show markOut n x.out ≠ 0
      unfold markOut
      split
      · omega
      · rename_i hc
        intro e
        exact hc ⟨by omega, .inl e⟩

theorem gone_out {b : Bk} (hg : Good b) : ∀ i, i ≤ b.ds.length → ∀ x ∈ charsTo b.ds i, x.gone ≠ 0 → x.out ≠ 0
  | 0, _ => fun x hx => by simp [charsTo, allL] at hx
  | i + 1, hi => by
    obtain ⟨_, s2⟩ := chars_step hg (i := i) (by omega)
    rw [s2]
    have := hg.small
    exact gone_do (gone_out hg i (by omega)) (by omega) (by show (i : Int) + 1 < 1073741824; omega)

/-- Who has seen all sees the text. -/
theorem vw_text {b : Bk} (hg : Good b) {me : Int} : vw b.chars b.ds.length me = textL b.chars := by
  rw [← good_text hg]
  unfold vw
  congr 1
  apply List.filter_congr
  intro x hx
  rw [← chars_all] at hx
  obtain ⟨hm, _⟩ := chars_made hg b.ds.length (Nat.le_refl _)
  have h1 := hm.inn x hx
  have h2 := hm.out x hx
  have h3 := gone_out hg b.ds.length (Nat.le_refl _) x hx
  have hs := hg.small
  have hw : wrB (-1) = false := by decide
  show (inB x.inn x.by_ b.ds.length me && !outB x.out x.gone b.ds.length me) = (inB x.inn x.by_ 1073741823 (-1) && !outB x.out x.gone 1073741823 (-1))
  have e1 : inB x.inn x.by_ b.ds.length me = true := by rw [inB, decide_eq_true_eq]; exact .inl h1.2
  have e2 : inB x.inn x.by_ 1073741823 (-1) = true := by rw [inB, decide_eq_true_eq]; exact .inl (by omega)
  have e3 : outB x.out x.gone b.ds.length me = decide (x.out ≠ 0) := by
    unfold outB
    by_cases ho : x.out = 0
    · have : x.gone = 0 := by
        by_cases hz : x.gone = 0
        · exact hz
        · exact absurd ho (h3 hz)
      simp [ho, this, tookB, bitB]
    · have : x.out ≠ 0 ∧ x.out ≤ b.ds.length := ⟨ho, h2.2.1⟩
      simp [ho, this]
  have e4 : outB x.out x.gone 1073741823 (-1) = decide (x.out ≠ 0) := by
    unfold outB
    rw [tookB, hw]
    by_cases ho : x.out = 0
    · simp [ho]
    · have : x.out ≠ 0 ∧ x.out ≤ 1073741823 := ⟨ho, by omega⟩
      simp [ho, this]
  rw [e1, e2, e3, e4]

/-- ALL COME TO THE SAME TEXT: who has sent all, and heard all, has nothing open, and sees the text of the log. -/
theorem WI.settled {b : Bk} {c : Int} {w : Wr} (h : WI b c w) (hg : Good b) (hs : w.seen = b.ds.length) (ha : w.sent = w.opens.length) : w.opens = [] ∧ vw w.list w.seen w.me = textL b.chars := by
  have ht := h.told
  rw [hs, List.drop_length, List.filter_nil, ha, List.take_length] at ht
  refine ⟨ht.symm, ?_⟩
  rw [Wr.list, ← ht, onTop, h.base, hs, chars_all, vw_of _ (by have := h.cs; rw [hs] at this; exact this), vw_text hg]

end Go.Proofs.YtfpemdbiplfkgacGreat
