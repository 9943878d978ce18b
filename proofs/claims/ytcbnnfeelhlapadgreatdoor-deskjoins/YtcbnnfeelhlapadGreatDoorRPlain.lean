/-
  Plain mathematics of writers that speak to one log: what always holds of each, whatever comes. No walk.
-/
import Derived.Test.YtcbnnfeelhlapadGreatDoorBegun
import Derived.Test.YtcbnnfeelhlapadGreatDoorLPlain
namespace Go.Proofs.YtcbnnfeelhlapadGreatDoor
def Fit (l : List Ch) (d : Dd) : Prop := checkC d = 0 ∧ d.at_ + d.many ≤ cnt l d.seen d.by_
def fitTop : List Ch → List Dd → Prop
 | _, [] => True
 | l, e :: es => Fit l e ∧ fitTop (doL l e openN) es
theorem fit_of {l : List Ch} {d : Dd} {n : Int} (h : doC l d n = 0) : Fit l d := ⟨(doC_zero h).1, (doC_zero h).2.1⟩
theorem fit_code {l : List Ch} {d : Dd} {n : Int} (h : Fit l d) (h1 : 1 ≤ n) : doC l d n = if 200 < l.length + d.text.size then 9 else 0 := by
 have hm : mayC l d = if 200 < l.length + d.text.size then 9 else 0 := by
  rw [mayC, if_neg (fun x => x h.1), if_neg (by have := h.2; omega)]
 rw [doC, hm]
 by_cases c : 200 < l.length + d.text.size
 ·rw [if_pos c, if_pos (by decide)]
 ·rw [if_neg c, if_neg (by simp), if_neg (by omega)]
theorem fit_at {l : List Ch} {d : Dd} (h : Fit l d) : d.at_ ≤ cnt l d.seen d.by_ := by
 have := h.2
 have := (check_parts h.1).2.2.2.2.2.2.2.2.1
 omega
theorem fit_len {l : List Ch} {d : Dd} {n : Int} (h : Fit l d) : (doL l d n).length = l.length + d.text.size := doL_len (check_parts h.1).2.2.2.2.2.2.2.2.2.2.2
theorem fit_wr {l : List Ch} {d : Dd} (h : Fit l d) : wrB d.by_ = true := (check_parts h.1).2.1
theorem fitTop_snoc : ∀ (es : List Dd) (l : List Ch) (e : Dd), fitTop l es → Fit (onTop l es) e → fitTop l (es ++ [e])
 | [], _, _, _, h => ⟨h, trivial⟩
 | _ :: es, _, e, h, h' => ⟨h.1, fitTop_snoc es _ e h.2 h'⟩
theorem fitTop_ok : ∀ (es : List Dd) (l : List Ch), fitTop l es → (onTop l es).length ≤ 200 → okTop l es ∧ l.length ≤ 200
 | [], _, _, h => ⟨trivial, h⟩
 | e :: es, l, h, hl => by
  obtain ⟨a1, a2⟩ := fitTop_ok es (doL l e openN) h.2 hl
  rw [fit_len h.1] at a2
  exact ⟨⟨doC_of h.1.1 h.1.2 a2 (by decide), a1⟩, by omega⟩
theorem top_other {me n : Int} {d : Dd} (hne : d.by_ ≠ me) (sd : d.seen < n) (ho : n < openN) : ∀ (es : List Dd) (l : List Ch), Mine me l → (∀ e ∈ es, e.by_ = me ∧ e.seen < n) → fitTop l es → Fit l d →
 Fit (onTop l es) d ∧ fitTop (doL l d n) es ∧ doL (onTop l es) d n = onTop (doL l d n) es
 | [], l, _, _, _, h => ⟨h, trivial, rfl⟩
 | e :: es, l, hm, he, hk, h => by
  obtain ⟨rfl, se⟩ := he e (by simp)
  have we := fit_wr hk.1
  have wd := fit_wr h
  have ed : cnt (doL l e openN) d.seen d.by_ = cnt l d.seen d.by_ := cnt_do we hne (by omega)
  have ee : cnt (doL l d n) e.seen e.by_ = cnt l e.seen e.by_ := cnt_do wd (Ne.symm hne) se
  obtain ⟨a1, a2, a3⟩ := top_other hne sd ho es (doL l e openN) (mine_do hm (fun _ => rfl)) (fun x hx => he x (by simp [hx])) hk.2 ⟨h.1, by rw [ed]; exact h.2⟩
  have hcomm := do_comm wd we hne hm sd se ho (fit_at h) (fit_at hk.1)
  refine ⟨a1, ⟨⟨hk.1.1, by rw [ee]; exact hk.1.2⟩, ?_⟩, ?_⟩
  ·rw [← hcomm]; exact a2
  ·rw [onTop, a3, hcomm]; rfl
theorem AckL.fits {n me : Int} (ho : n < openN) : ∀ (es : List Dd) {a b : List Ch}, (∀ e ∈ es, e.by_ = me ∧ e.seen < n) → Mine me a → AckL n me a b → fitTop a es → fitTop b es ∧ AckL n me (onTop a es) (onTop b es)
 | [], _, _, _, _, h, _ => ⟨trivial, h⟩
 | e :: es, a, b, he, hm, h, hk => by
  obtain ⟨rfl, se⟩ := he e (by simp)
  obtain ⟨a1, a2⟩ := AckL.fits ho es (fun x hx => he x (by simp [hx])) (mine_do hm (fun _ => rfl)) (h.do_ se ho hm) hk.2
  exact ⟨⟨⟨hk.1.1, by rw [h.cnt se]; exact hk.1.2⟩, a1⟩, a2⟩
theorem top_own {me n : Int} {d : Dd} {es : List Dd} {l : List Ch} (ho : n < openN) (hm : Mine me l) (he : ∀ e ∈ d :: es, e.by_ = me ∧ e.seen < n) (hk : fitTop l (d :: es)) :
 fitTop (doL l d n) es ∧ AckL n me (onTop l (d :: es)) (onTop (doL l d n) es) := by
 obtain ⟨rfl, sd⟩ := he d (by simp)
 exact AckL.fits ho es (fun x hx => he x (by simp [hx])) (mine_do hm (fun _ => rfl)) (ack_do (n := n) (fit_wr hk.1) (by omega)) hk.2
theorem top_clear {me least : Int} : ∀ (es : List Dd) (l : List Ch), Mine me l → (∀ e ∈ es, e.by_ = me ∧ least ≤ e.seen) → fitTop l es → fitTop (ofL least l) es ∧ onTop (ofL least l) es = ofL least (onTop l es)
 | [], _, _, _, _ => ⟨trivial, rfl⟩
 | e :: es, l, hm, he, hk => by
  obtain ⟨rfl, se⟩ := he e (by simp)
  obtain ⟨a1, a2⟩ := top_clear es (doL l e openN) (mine_do hm (fun _ => rfl)) (fun x hx => he x (by simp [hx])) hk.2
  have ec := do_of (number := openN) se (.inl rfl) (by decide) hm (fit_at hk.1)
  rw [ec] at a1 a2
  exact ⟨⟨⟨hk.1.1, by rw [cnt_of _ se]; exact hk.1.2⟩, a1⟩, a2⟩
def charsTo (ds : List Dd) (i : Nat) : List Ch := (allL [] 0 (ds.take i)).1
theorem allL_cut {d : Dd} {r : List Dd} : ∀ (a : List Dd) (l : List Ch) (i : Nat), (allL l i (a ++ d :: r)).2.1 = 0 → (allL l i a).2.1 = 0 ∧ doC (allL l i a).1 d (((i + a.length : Nat) : Int) + 1) = 0
 | [], l, i, h => by
  rw [List.nil_append, allL] at h
  by_cases hc : doC l d ((i : Int) + 1) = 0
  ·exact ⟨rfl, hc⟩
  ·rw [if_pos hc] at h; exact absurd h hc
 | e :: a, l, i, h => by
  rw [List.cons_append, allL] at h
  by_cases hc : doC l e ((i : Int) + 1) = 0
  ·rw [if_neg (fun x => x hc)] at h
   have := allL_cut a _ (i + 1) h
   have hl : i + (e :: a).length = i + 1 + a.length := by simp; omega
   rw [allL, if_neg (fun x => x hc), hl]
   exact this
  ·rw [if_pos hc] at h; exact absurd h hc
theorem chars_step {b : Bk} (h : Good b) {i : Nat} (hi : i < b.ds.length) : doC (charsTo b.ds i) b.ds[i] ((i : Int) + 1) = 0 ∧ charsTo b.ds (i + 1) = doL (charsTo b.ds i) b.ds[i] ((i : Int) + 1) := by
 have e : b.ds = b.ds.take i ++ b.ds[i] :: b.ds.drop (i + 1) := by
  rw [← List.drop_eq_getElem_cons hi, List.take_append_drop]
 have h0 := h.all0
 rw [e] at h0
 have hlen : (b.ds.take i).length = i := by rw [List.length_take]; omega
 obtain ⟨a1, a2⟩ := allL_cut (b.ds.take i) [] 0 h0
 rw [hlen, Nat.zero_add] at a2
 refine ⟨a2, ?_⟩
 have := allL_snoc (d := b.ds[i]) (b.ds.take i) [] 0 a1 (by rw [hlen, Nat.zero_add]; exact a2)
 rw [hlen, Nat.zero_add] at this
 rw [charsTo, take_snocD b.ds i hi, this]
 rfl
theorem chars_all (b : Bk) : charsTo b.ds b.ds.length = b.chars := by rw [charsTo, List.take_length]; rfl
theorem chars_pre {ds es : List Dd} {i : Nat} (h : i ≤ ds.length) : charsTo (ds ++ es) i = charsTo ds i := by
 rw [charsTo, List.take_append_of_le_length h]; rfl
theorem chars_made {b : Bk} (h : Good b) : ∀ (i : Nat), i ≤ b.ds.length → Made (lastAt (b.ds.take i)) i (charsTo b.ds i) ∧ (charsTo b.ds i).length ≤ 200 := by
 intro i hi
 have hz : (allL [] 0 (b.ds.take i)).2.1 = 0 := by
  by_cases hl : i < b.ds.length
  ·have e : b.ds = b.ds.take i ++ b.ds[i] :: b.ds.drop (i + 1) := by
    rw [← List.drop_eq_getElem_cons hl, List.take_append_drop]
   have h0 := h.all0
   rw [e] at h0
   exact (allL_cut _ [] 0 h0).1
  ·rw [List.take_of_length_le (by omega)]; exact h.all0
 have hok : ∀ j, j < ([] ++ b.ds.take i).length → okAt ([] ++ b.ds.take i) j := by
  intro j hj d hd
  rw [List.nil_append] at hj hd ⊢
  rw [List.length_take] at hj
  rw [List.getElem?_take, if_pos (by omega)] at hd
  obtain ⟨o1, o2, o3⟩ := h.ok j (by omega) d hd
  refine ⟨o1, ?_, o3⟩
  rw [List.take_take, Nat.min_eq_left (by omega)]
  exact o2
 have hs := h.small
 have hlen : (b.ds.take i).length = i := by rw [List.length_take]; omega
 obtain ⟨m1, _, m3⟩ := made_all (b.ds.take i) [] [] hok (by rw [List.nil_append, hlen]; omega) made_nil rfl (Nat.zero_le _) hz
 rw [List.nil_append, hlen] at m1
 exact ⟨m1, m3⟩
theorem chars_mine {b : Bk} (h : Good b) {i : Nat} (hi : i ≤ b.ds.length) (me : Int) : Mine me (charsTo b.ds i) := fun x hx e => by
 have h1 := ((chars_made h i hi).1.inn x hx).2
 have h2 := h.small
 have h3 : x.inn = 1073741824 := e
 omega
theorem chars_upto {b : Bk} (h : Good b) {i : Nat} (hi : i ≤ b.ds.length) (me : Int) : Upto me i (charsTo b.ds i) := fun x hx =>
 ⟨.inl ((chars_made h i hi).1.inn x hx).2, ((chars_made h i hi).1.out x hx).2.1⟩
structure Wr where
 me : Int
 seen : Nat
 next : Int
 base : List Ch
 opens : List Dd
 sent : Nat
def Wr.list (w : Wr) : List Ch := onTop w.base w.opens
def Wr.least (w : Wr) : Int := match w.opens[w.sent]? with
 | some e => e.seen
 | none => w.seen
structure WI (b : Bk) (c : Int) (w : Wr) : Prop where
 wr : wrB w.me = true
 here : b.here w.me = true
 seen : w.seen ≤ b.ds.length
 base : w.base = ofL c (charsTo b.ds w.seen)
 cl : c ≤ leastL b
 cs : c ≤ w.seen
 csee : ∀ d ∈ b.ds.drop w.seen, c ≤ d.seen
 own : ∀ e ∈ w.opens, e.by_ = w.me ∧ e.seen ≤ w.seen ∧ c ≤ e.seen
 fit : fitTop (charsTo b.ds w.seen) w.opens
 sent : w.sent ≤ w.opens.length
 told : (b.ds.drop w.seen).filter (fun d => decide (d.by_ = w.me)) = w.opens.take w.sent
 no : ∀ (i : Nat) (e : Dd), w.opens[i]? = some e → e.no = w.next - w.opens.length + i
 last : b.last w.me + w.opens.length = w.next - 1 + w.sent
 said : b.said w.me ≤ w.least
 mono : w.opens.Pairwise fun x y => x.seen ≤ y.seen
 full : w.list.length ≤ 200
theorem WI.small {b : Bk} {c : Int} {w : Wr} (_h : WI b c w) (hg : Good b) : (w.seen : Int) < 121 := by
 have := hg.small
 have := _h.seen
 omega
theorem WI.list_eq {b : Bk} {c : Int} {w : Wr} (h : WI b c w) (hg : Good b) : fitTop w.base w.opens ∧ w.list = ofL c (onTop (charsTo b.ds w.seen) w.opens) := by
 have := top_clear w.opens (charsTo b.ds w.seen) (chars_mine hg h.seen w.me) (fun e he => ⟨(h.own e he).1, (h.own e he).2.2⟩) h.fit
 rw [← h.base] at this
 exact this
theorem WI.ok {b : Bk} {c : Int} {w : Wr} (h : WI b c w) (hg : Good b) : okTop w.base w.opens ∧ w.base.length ≤ 200 := fitTop_ok _ _ (h.list_eq hg).1 h.full
theorem WI.least_le {b : Bk} {c : Int} {w : Wr} (h : WI b c w) : w.least ≤ w.seen := by
 unfold Wr.least
 split
 ·rename_i e he
  exact (h.own e (List.mem_of_getElem? he)).2.1
 ·exact Int.le_refl _
theorem WI.unsent {b : Bk} {c : Int} {w : Wr} (h : WI b c w) {i : Nat} {e : Dd} (hi : w.sent ≤ i) (he : w.opens[i]? = some e) : w.least ≤ e.seen := by
 obtain ⟨hl, hx⟩ := List.getElem?_eq_some_iff.1 he
 have h0 : w.opens[w.sent]? = some w.opens[w.sent] := List.getElem?_eq_getElem (by omega)
 unfold Wr.least
 rw [h0]
 show w.opens[w.sent].seen ≤ e.seen
 by_cases c : w.sent = i
 ·subst c; rw [hx]; exact Int.le_refl _
 ·have := List.pairwise_iff_getElem.1 h.mono w.sent i (by omega) hl (by omega)
  rw [hx] at this
  exact this
theorem WI.does {b : Bk} {c : Int} {w : Wr} (h : WI b c w) (hg : Good b) {e : Dd} (hb : e.by_ = w.me) (hn : e.no = w.next) (hs : e.seen = w.seen) (hc : doC w.list e openN = 0) :
 WI b c ⟨w.me, w.seen, w.next + 1, w.base, w.opens ++ [e], w.sent⟩ := by
 obtain ⟨c1, c2, c3, _⟩ := doC_zero hc
 have hle := (h.list_eq hg).2
 have hcn : cnt w.list e.seen e.by_ = cnt (onTop (charsTo b.ds w.seen) w.opens) e.seen e.by_ := by
  rw [hle, cnt_of _ (by rw [hs]; exact h.cs)]
 have hfit : Fit (onTop (charsTo b.ds w.seen) w.opens) e := ⟨c1, by rw [← hcn]; exact c2⟩
 have hl : (onTop w.base (w.opens ++ [e])).length ≤ 200 := by
  rw [onTop_snoc, fit_len (l := onTop w.base w.opens) ⟨c1, c2⟩]
  exact c3
 refine ⟨h.wr, h.here, h.seen, h.base, h.cl, h.cs, h.csee, ?_, fitTop_snoc _ _ _ h.fit hfit, ?_, ?_, ?_, ?_, ?_, ?_, hl⟩
 ·intro x hx
  rcases List.mem_append.1 hx with hx | hx
  ·exact h.own x hx
  ·obtain rfl : x = e := by simpa using hx
   exact ⟨hb, by rw [hs]; exact Int.le_refl _, by rw [hs]; exact h.cs⟩
 ·have := h.sent
  simp; omega
 ·show _ = List.take w.sent (w.opens ++ [e])
  rw [List.take_append_of_le_length h.sent]
  exact h.told
 ·intro i x hx
  show x.no = w.next + 1 - ((w.opens ++ [e]).length : Nat) + i
  rw [List.length_append]
  by_cases hi : i < w.opens.length
  ·have hx' : w.opens[i]? = some x := by
    have : (w.opens ++ [e])[i]? = some x := hx
    rw [List.getElem?_append_left hi] at this
    exact this
   have := h.no i x hx'
   simp; omega
  ·have hx' : (w.opens ++ [e])[i]? = some x := hx
   rw [List.getElem?_append_right (by omega)] at hx'
   have hz : i - w.opens.length = 0 := by
    have := (List.getElem?_eq_some_iff.1 hx').1
    simp at this; omega
   rw [hz] at hx'
   obtain rfl : e = x := by simpa using hx'
   simp; omega
 ·have := h.last
  show b.last w.me + ((w.opens ++ [e]).length : Nat) = w.next + 1 - 1 + w.sent
  rw [List.length_append]; simp; omega
 ·have h1 := h.said
  have h2 := h.least_le
  refine Int.le_trans h1 ?_
  show w.least ≤ match (w.opens ++ [e])[w.sent]? with | some e => e.seen | none => w.seen
  by_cases hi : w.sent < w.opens.length
  ·rw [List.getElem?_append_left hi]
   exact Int.le_refl _
  ·have : w.sent = w.opens.length := by have := h.sent; omega
   rw [this, List.getElem?_concat_length]
   show w.least ≤ e.seen
   rw [hs]; exact h2
 ·refine List.pairwise_append.2 ⟨h.mono, List.pairwise_singleton _ _, ?_⟩
  intro x hx y hy
  obtain rfl : y = e := by simpa using hy
  rw [hs]; exact (h.own x hx).2.1
theorem comes_eq {b : Bk} {d : Dd} (hc : comesC b d = 0) : comesB b d = ⟨b.ds ++ [d], b.here, setF b.last d.by_ d.no, setF b.said d.by_ d.seen⟩ := by rw [comesB, if_pos hc]
theorem WI.sent_ok {b : Bk} {c : Int} {w : Wr} (h : WI b c w) {d : Dd} (hd : w.opens[w.sent]? = some d) (hc : comesC b d = 0) : WI (comesB b d) c ⟨w.me, w.seen, w.next, w.base, w.opens, w.sent + 1⟩ := by
 obtain ⟨hb, hs, hcd⟩ := h.own d (List.mem_of_getElem? hd)
 have hlt := (List.getElem?_eq_some_iff.1 hd).1
 have hno := h.no w.sent d hd
 have hla := h.last
 have hcl := Int.le_trans h.cl (least_comes d)
 rw [comes_eq hc] at hcl ⊢
 refine ⟨h.wr, h.here, ?_, ?_, hcl, h.cs, ?_, h.own, ?_, hlt, ?_, h.no, ?_, ?_, h.mono, h.full⟩
 ·have := h.seen
  show w.seen ≤ (b.ds ++ [d]).length
  rw [List.length_append]; omega
 ·show w.base = ofL c (charsTo (b.ds ++ [d]) w.seen)
  rw [chars_pre h.seen]; exact h.base
 ·intro x hx
  have hx' : x ∈ (b.ds ++ [d]).drop w.seen := hx
  rw [List.drop_append_of_le_length h.seen] at hx'
  rcases List.mem_append.1 hx' with hx' | hx'
  ·exact h.csee x hx'
  ·obtain rfl : x = d := by simpa using hx'
   exact hcd
 ·show fitTop (charsTo (b.ds ++ [d]) w.seen) w.opens
  rw [chars_pre h.seen]; exact h.fit
 ·show ((b.ds ++ [d]).drop w.seen).filter (fun d => decide (d.by_ = w.me)) = w.opens.take (w.sent + 1)
  rw [List.drop_append_of_le_length h.seen, List.filter_append, h.told, take_snocD w.opens w.sent hlt, (List.getElem?_eq_some_iff.1 hd).2]
  simp [hb]
 ·show setF b.last d.by_ d.no w.me + w.opens.length = w.next - 1 + ((w.sent + 1 : Nat) : Int)
  rw [hb, setF_same]; omega
 ·show setF b.said d.by_ d.seen w.me ≤ match w.opens[w.sent + 1]? with | some e => e.seen | none => (w.seen : Int)
  rw [hb, setF_same]
  split
  ·rename_i e he
   have h1 := (List.getElem?_eq_some_iff.1 hd).2
   have h2 := List.getElem?_eq_some_iff.1 he
   have := List.pairwise_iff_getElem.1 h.mono w.sent (w.sent + 1) hlt h2.1 (by omega)
   rw [h1, h2.2] at this
   exact this
  ·exact hs
theorem WI.other_comes {b : Bk} {c : Int} {w : Wr} (h : WI b c w) {d : Dd} (hne : d.by_ ≠ w.me) (hc : comesC b d = 0) : WI (comesB b d) c w := by
 have hcl := Int.le_trans h.cl (least_comes d)
 have hdl := comes_least hc
 have hcl0 := h.cl
 rw [comes_eq hc] at hcl ⊢
 refine ⟨h.wr, h.here, ?_, ?_, hcl, h.cs, ?_, h.own, ?_, h.sent, ?_, h.no, ?_, ?_, h.mono, h.full⟩
 ·have := h.seen
  show w.seen ≤ (b.ds ++ [d]).length
  rw [List.length_append]; omega
 ·show w.base = ofL c (charsTo (b.ds ++ [d]) w.seen)
  rw [chars_pre h.seen]; exact h.base
 ·intro x hx
  have hx' : x ∈ (b.ds ++ [d]).drop w.seen := hx
  rw [List.drop_append_of_le_length h.seen] at hx'
  rcases List.mem_append.1 hx' with hx' | hx'
  ·exact h.csee x hx'
  ·obtain rfl : x = d := by simpa using hx'
   omega
 ·show fitTop (charsTo (b.ds ++ [d]) w.seen) w.opens
  rw [chars_pre h.seen]; exact h.fit
 ·show ((b.ds ++ [d]).drop w.seen).filter (fun d => decide (d.by_ = w.me)) = w.opens.take w.sent
  rw [List.drop_append_of_le_length h.seen, List.filter_append, h.told]
  simp [hne]
 ·show setF b.last d.by_ d.no w.me + w.opens.length = _
  rw [setF_other _ _ (Ne.symm hne)]; exact h.last
 ·show setF b.said d.by_ d.seen w.me ≤ _
  rw [setF_other _ _ (Ne.symm hne)]; exact h.said
theorem WI.other_says {b : Bk} {c : Int} {w : Wr} (h : WI b c w) {v n : Int} (hne : v ≠ w.me) : WI (saysB b v n) c w := by
 have hcl := Int.le_trans h.cl (least_says v n)
 unfold saysB at hcl ⊢
 split at hcl
 ·rename_i hc
  rw [if_pos hc]
  refine ⟨h.wr, h.here, h.seen, h.base, hcl, h.cs, h.csee, h.own, h.fit, h.sent, h.told, h.no, h.last, ?_, h.mono, h.full⟩
  show setF b.said v n w.me ≤ _
  rw [setF_other _ _ (Ne.symm hne)]; exact h.said
 ·rename_i hc
  rw [if_neg hc]; exact h
theorem WI.other_joins {b : Bk} {c : Int} {w : Wr} (h : WI b c w) {v : Int} (hne : v ≠ w.me) : WI (joinB b v) c w := by
 have hcl := Int.le_trans h.cl (least_join (b := b) v)
 unfold joinB at hcl ⊢
 split at hcl
 ·rename_i hc
  rw [if_pos hc]
  refine ⟨h.wr, ?_, h.seen, h.base, hcl, h.cs, h.csee, h.own, h.fit, h.sent, h.told, h.no, h.last, ?_, h.mono, h.full⟩
  ·show setF b.here v true w.me = true
   rw [setF_other _ _ (Ne.symm hne)]; exact h.here
  ·show setF b.said v b.len w.me ≤ _
   rw [setF_other _ _ (Ne.symm hne)]; exact h.said
 ·rename_i hc
  rw [if_neg hc]; exact h
theorem WI.other_leaves {b : Bk} {c : Int} {w : Wr} (h : WI b c w) {v : Int} (hne : v ≠ w.me) : WI (leaveB b v) c w := by
 have hcl := Int.le_trans h.cl (least_leave (b := b) v)
 unfold leaveB at hcl ⊢
 split at hcl
 ·rename_i hc
  rw [if_pos hc]
  refine ⟨h.wr, ?_, h.seen, h.base, hcl, h.cs, h.csee, h.own, h.fit, h.sent, h.told, h.no, h.last, h.said, h.mono, h.full⟩
  show setF b.here v false w.me = true
  rw [setF_other _ _ (Ne.symm hne)]; exact h.here
 ·rename_i hc
  rw [if_neg hc]; exact h
theorem WI.says {b : Bk} {c : Int} {w : Wr} (h : WI b c w) : saysC b w.me w.least = 0 ∧ WI (saysB b w.me w.least) c w := by
 have h1 := h.said
 have h2 := h.least_le
 have h3 := h.seen
 have hh : b.isHere w.me = true := by rw [Bk.isHere, h.wr, h.here]; rfl
 have hc : saysC b w.me w.least = 0 := by
  unfold saysC
  rw [if_neg (by rw [hh]; simp), if_neg (by unfold Bk.len; omega)]
 have hcl := Int.le_trans h.cl (least_says w.me w.least)
 refine ⟨hc, ?_⟩
 rw [saysB, if_pos hc] at hcl ⊢
 refine ⟨h.wr, h.here, h.seen, h.base, hcl, h.cs, h.csee, h.own, h.fit, h.sent, h.told, h.no, h.last, ?_, h.mono, h.full⟩
 show setF b.said w.me w.least w.me ≤ _
 rw [setF_same]
 exact Int.le_refl _
theorem WI.clears {b : Bk} {c : Int} {w : Wr} (h : WI b c w) (hg : Good b) {least : Int} (h1 : least ≤ leastL b) (h2 : ∀ d ∈ b.ds.drop w.seen, least ≤ d.seen) :
 ∃ c', WI b c' ⟨w.me, w.seen, w.next, ofL least w.base, w.opens, w.sent⟩ ∧ onTop (ofL least w.base) w.opens = ofL least w.list := by
 have hsaid := least_said h.wr h.here
 have hs := h.said
 have hle := h.least_le
 have hopen : ∀ e ∈ w.opens, least ≤ e.seen := by
  intro e he
  obtain ⟨i, hi, rfl⟩ := List.mem_iff_getElem.1 he
  by_cases hs' : i < w.sent
  ·have : w.opens[i] ∈ w.opens.take w.sent := by
    rw [List.mem_take_iff_getElem]
    exact ⟨i, by omega, rfl⟩
   rw [← h.told] at this
   exact h2 _ (List.mem_filter.1 this).1
  ·have := h.unsent (i := i) (by omega) (List.getElem?_eq_getElem hi)
   omega
 have hm : Mine w.me w.base := by rw [h.base]; exact (chars_mine hg h.seen w.me).of c
 have htop := (top_clear w.opens w.base hm (fun e he => ⟨(h.own e he).1, hopen e he⟩) (h.list_eq hg).1).2
 have hfull : (onTop (ofL least w.base) w.opens).length ≤ 200 := by
  rw [htop]
  exact Nat.le_trans (ofL_le _ _) h.full
 by_cases hcl : c ≤ least
 ·refine ⟨least, ⟨h.wr, h.here, h.seen, ?_, h1, by show least ≤ (w.seen : Int); omega, h2, fun e he => ⟨(h.own e he).1, (h.own e he).2.1, hopen e he⟩, h.fit, h.sent, h.told, h.no, h.last, h.said, h.mono, hfull⟩, htop⟩
  show ofL least w.base = ofL least (charsTo b.ds w.seen)
  rw [h.base, of_more hcl]
 ·refine ⟨c, ⟨h.wr, h.here, h.seen, ?_, h.cl, h.cs, h.csee, h.own, h.fit, h.sent, h.told, h.no, h.last, h.said, h.mono, hfull⟩, htop⟩
  show ofL least w.base = ofL c (charsTo b.ds w.seen)
  rw [h.base, of_less (by omega)]
theorem WI.base_next {b : Bk} {c : Int} {w : Wr} (h : WI b c w) (hg : Good b) (hi : w.seen < b.ds.length) : doC w.base b.ds[w.seen] ((w.seen : Int) + 1) = 0 ∧ doL w.base b.ds[w.seen] ((w.seen : Int) + 1) = ofL c (charsTo b.ds (w.seen + 1)) := by
 obtain ⟨s1, s2⟩ := chars_step hg hi
 have hcd : c ≤ b.ds[w.seen].seen := h.csee _ (by rw [List.drop_eq_getElem_cons hi]; exact List.mem_cons_self ..)
 have hcs := h.cs
 refine ⟨by rw [h.base]; exact doC_clear hcd s1, ?_⟩
 rw [s2, do_of hcd (.inr (by omega)) (by omega) (chars_mine hg h.seen _) (fit_at (fit_of s1)), h.base]
theorem seen_next {b : Bk} (hg : Good b) {i : Nat} (hi : i < b.ds.length) : b.ds[i].seen < (i : Int) + 1 ∧ (i : Int) + 1 < openN := by
 have h1 := (hg.ok i hi b.ds[i] (List.getElem?_eq_getElem hi)).2.2
 have h2 := hg.small
 exact ⟨by omega, by show (i : Int) + 1 < 1073741824; omega⟩
theorem drop_next {b : Bk} {i : Nat} (hi : i < b.ds.length) {d : Dd} (h : d ∈ b.ds.drop (i + 1)) : d ∈ b.ds.drop i := by
 rw [List.drop_eq_getElem_cons hi]
 exact List.mem_cons_of_mem _ h
theorem WI.hears_other {b : Bk} {c : Int} {w : Wr} (h : WI b c w) (hg : Good b) (hi : w.seen < b.ds.length) (hne : b.ds[w.seen].by_ ≠ w.me) :
 (doC w.list b.ds[w.seen] ((w.seen : Int) + 1) = 0 ∨ doC w.list b.ds[w.seen] ((w.seen : Int) + 1) = 9) ∧
 (doC w.list b.ds[w.seen] ((w.seen : Int) + 1) = 0 → doL w.list b.ds[w.seen] ((w.seen : Int) + 1) = onTop (doL w.base b.ds[w.seen] ((w.seen : Int) + 1)) w.opens ∧
  WI b c ⟨w.me, w.seen + 1, w.next, doL w.base b.ds[w.seen] ((w.seen : Int) + 1), w.opens, w.sent⟩) := by
 obtain ⟨s1, s2⟩ := chars_step hg hi
 obtain ⟨n1, n2⟩ := seen_next hg hi
 obtain ⟨b1, b2⟩ := h.base_next hg hi
 have hm : Mine w.me w.base := by rw [h.base]; exact (chars_mine hg h.seen w.me).of c
 have hes : ∀ e ∈ w.opens, e.by_ = w.me ∧ e.seen < (w.seen : Int) + 1 := fun e he => ⟨(h.own e he).1, by have := (h.own e he).2.1; omega⟩
 obtain ⟨t1, t2, t3⟩ := top_other hne n1 n2 w.opens w.base hm hes (h.list_eq hg).1 (fit_of b1)
 obtain ⟨_, u2, _⟩ := top_other hne n1 n2 w.opens (charsTo b.ds w.seen) (chars_mine hg h.seen w.me) hes h.fit (fit_of s1)
 have hcode := fit_code (n := (w.seen : Int) + 1) t1 (by omega)
 refine ⟨?_, fun hc => ⟨t3, ?_⟩⟩
 ·show doC (onTop w.base w.opens) _ _ = 0 ∨ doC (onTop w.base w.opens) _ _ = 9
  rw [hcode]
  split
  ·exact .inr rfl
  ·exact .inl rfl
 ·have hl : (onTop (doL w.base b.ds[w.seen] ((w.seen : Int) + 1)) w.opens).length ≤ 200 := by
   rw [← t3, fit_len t1]
   exact (doC_zero hc).2.2.1
  refine ⟨h.wr, h.here, hi, b2, h.cl, by have := h.cs; show c ≤ ((w.seen + 1 : Nat) : Int); omega, fun d hd => h.csee d (drop_next hi hd), ?_, ?_, h.sent, ?_, h.no, h.last, ?_, h.mono, hl⟩
  ·intro e he
   obtain ⟨o1, o2, o3⟩ := h.own e he
   exact ⟨o1, by show e.seen ≤ ((w.seen + 1 : Nat) : Int); omega, o3⟩
  ·show fitTop (charsTo b.ds (w.seen + 1)) w.opens
   rw [s2]; exact u2
  ·have := h.told
   rw [List.drop_eq_getElem_cons hi, List.filter_cons, if_neg (by simpa using hne)] at this
   exact this
  ·refine Int.le_trans h.said ?_
   show w.least ≤ match w.opens[w.sent]? with | some e => e.seen | none => ((w.seen + 1 : Nat) : Int)
   unfold Wr.least
   cases w.opens[w.sent]? with
   | none => show (w.seen : Int) ≤ ((w.seen + 1 : Nat) : Int); omega
   | some e => exact Int.le_refl _
theorem WI.own_first {b : Bk} {c : Int} {w : Wr} (h : WI b c w) (hi : w.seen < b.ds.length) (hb : b.ds[w.seen].by_ = w.me) : ∃ es, w.opens = b.ds[w.seen] :: es ∧ 1 ≤ w.sent := by
 have := h.told
 rw [List.drop_eq_getElem_cons hi, List.filter_cons, if_pos (by simpa using hb)] at this
 cases hes : w.opens with
 | nil => rw [hes] at this; simp at this
 | cons e es =>
  cases hs : w.sent with
  | zero => rw [hs] at this; simp at this
  | succ j =>
   rw [hes, hs, List.take_succ_cons, List.cons.injEq] at this
   exact ⟨es, by rw [this.1], by omega⟩
theorem WI.hears_own {b : Bk} {c : Int} {w : Wr} (h : WI b c w) (hg : Good b) (hi : w.seen < b.ds.length) {es : List Dd} (he : w.opens = b.ds[w.seen] :: es) (h1 : 1 ≤ w.sent) (hb : b.ds[w.seen].by_ = w.me) :
 WI b c ⟨w.me, w.seen + 1, w.next, doL w.base b.ds[w.seen] ((w.seen : Int) + 1), es, w.sent - 1⟩ ∧
 AckL ((w.seen : Int) + 1) w.me w.list (onTop (doL w.base b.ds[w.seen] ((w.seen : Int) + 1)) es) ∧
 vw (onTop (doL w.base b.ds[w.seen] ((w.seen : Int) + 1)) es) ((w.seen : Int) + 1) w.me = vw w.list w.seen w.me := by
 obtain ⟨_, s2⟩ := chars_step hg hi
 obtain ⟨n1, n2⟩ := seen_next hg hi
 obtain ⟨_, b2⟩ := h.base_next hg hi
 have hm : Mine w.me w.base := by rw [h.base]; exact (chars_mine hg h.seen w.me).of c
 have hes : ∀ e ∈ b.ds[w.seen] :: es, e.by_ = w.me ∧ e.seen < (w.seen : Int) + 1 := fun e hx => by
  rw [← he] at hx
  exact ⟨(h.own e hx).1, by have := (h.own e hx).2.1; omega⟩
 have hf := (h.list_eq hg).1
 have hf' := h.fit
 rw [he] at hf hf'
 obtain ⟨_, t2⟩ := top_own n2 hm hes hf
 obtain ⟨u1, _⟩ := top_own n2 (chars_mine hg h.seen w.me) hes hf'
 rw [← s2] at u1
 have hlist : w.list = onTop w.base (b.ds[w.seen] :: es) := by rw [Wr.list, he]
 rw [← hlist] at t2
 have hup : Upto w.me w.seen w.list := by
  rw [Wr.list]
  refine upto_top (by omega) w.opens (fun x hx => ?_) (fun e hx => (h.own e hx).1)
  rw [h.base] at hx
  exact chars_upto hg h.seen w.me x (List.mem_filter.1 hx).1
 refine ⟨?_, t2, vw_ack t2 hup⟩
 have hsl := h.sent
 have hll : w.opens.length = es.length + 1 := by rw [he]; rfl
 have hmono := h.mono
 rw [he] at hmono
 have hl : (onTop (doL w.base b.ds[w.seen] ((w.seen : Int) + 1)) es).length ≤ 200 := by
  rw [← t2.len]; exact h.full
 refine ⟨h.wr, h.here, hi, b2, h.cl, by have := h.cs; show c ≤ ((w.seen + 1 : Nat) : Int); omega, fun d hd => h.csee d (drop_next hi hd), ?_, u1, by show w.sent - 1 ≤ es.length; omega, ?_, ?_, ?_, ?_, (List.pairwise_cons.1 hmono).2, hl⟩
 ·intro e hx
  obtain ⟨o1, o2, o3⟩ := h.own e (by rw [he]; exact List.mem_cons_of_mem _ hx)
  exact ⟨o1, by show e.seen ≤ ((w.seen + 1 : Nat) : Int); omega, o3⟩
 ·have := h.told
  rw [List.drop_eq_getElem_cons hi, List.filter_cons, if_pos (by simpa using hb), he, show w.sent = (w.sent - 1) + 1 by omega, List.take_succ_cons, List.cons.injEq] at this
  exact this.2
 ·intro i e hx
  have := h.no (i + 1) e (by rw [he]; exact hx)
  show e.no = w.next - es.length + i
  omega
 ·have := h.last
  show b.last w.me + es.length = w.next - 1 + ((w.sent - 1 : Nat) : Int)
  omega
 ·refine Int.le_trans h.said ?_
  show w.least ≤ match es[w.sent - 1]? with | some e => e.seen | none => ((w.seen + 1 : Nat) : Int)
  have hx : w.opens[w.sent]? = es[w.sent - 1]? := by
   rw [he, show w.sent = (w.sent - 1) + 1 by omega]
   rfl
  unfold Wr.least
  rw [hx]
  cases es[w.sent - 1]? with
  | none => show (w.seen : Int) ≤ ((w.seen + 1 : Nat) : Int); omega
  | some e => exact Int.le_refl _
theorem of_zero {l : List Ch} (h : ∀ x ∈ l, 0 ≤ x.out) : ofL 0 l = l := by
 unfold ofL
 rw [List.filter_eq_self]
 intro x hx
 have := h x hx
 simp [doneB]
 omega
theorem WI.comes_in {b : Bk} (hg : Good b) {v : Int} (hc : joinC b v = 0) : WI (joinB b v) 0 ⟨v, b.ds.length, b.last v + 1, b.chars, [], 0⟩ := by
 have hgj := good_join v hg
 have hw : wrB v = true := by
  unfold joinC at hc
  cases hh : wrB v
  ·rw [if_pos hh] at hc; cases hc
  ·rfl
 have hle : 0 ≤ leastL (joinB b v) := least_ge (by unfold Bk.len; omega) (fun w _ _ => (hgj.said w).1)
 rw [joinB, if_pos hc] at hle ⊢
 refine ⟨hw, setF_same _ _ _, Nat.le_refl _, ?_, hle, by show (0 : Int) ≤ (b.ds.length : Int); omega, ?_, ?_, trivial, Nat.le_refl _, ?_, ?_, ?_, ?_, List.Pairwise.nil, small_chars⟩
 ·show b.chars = ofL 0 (charsTo b.ds b.ds.length)
  rw [chars_all, of_zero]
  intro x hx
  rw [← chars_all] at hx
  exact ((chars_made hg _ (Nat.le_refl _)).1.out x hx).1
 ·intro d hd
  have hd' : d ∈ b.ds.drop b.ds.length := hd
  rw [List.drop_length] at hd'
  cases hd'
 ·intro e he
  cases he
 ·show (b.ds.drop b.ds.length).filter _ = _
  rw [List.drop_length]; rfl
 ·intro i e he
  simp at he
 ·show b.last v + ((0 : Nat) : Int) = b.last v + 1 - 1 + ((0 : Nat) : Int)
  omega
 ·show setF b.said v b.len v ≤ (b.ds.length : Int)
  rw [setF_same]
  exact Int.le_refl _
end Go.Proofs.YtcbnnfeelhlapadGreatDoor

/-
  Plain mathematics of what the document's own answer reckons: bytes of which it says what the program says. No walk.
-/
namespace Go.Proofs.YtcbnnfeelhlapadGreatDoor
open Go.RowKit
def Tame (l : List Ch) : Prop := ∀ x ∈ l, 0 ≤ x.out ∧ 0 ≤ x.gone ∧ x.gone ≤ 15
theorem made_tame {last : Int → Int} {i : Nat} {l : List Ch} (h : Made last i l) (_hi : i ≤ 1000) : Tame l := by
 intro x hx
 have h1 := h.out x hx
 have h3 := h.gone x hx
 exact ⟨h1.1, h3.1, h3.2⟩
theorem good_made {b : Bk} (h : Good b) : Made (lastAt b.ds) b.ds.length b.chars := by
 have := (made_all b.ds [] [] h.ok (by have := h.small; simp; omega) made_nil rfl (Nat.zero_le _) h.all0).1
 exact this
theorem good_tame {b : Bk} (h : Good b) : Tame b.chars := made_tame (good_made h) (by have := h.small; omega)
theorem fits_tame {l : List Ch} (h : Tame l) : FitsL l := fun x hx => by
 have := h x hx
 omega
theorem tame_new (d : Dd) (n : Int) : Tame (newL d n) := by
 intro x hx
 obtain ⟨j, b, rfl, _⟩ := newFrom_mem hx
 show 0 ≤ (0 : Int) ∧ 0 ≤ (0 : Int) ∧ (0 : Int) ≤ 15
 omega
theorem markOut_pos {number out : Int} (h : 0 ≤ out) (hn : 1 ≤ number) : 0 ≤ markOut number out := by
 unfold markOut
 split <;> omega
theorem tame_any {l : List Ch} {d : Dd} {number : Int} (h : Tame l) (hc : checkC d = 0) (h1 : 1 ≤ number) : Tame (doL l d number) := by
 obtain ⟨_, hw, _⟩ := check_parts hc
 by_cases hk : d.kind = 1
 ·rw [doL, if_pos hk]
  intro x hx
  rcases List.mem_append.1 hx with hx | hx
  ·exact h x (List.mem_of_mem_take hx)
  ·rcases List.mem_append.1 hx with hx | hx
   ·exact tame_new d _ x hx
   ·exact h x (List.mem_of_mem_drop hx)
 ·rw [doL, if_neg hk]
  intro y hy
  obtain ⟨x, hx, hyx⟩ := takeL_mem hy
  obtain ⟨g1, g3, g4⟩ := h x hx
  rcases hyx with rfl | ⟨hs, rfl⟩
  ·exact ⟨g1, g3, g4⟩
  ·have h3 := gone_add hw (sees_took hs) g3 g4
   exact ⟨markOut_pos g1 h1, h3.1, h3.2.1⟩
end Go.Proofs.YtcbnnfeelhlapadGreatDoor
