/-
  Plain mathematics of a writer: deeds that have no number yet, and what comes from others, change places; what is done with is not missed. No walk.
-/
import Derived.Test.YtcbnnfeelhlapadGreatDoorCheck
import Derived.Test.YtcbnnfeelhlapadGreatDoorFLists
import Derived.Test.YtcbnnfeelhlapadGreatDoorDPlain
import Derived.Laws.BytesArg
namespace Go.Proofs.YtcbnnfeelhlapadGreatDoor
def ins (p : Nat) (x l : List Ch) : List Ch := l.take p ++ (x ++ l.drop p)
theorem ins_at {a b x : List Ch} {p : Nat} (h : a.length = p) : ins p x (a ++ b) = a ++ (x ++ b) := by
 subst h
 rw [ins, List.take_left, List.drop_left]
theorem ins_mem {p : Nat} {x l : List Ch} {y : Ch} : y ∈ ins p x l ↔ y ∈ x ∨ y ∈ l := by
 have := List.take_append_drop p l
 rw [ins, List.mem_append, List.mem_append]
 constructor
 ·rintro (h | h | h)
  ·exact .inr (List.mem_of_mem_take h)
  ·exact .inl h
  ·exact .inr (List.mem_of_mem_drop h)
 ·rintro (h | h)
  ·exact .inr (.inl h)
  ·rw [← this, List.mem_append] at h
   rcases h with h | h
   ·exact .inl h
   ·exact .inr (.inr h)
theorem ins_comm {p q : Nat} {x y l : List Ch} (h : p ≤ q) (hq : q ≤ l.length) : ins (q + x.length) y (ins p x l) = ins p x (ins q y l) := by
 have e1 : l = l.take p ++ ((l.drop p).take (q - p) ++ l.drop q) := by
  have e2 := List.take_append_drop (q - p) (l.drop p)
  rw [List.drop_drop, show p + (q - p) = q by omega] at e2
  rw [e2, List.take_append_drop]
 have ha : (l.take p).length = p := by rw [List.length_take]; omega
 have hb : ((l.drop p).take (q - p)).length = q - p := by rw [List.length_take, List.length_drop]; omega
 generalize l.take p = a at e1 ha
 generalize (l.drop p).take (q - p) = b at e1 hb
 generalize l.drop q = c at e1
 subst e1
 rw [ins_at ha]
 have e3 : a ++ (x ++ (b ++ c)) = (a ++ (x ++ b)) ++ c := by simp
 rw [e3, ins_at (by simp; omega)]
 have e4 : a ++ (b ++ c) = (a ++ b) ++ c := by simp
 rw [e4, ins_at (a := a ++ b) (by simp; omega)]
 have e5 : a ++ b ++ (y ++ c) = a ++ (b ++ (y ++ c)) := by simp
 rw [e5, ins_at ha]
 simp
theorem doL_put {l : List Ch} {d : Dd} {number : Int} (h : d.kind = 1) : doL l d number = ins (placeL l d) (newL d number) l := by
 rw [doL, if_pos h, ins]
theorem doL_take {l : List Ch} {d : Dd} {number : Int} (h : d.kind ≠ 1) : doL l d number = takeL d number 0 l := by
 rw [doL, if_neg h]
theorem behindL_pre {seen by_ : Int} : ∀ (x : List Ch) (n : Nat) (l : List Ch), (∀ y ∈ x, seesC seen by_ y = false) → behindL seen by_ (n + 1) (x ++ l) = (behindL seen by_ (n + 1) l).map (· + x.length)
 | [], n, l, _ => by rw [List.nil_append]; cases behindL seen by_ (n + 1) l <;> rfl
 | y :: x, n, l, h => by
  rw [List.cons_append, behindL, if_neg (by rw [h y (by simp)]; simp), behindL_pre x n l (fun z hz => h z (by simp [hz]))]
  cases behindL seen by_ (n + 1) l
  ·rfl
  ·simp; omega
theorem behindL_zero (seen by_ : Int) (l : List Ch) : behindL seen by_ 0 l = some 0 := by cases l <;> rfl
theorem behindL_ins {seen by_ : Int} {x : List Ch} (hx : ∀ y ∈ x, seesC seen by_ y = false) : ∀ (l : List Ch) (n p q : Nat), p ≤ l.length → behindL seen by_ n l = some q → behindL seen by_ n (ins p x l) = some (if p < q then q + x.length else q)
 | l, 0, p, q, _, h => by
  rw [behindL_zero] at h ⊢
  obtain rfl := Option.some.inj h
  simp
 | [], n + 1, p, q, hp, h => by cases h
 | y :: r, n + 1, 0, q, hp, h => by
  rw [ins, List.take_zero, List.drop_zero, List.nil_append, behindL_pre x n _ hx, h]
  have : 0 < q := by
   rw [behindL] at h
   split at h
   ·cases hb : behindL seen by_ n r <;> rw [hb] at h <;> simp at h
    omega
   ·cases hb : behindL seen by_ (n + 1) r <;> rw [hb] at h <;> simp at h
    omega
  rw [if_pos this]
  rfl
 | y :: r, n + 1, p + 1, q, hp, h => by
  have e : ins (p + 1) x (y :: r) = y :: ins p x r := rfl
  rw [e, behindL]
  rw [behindL] at h
  have hp' : p ≤ r.length := by simpa using hp
  split at h
  ·rename_i hy
   rw [if_pos hy]
   cases hb : behindL seen by_ n r with
   | none => rw [hb] at h; cases h
   | some q' =>
    rw [hb] at h
    obtain rfl := Option.some.inj h
    rw [behindL_ins hx r n p q' hp' hb]
    simp only [Option.map_some, Option.some.injEq, Nat.add_lt_add_iff_right]
    split <;> omega
  ·rename_i hy
   rw [if_neg hy]
   cases hb : behindL seen by_ (n + 1) r with
   | none => rw [hb] at h; cases h
   | some q' =>
    rw [hb] at h
    obtain rfl := Option.some.inj h
    rw [behindL_ins hx r (n + 1) p q' hp' hb]
    simp only [Option.map_some, Option.some.injEq, Nat.add_lt_add_iff_right]
    split <;> omega
theorem skipL_all {by_ : Int} : ∀ (x l : List Ch), (∀ y ∈ x, y.inn = openN ∧ y.by_ ≠ by_) → skipL by_ (x ++ l) = skipL by_ l + x.length
 | [], l, _ => rfl
 | y :: x, l, h => by
  rw [List.cons_append, skipL, if_pos (h y (by simp)), skipL_all x l (fun z hz => h z (by simp [hz])), List.length_cons]
  omega
theorem skipL_ins {by_ : Int} {x : List Ch} (hx : ∀ y ∈ x, y.inn = openN ∧ y.by_ ≠ by_) : ∀ (l : List Ch) (j : Nat), j ≤ l.length → skipL by_ (ins j x l) = if skipL by_ l < j then skipL by_ l else skipL by_ l + x.length
 | l, 0, _ => by
  rw [ins, List.take_zero, List.drop_zero, List.nil_append, skipL_all x l hx]
  simp
 | y :: r, j + 1, h => by
  have e : ins (j + 1) x (y :: r) = y :: ins j x r := rfl
  rw [e, skipL, skipL]
  by_cases hy : y.inn = openN ∧ y.by_ ≠ by_
  ·rw [if_pos hy, if_pos hy, skipL_ins hx r j (by simpa using h)]
   simp only [Nat.add_lt_add_iff_right]
   split <;> omega
  ·rw [if_neg hy, if_neg hy]
   simp
def Mine (me : Int) (l : List Ch) : Prop := ∀ x ∈ l, x.inn = openN → x.by_ = me
theorem skip_mine {me : Int} {l : List Ch} (h : Mine me l) : skipL me l = 0 := by
 cases l with
 | nil => rfl
 | cons x r => rw [skipL, if_neg (fun e => e.2 (h x (by simp) e.1))]
theorem Mine.drop {me : Int} {l : List Ch} (h : Mine me l) (p : Nat) : Mine me (l.drop p) := fun x hx => h x (List.mem_of_mem_drop hx)
theorem Mine.ins {me : Int} {x l : List Ch} (h : Mine me l) (hx : Mine me x) (p : Nat) : Mine me (ins p x l) := fun y hy => by
 rcases ins_mem.1 hy with hy | hy
 ·exact hx y hy
 ·exact h y hy
theorem new_parts {d : Dd} {number : Int} {y : Ch} (h : y ∈ newL d number) : y.inn = number ∧ y.by_ = d.by_ ∧ y.out = 0 ∧ y.gone = 0 ∧ y.no = d.no := by
 obtain ⟨j, b, rfl, _⟩ := newFrom_mem h
 exact ⟨rfl, rfl, rfl, rfl, rfl⟩
theorem new_away {d : Dd} {number seen by_ : Int} (h : d.by_ ≠ by_) (hn : seen < number) : ∀ y ∈ newL d number, seesC seen by_ y = false := by
 intro y hy
 obtain ⟨j, b, rfl, _⟩ := newFrom_mem hy
 exact new_unseen d number seen by_ j b h hn
theorem place_parts {l : List Ch} {d : Dd} (h : d.at_ ≤ cnt l d.seen d.by_) : ∃ q, behindL d.seen d.by_ d.at_.toNat l = some q ∧ q ≤ l.length ∧ placeL l d = q + skipL d.by_ (l.drop q) ∧ placeL l d ≤ l.length := by
 have hl : d.at_.toNat ≤ (vw l d.seen d.by_).length := by have := vw_len l d.seen d.by_; omega
 obtain ⟨q, hq⟩ := behindL_some hl
 have h1 := (behindL_view hq).1
 have hk := skipL_le d.by_ (l.drop q)
 rw [List.length_drop] at hk
 have e : placeL l d = q + skipL d.by_ (l.drop q) := by rw [placeL, hq]
 exact ⟨q, hq, h1, e, by omega⟩
theorem drop_ins_low {p q : Nat} {x l : List Ch} (h : q ≤ p) (hp : p ≤ l.length) : (ins p x l).drop q = ins (p - q) x (l.drop q) := by
 rw [ins, ins, List.drop_append_of_le_length (by rw [List.length_take]; omega), List.drop_take, List.drop_drop, show q + (p - q) = p by omega]
theorem drop_ins_high {p q : Nat} {x l : List Ch} (h : p ≤ q) (hp : p ≤ l.length) : (ins p x l).drop (q + x.length) = l.drop q := by
 have e1 : (l.take p).length = p := by rw [List.length_take]; omega
 have e : ins p x l = (l.take p ++ x) ++ l.drop p := by rw [ins, List.append_assoc]
 rw [e, List.drop_append, List.drop_eq_nil_of_le (by rw [List.length_append, e1]; omega), List.nil_append, List.length_append, e1, List.drop_drop]
 congr 1
 omega
theorem place_other {l x : List Ch} {d : Dd} {p : Nat} (hp : p ≤ l.length) (hn : d.at_ ≤ cnt l d.seen d.by_) (hs : ∀ y ∈ x, seesC d.seen d.by_ y = false) (hx : ∀ y ∈ x, y.inn = openN ∧ y.by_ ≠ d.by_) :
 placeL (ins p x l) d = if placeL l d < p then placeL l d else placeL l d + x.length := by
 obtain ⟨q, hq, hql, e, _⟩ := place_parts hn
 have hb := behindL_ins hs l d.at_.toNat p q hp hq
 rw [placeL, hb]
 show (if p < q then q + x.length else q) + skipL d.by_ ((ins p x l).drop (if p < q then q + x.length else q)) = _
 rw [e]
 by_cases hpq : p < q
 ·rw [if_pos hpq, drop_ins_high (by omega) hp, if_neg (by omega)]
  omega
 ·rw [if_neg hpq, drop_ins_low (by omega) hp, skipL_ins hx _ _ (by rw [List.length_drop]; omega)]
  by_cases hk : skipL d.by_ (l.drop q) < p - q
  ·rw [if_pos hk, if_pos (by omega)]
  ·rw [if_neg hk, if_neg (by omega)]
   omega
theorem place_own {l x : List Ch} {e : Dd} {p : Nat} (hp : p ≤ l.length) (hn : e.at_ ≤ cnt l e.seen e.by_) (hm : Mine e.by_ l) (hs : ∀ y ∈ x, seesC e.seen e.by_ y = false) (hx : Mine e.by_ x) :
 placeL (ins p x l) e = if p < placeL l e then placeL l e + x.length else placeL l e := by
 obtain ⟨q, hq, hql, e1, _⟩ := place_parts hn
 rw [skip_mine (hm.drop q), Nat.add_zero] at e1
 have hb := behindL_ins hs l e.at_.toNat p q hp hq
 rw [placeL, hb]
 show (if p < q then q + x.length else q) + skipL e.by_ ((ins p x l).drop (if p < q then q + x.length else q)) = _
 rw [skip_mine ((hm.ins hx p).drop _), e1]
 rfl
theorem cnt_nil (seen by_ : Int) : cnt [] seen by_ = 0 := rfl
theorem takeL_app (d : Dd) (number : Int) : ∀ (a b : List Ch) (k : Int), takeL d number k (a ++ b) = takeL d number k a ++ takeL d number (k + cnt a d.seen d.by_) b
 | [], b, k => by rw [cnt_nil, Int.add_zero]; rfl
 | x :: a, b, k => by
  rw [List.cons_append, takeL_cons, takeL_cons, takeL_app d number a b, cnt_cons, List.cons_append]
  congr 3
  unfold nx
  split <;> omega
theorem takeL_unseen (d : Dd) (number : Int) : ∀ (a : List Ch) (k : Int), (∀ y ∈ a, seesC d.seen d.by_ y = false) → takeL d number k a = a
 | [], k, _ => rfl
 | x :: a, k, h => by
  have hx := h x (by simp)
  rw [takeL_cons, takeL_unseen d number a _ (fun y hy => h y (by simp [hy])), tk, if_neg (fun e => by rw [hx] at e; exact Bool.noConfusion e.1)]
theorem cnt_unseen {a : List Ch} {seen by_ : Int} (h : ∀ y ∈ a, seesC seen by_ y = false) : cnt a seen by_ = 0 := by
 rw [← vw_len, vw_none h]; rfl
theorem takeL_ins {d : Dd} {number : Int} {x l : List Ch} {p : Nat} (hp : p ≤ l.length) (hs : ∀ y ∈ x, seesC d.seen d.by_ y = false) : takeL d number 0 (ins p x l) = ins p x (takeL d number 0 l) := by
 have e := List.take_append_drop p l
 conv => rhs; rw [← e]
 rw [takeL_app, ins_at (by rw [takeL_len, List.length_take]; omega), ins, takeL_app, takeL_app, takeL_unseen d number x _ hs, cnt_unseen hs, Int.add_zero]
theorem behindL_tk {e : Dd} {number seen v : Int} (hw : wrB e.by_ = true) (hv : v ≠ e.by_) (hn : seen < number ∨ number = openN) : ∀ (l : List Ch) (k : Int) (n : Nat), behindL seen v n (takeL e number k l) = behindL seen v n l
 | l, k, 0 => by rw [behindL_zero, behindL_zero]
 | [], k, n + 1 => rfl
 | x :: r, k, n + 1 => by
  rw [takeL_cons, behindL, behindL, tk_far hw hv hn, behindL_tk hw hv hn r _ n, behindL_tk hw hv hn r _ (n + 1)]
theorem tk_parts (e : Dd) (number k : Int) (x : Ch) : (tk e number k x).inn = x.inn ∧ (tk e number k x).by_ = x.by_ ∧ (tk e number k x).c = x.c ∧ (tk e number k x).no = x.no ∧ (tk e number k x).k = x.k := by
 unfold tk
 split <;> exact ⟨rfl, rfl, rfl, rfl, rfl⟩
theorem skipL_tk {e : Dd} {number v : Int} : ∀ (l : List Ch) (k : Int), skipL v (takeL e number k l) = skipL v l
 | [], k => rfl
 | x :: r, k => by
  rw [takeL_cons, skipL, skipL, skipL_tk r, (tk_parts e number k x).1, (tk_parts e number k x).2.1]
theorem takeL_drop (e : Dd) (number : Int) (l : List Ch) (p : Nat) (k : Int) : ∃ j, (takeL e number k l).drop p = takeL e number j (l.drop p) := by
 have h := List.take_append_drop p l
 refine ⟨k + cnt (l.take p) e.seen e.by_, ?_⟩
 by_cases hp : p ≤ l.length
 ·conv => lhs; rw [← h, takeL_app]
  rw [List.drop_left' (by rw [takeL_len, List.length_take]; omega)]
 ·rw [List.drop_eq_nil_of_le (by rw [takeL_len]; omega), List.drop_eq_nil_of_le (by omega)]
  rfl
theorem place_tk {l : List Ch} {d e : Dd} {number : Int} (hw : wrB e.by_ = true) (hv : d.by_ ≠ e.by_) (hn : d.seen < number ∨ number = openN) : placeL (takeL e number 0 l) d = placeL l d := by
 unfold placeL
 rw [behindL_tk hw hv hn]
 cases behindL d.seen d.by_ d.at_.toNat l with
 | none => rfl
 | some p =>
  obtain ⟨j, hj⟩ := takeL_drop e number l p 0
  show p + skipL d.by_ ((takeL e number 0 l).drop p) = p + skipL d.by_ (l.drop p)
  rw [hj, skipL_tk]
theorem mark_open (o : Int) : markOut openN o = o := by
 rw [markOut, if_neg (fun h => h.1 rfl)]
theorem marks_comm (a b n : Int) (x : Ch) : mark a n (mark b openN x) = mark b openN (mark a n x) := by
 simp only [mark, mark_open, Ch.mk.injEq, true_and]
 omega
theorem takes_comm {d e : Dd} {n : Int} (hd : wrB d.by_ = true) (he : wrB e.by_ = true) (hne : d.by_ ≠ e.by_) (hn : e.seen < n) : ∀ (l : List Ch) (j k : Int),
 takeL d n k (takeL e openN j l) = takeL e openN j (takeL d n k l)
 | [], j, k => rfl
 | x :: r, j, k => by
  have s1 : seesC d.seen d.by_ (tk e openN j x) = seesC d.seen d.by_ x := tk_far he hne (.inr rfl)
  have s2 : seesC e.seen e.by_ (tk d n k x) = seesC e.seen e.by_ x := tk_far hd (Ne.symm hne) (.inl hn)
  rw [takeL_cons, takeL_cons, takeL_cons, takeL_cons]
  have n1 : nx d k (tk e openN j x) = nx d k x := by unfold nx; rw [s1]
  have n2 : nx e j (tk d n k x) = nx e j x := by unfold nx; rw [s2]
  rw [n1, n2, takes_comm hd he hne hn r]
  congr 1
  rw [tk, s1]
  conv => rhs; rw [tk, s2]
  by_cases c1 : seesC d.seen d.by_ x = true ∧ d.at_ ≤ k ∧ k < d.at_ + d.many
  ·rw [if_pos c1]
   by_cases c2 : seesC e.seen e.by_ x = true ∧ e.at_ ≤ j ∧ j < e.at_ + e.many
   ·rw [if_pos c2, tk, if_pos c2, tk, if_pos c1, marks_comm]
   ·rw [if_neg c2, tk, if_neg c2, tk, if_pos c1]
  ·rw [if_neg c1]
   by_cases c2 : seesC e.seen e.by_ x = true ∧ e.at_ ≤ j ∧ j < e.at_ + e.many
   ·rw [if_pos c2, tk, if_pos c2, tk, if_neg c1]
   ·rw [if_neg c2, tk, if_neg c2, tk, if_neg c1]
theorem do_comm {l : List Ch} {d e : Dd} {n : Int} (hd : wrB d.by_ = true) (he : wrB e.by_ = true) (hne : d.by_ ≠ e.by_) (hm : Mine e.by_ l) (sd : d.seen < n) (se : e.seen < n) (ho : n < openN)
 (hnd : d.at_ ≤ cnt l d.seen d.by_) (hne' : e.at_ ≤ cnt l e.seen e.by_) : doL (doL l e openN) d n = doL (doL l d n) e openN := by
 by_cases kd : d.kind = 1
 ·by_cases ke : e.kind = 1
  ·obtain ⟨_, _, _, _, pd⟩ := place_parts hnd
   obtain ⟨_, _, _, _, pe⟩ := place_parts hne'
   have h1 : placeL (ins (placeL l e) (newL e openN) l) d = if placeL l d < placeL l e then placeL l d else placeL l d + (newL e openN).length :=
    place_other pe hnd (new_away (Ne.symm hne) (by omega)) (fun y hy => ⟨(new_parts hy).1, by rw [(new_parts hy).2.1]; exact Ne.symm hne⟩)
   have h2 : placeL (ins (placeL l d) (newL d n) l) e = if placeL l d < placeL l e then placeL l e + (newL d n).length else placeL l e :=
    place_own pd hne' hm (new_away hne se) (fun y hy h => absurd ((new_parts hy).1.symm.trans h) (by omega))
   rw [doL_put ke, doL_put kd, doL_put kd, doL_put ke, h1, h2]
   by_cases c : placeL l d < placeL l e
   ·rw [if_pos c, if_pos c, ins_comm (by omega) pe]
   ·rw [if_neg c, if_neg c, ins_comm (by omega) pd]
  ·obtain ⟨_, _, _, _, pd⟩ := place_parts hnd
   rw [doL_take ke, doL_put kd, doL_put kd, doL_take ke, place_tk he hne (.inr rfl), takeL_ins pd (new_away hne se)]
 ·by_cases ke : e.kind = 1
  ·obtain ⟨_, _, _, _, pe⟩ := place_parts hne'
   rw [doL_put ke, doL_take kd, doL_take kd, doL_put ke, place_tk hd (Ne.symm hne) (.inl se), takeL_ins pe (new_away (Ne.symm hne) (by omega))]
  ·rw [doL_take ke, doL_take kd, doL_take kd, doL_take ke, takes_comm hd he hne se]
theorem doC_of {l : List Ch} {d : Dd} {number : Int} (hc : checkC d = 0) (hn : d.at_ + d.many ≤ cnt l d.seen d.by_) (hl : l.length + d.text.size ≤ 200) (h1 : 1 ≤ number) : doC l d number = 0 := by
 have hm : mayC l d = 0 := by
  rw [mayC, if_neg (fun h => h hc), if_neg (by omega), if_neg (by omega)]
 rw [doC, if_neg (fun h => h hm), if_neg (by omega)]
theorem vw_do {l : List Ch} {e : Dd} {number seen v : Int} (hw : wrB e.by_ = true) (hv : v ≠ e.by_) (hn : seen < number) : vw (doL l e number) seen v = vw l seen v := doL_far hw hv hn
theorem cnt_do {l : List Ch} {e : Dd} {number seen v : Int} (hw : wrB e.by_ = true) (hv : v ≠ e.by_) (hn : seen < number) : cnt (doL l e number) seen v = cnt l seen v := by
 rw [← vw_len, ← vw_len, vw_do hw hv hn]
theorem mine_do {me : Int} {l : List Ch} {e : Dd} {number : Int} (h : Mine me l) (he : number = openN → e.by_ = me) : Mine me (doL l e number) := by
 by_cases ke : e.kind = 1
 ·rw [doL_put ke]
  exact h.ins (fun y hy hi => by rw [(new_parts hy).2.1]; exact he ((new_parts hy).1.symm.trans hi)) _
 ·rw [doL_take ke]
  intro y hy hi
  obtain ⟨x, hx, hxy⟩ := takeL_mem hy
  rcases hxy with rfl | ⟨_, rfl⟩
  ·exact h y hx hi
  ·exact h x hx hi
def onTop : List Ch → List Dd → List Ch
 | l, [] => l
 | l, e :: es => onTop (doL l e openN) es
def okTop : List Ch → List Dd → Prop
 | _, [] => True
 | l, e :: es => doC l e openN = 0 ∧ okTop (doL l e openN) es
theorem onTop_snoc : ∀ (es : List Dd) (l : List Ch) (e : Dd), onTop l (es ++ [e]) = doL (onTop l es) e openN
 | [], _, _ => rfl
 | _ :: es, _, e => onTop_snoc es _ e
theorem behindL_of {least seen by_ : Int} (hs : least ≤ seen) : ∀ (l : List Ch) (n p : Nat), behindL seen by_ n l = some p → behindL seen by_ n (ofL least l) = some (ofL least (l.take p)).length
 | l, 0, p, h => by
  rw [behindL_zero] at h ⊢
  obtain rfl := Option.some.inj h
  rfl
 | [], n + 1, p, h => by cases h
 | x :: r, n + 1, p, h => by
  rw [behindL] at h
  have ec : ∀ t : List Ch, ofL least (x :: t) = if doneB least x = true then ofL least t else x :: ofL least t := fun t => by
   cases hd : doneB least x <;> simp [ofL, hd]
  by_cases hx : seesC seen by_ x = true
  ·rw [if_pos hx] at h
   have hd : ¬ doneB least x = true := fun hd => by rw [done_unseen hs hd] at hx; exact Bool.noConfusion hx
   cases hb : behindL seen by_ n r with
   | none => rw [hb] at h; cases h
   | some q =>
    rw [hb] at h
    obtain rfl := Option.some.inj h
    rw [ec, if_neg hd, behindL, if_pos hx, behindL_of hs r n q hb, List.take_succ_cons, ec, if_neg hd]
    rfl
  ·rw [if_neg hx] at h
   cases hb : behindL seen by_ (n + 1) r with
   | none => rw [hb] at h; cases h
   | some q =>
    rw [hb] at h
    obtain rfl := Option.some.inj h
    rw [List.take_succ_cons, ec, ec]
    by_cases hd : doneB least x = true
    ·rw [if_pos hd, if_pos hd, behindL_of hs r (n + 1) q hb]
    ·rw [if_neg hd, if_neg hd, behindL, if_neg hx, behindL_of hs r (n + 1) q hb]
     rfl
theorem Mine.of {me : Int} {l : List Ch} (h : Mine me l) (least : Int) : Mine me (ofL least l) := fun x hx => h x ((List.mem_filter.1 hx).1)
theorem tk_done {e : Dd} {least number k : Int} {x : Ch} (hn : number = openN ∨ least < number) (h1 : number ≠ 0) : doneB least (tk e number k x) = doneB least x := by
 unfold tk
 split
 ·show decide (markOut number x.out ≠ 0 ∧ markOut number x.out ≤ least) = decide (x.out ≠ 0 ∧ x.out ≤ least)
  unfold markOut
  split
  ·rename_i h
   rw [decide_eq_decide]
   constructor
   ·intro g; omega
   ·intro g; omega
  ·rfl
 ·rfl
theorem takeL_of {e : Dd} {least number : Int} (hs : least ≤ e.seen) (hn : number = openN ∨ least < number) (h1 : number ≠ 0) : ∀ (l : List Ch) (k : Int), ofL least (takeL e number k l) = takeL e number k (ofL least l)
 | [], k => rfl
 | x :: r, k => by
  have ec : ∀ (y : Ch) (t : List Ch), ofL least (y :: t) = if doneB least y = true then ofL least t else y :: ofL least t := fun y t => by
   cases hd : doneB least y <;> simp [ofL, hd]
  rw [takeL_cons, ec, ec, tk_done hn h1, takeL_of hs hn h1 r]
  by_cases hd : doneB least x = true
  ·have hx := done_unseen (by_ := e.by_) hs hd
   rw [if_pos hd, if_pos hd, nx, if_neg (by rw [hx]; simp)]
  ·rw [if_neg hd, if_neg hd, takeL_cons]
theorem ofL_all {least : Int} {x : List Ch} (h : ∀ y ∈ x, y.out = 0) : ofL least x = x := by
 unfold ofL
 rw [List.filter_eq_self]
 intro y hy
 simp [doneB, h y hy]
theorem do_of {l : List Ch} {e : Dd} {least number : Int} (hs : least ≤ e.seen) (hn : number = openN ∨ least < number) (h1 : number ≠ 0) (hm : Mine e.by_ l) (ha : e.at_ ≤ cnt l e.seen e.by_) : ofL least (doL l e number) = doL (ofL least l) e number := by
 by_cases ke : e.kind = 1
 ·obtain ⟨q, hq, hql, eq, _⟩ := place_parts ha
  rw [skip_mine (hm.drop q), Nat.add_zero] at eq
  have e2 : placeL (ofL least l) e = (ofL least (l.take q)).length := by
   rw [placeL, behindL_of hs l _ q hq]
   show _ + skipL e.by_ _ = _
   rw [skip_mine ((hm.of least).drop _), Nat.add_zero]
  rw [doL_put ke, doL_put ke, e2, eq, of_split least l q, ins_at rfl, ins, ofL_app, ofL_app, ofL_all (fun y hy => (new_parts hy).2.2.1)]
 ·rw [doL_take ke, doL_take ke, takeL_of hs hn h1]
theorem doC_clear {l : List Ch} {e : Dd} {least number : Int} (hs : least ≤ e.seen) (h : doC l e number = 0) : doC (ofL least l) e number = 0 := by
 obtain ⟨h1, h2, h3, h4⟩ := doC_zero h
 have := ofL_le least l
 exact doC_of h1 (by rw [cnt_of _ hs]; exact h2) (by omega) h4
theorem of_less {less more : Int} (h : less ≤ more) (l : List Ch) : ofL less (ofL more l) = ofL more l := by
 unfold ofL
 rw [List.filter_eq_self]
 intro x hx
 have h1 := (List.mem_filter.1 hx).2
 simp [doneB] at h1 ⊢
 omega
structure Ackd (n me : Int) (x y : Ch) : Prop where
 c : y.c = x.c
 by_ : y.by_ = x.by_
 no : y.no = x.no
 k : y.k = x.k
 gone : y.gone = x.gone
 inn : y.inn = x.inn ∨ (x.inn = openN ∧ y.inn = n ∧ x.by_ = me)
 out : y.out = x.out ∨ (y.out = n ∧ (x.out = 0 ∨ n < x.out) ∧ tookB x.gone me = true)
theorem Ackd.refl (n me : Int) (x : Ch) : Ackd n me x x := ⟨rfl, rfl, rfl, rfl, rfl, .inl rfl, .inl rfl⟩
def AckL (n me : Int) : List Ch → List Ch → Prop
 | [], [] => True
 | x :: a, y :: b => Ackd n me x y ∧ AckL n me a b
 | _, _ => False
theorem AckL.refl (n me : Int) : ∀ l, AckL n me l l
 | [] => trivial
 | x :: l => ⟨Ackd.refl n me x, AckL.refl n me l⟩
theorem AckL.len {n me : Int} : ∀ {a b : List Ch}, AckL n me a b → a.length = b.length
 | [], [], _ => rfl
 | _ :: _, _ :: _, h => by rw [List.length_cons, List.length_cons, h.2.len]
theorem AckL.app {n me : Int} : ∀ {a b c d : List Ch}, AckL n me a b → AckL n me c d → AckL n me (a ++ c) (b ++ d)
 | [], [], _, _, _, h => h
 | _ :: _, _ :: _, _, _, h, h' => ⟨h.1, h.2.app h'⟩
theorem AckL.take {n me : Int} : ∀ {a b : List Ch} (p : Nat), AckL n me a b → AckL n me (a.take p) (b.take p)
 | _, _, 0, _ => by rw [List.take_zero, List.take_zero]; trivial
 | [], [], _ + 1, _ => trivial
 | _ :: _, _ :: _, p + 1, h => ⟨h.1, h.2.take p⟩
theorem AckL.drop {n me : Int} : ∀ {a b : List Ch} (p : Nat), AckL n me a b → AckL n me (a.drop p) (b.drop p)
 | _, _, 0, h => h
 | [], [], _ + 1, _ => trivial
 | _ :: _, _ :: _, p + 1, h => h.2.drop p
theorem AckL.ins {n me : Int} {a b x y : List Ch} (p : Nat) (h : AckL n me a b) (h' : AckL n me x y) : AckL n me (Go.Proofs.YtcbnnfeelhlapadGreatDoor.ins p x a) (Go.Proofs.YtcbnnfeelhlapadGreatDoor.ins p y b) := (h.take p).app (h'.app (h.drop p))
theorem Ackd.sees {n me seen : Int} {x y : Ch} (h : Ackd n me x y) (_hn : seen < n) : seesC seen me y = seesC seen me x := by
 obtain ⟨c, b, no, k, g, hi, ho⟩ := h
 have e1 : inB y.inn y.by_ seen me = inB x.inn x.by_ seen me := by
  rw [b]
  rcases hi with hi | ⟨_, _, hb⟩
  ·rw [hi]
  ·simp [inB, hb]
 have e2 : outB y.out y.gone seen me = outB x.out x.gone seen me := by
  rw [g]
  rcases ho with ho | ⟨_, _, ht⟩
  ·rw [ho]
  ·simp [outB, ht]
 unfold seesC seesB
 rw [e1, e2]
theorem AckL.behind {n me seen : Int} (hn : seen < n) : ∀ {a b : List Ch} (m : Nat), AckL n me a b → behindL seen me m b = behindL seen me m a
 | _, _, 0, _ => by rw [behindL_zero, behindL_zero]
 | [], [], _ + 1, _ => rfl
 | x :: a, y :: b, m + 1, h => by
  rw [behindL, behindL, h.1.sees hn, h.2.behind hn m, h.2.behind hn (m + 1)]
theorem AckL.cnt {n me seen : Int} (hn : seen < n) : ∀ {a b : List Ch}, AckL n me a b → Go.Proofs.YtcbnnfeelhlapadGreatDoor.cnt b seen me = Go.Proofs.YtcbnnfeelhlapadGreatDoor.cnt a seen me
 | [], [], _ => rfl
 | x :: a, y :: b, h => by rw [cnt_cons, cnt_cons, h.1.sees hn, h.2.cnt hn]
theorem AckL.mine {n me : Int} (hn : n < openN) : ∀ {a b : List Ch}, AckL n me a b → Mine me a → Mine me b
 | [], [], _, _ => fun _ hx => absurd hx (by simp)
 | x :: a, y :: b, h, hm => by
  intro z hz hi
  rcases List.mem_cons.1 hz with rfl | hz
  ·rw [h.1.by_]
   rcases h.1.inn with e | ⟨_, e, _⟩
   ·exact hm x (by simp) (e ▸ hi)
   ·omega
  ·exact h.2.mine hn (fun w hw => hm w (by simp [hw])) z hz hi
theorem AckL.tk {n : Int} {e : Dd} (hn : e.seen < n) : ∀ {a b : List Ch} (k : Int), AckL n e.by_ a b → AckL n e.by_ (takeL e openN k a) (takeL e openN k b)
 | [], [], _, _ => trivial
 | x :: a, y :: b, k, h => by
  rw [takeL_cons, takeL_cons]
  have hs := h.1.sees hn
  have hx : nx e k y = nx e k x := by unfold nx; rw [hs]
  rw [hx]
  refine ⟨?_, h.2.tk hn _⟩
  unfold Go.Proofs.YtcbnnfeelhlapadGreatDoor.tk
  rw [hs]
  by_cases c : seesC e.seen e.by_ x = true ∧ e.at_ ≤ k ∧ k < e.at_ + e.many
  ·rw [if_pos c, if_pos c]
   have ht := sees_took c.1
   obtain ⟨h1, h2, h3, h4, h5, h6, h7⟩ := h.1
   refine ⟨h1, h2, h3, h4, ?_, h6, .inl ?_⟩
   ·show y.gone + _ = x.gone + _
    rw [h5]
   ·show markOut openN y.out = markOut openN x.out
    rw [mark_open, mark_open]
    rcases h7 with h7 | ⟨_, _, h7⟩
    ·exact h7
    ·rw [ht] at h7; exact Bool.noConfusion h7
  ·rw [if_neg c, if_neg c]; exact h.1
theorem AckL.do_ {n : Int} {e : Dd} {a b : List Ch} (hn : e.seen < n) (ho : n < openN) (hm : Mine e.by_ a) (h : AckL n e.by_ a b) : AckL n e.by_ (doL a e openN) (doL b e openN) := by
 by_cases ke : e.kind = 1
 ·have hp : placeL b e = placeL a e := by
   unfold placeL
   rw [h.behind hn]
   cases behindL e.seen e.by_ e.at_.toNat a with
   | none => rfl
   | some p =>
    show p + skipL e.by_ (b.drop p) = p + skipL e.by_ (a.drop p)
    rw [skip_mine (hm.drop p), skip_mine ((h.mine ho hm).drop p)]
  rw [doL_put ke, doL_put ke, hp]
  exact h.ins _ (AckL.refl _ _ _)
 ·rw [doL_take ke, doL_take ke]
  exact h.tk hn 0
theorem ack_new (d : Dd) (n : Int) : ∀ (k : Nat) (t : List UInt8), AckL n d.by_ (newFrom d openN k t) (newFrom d n k t)
 | _, [] => trivial
 | k, _ :: t => ⟨⟨rfl, rfl, rfl, rfl, rfl, .inr ⟨rfl, rfl, rfl⟩, .inl rfl⟩, ack_new d n (k + 1) t⟩
theorem ack_take {d : Dd} {n : Int} (hw : wrB d.by_ = true) (ho : n ≠ openN) : ∀ (l : List Ch) (k : Int), AckL n d.by_ (takeL d openN k l) (takeL d n k l)
 | [], _ => trivial
 | x :: r, k => by
  rw [takeL_cons, takeL_cons]
  refine ⟨?_, ack_take hw ho r _⟩
  unfold tk
  by_cases c : seesC d.seen d.by_ x = true ∧ d.at_ ≤ k ∧ k < d.at_ + d.many
  ·rw [if_pos c, if_pos c]
   refine ⟨rfl, rfl, rfl, rfl, rfl, .inl rfl, ?_⟩
   show markOut n x.out = markOut openN x.out ∨ (markOut n x.out = n ∧ (markOut openN x.out = 0 ∨ n < markOut openN x.out) ∧ tookB (x.gone + 2 ^ d.by_.toNat) d.by_ = true)
   rw [mark_open]
   unfold markOut
   by_cases hc : x.out = 0 ∨ n < x.out
   ·rw [if_pos ⟨ho, hc⟩]
    refine .inr ⟨rfl, hc, ?_⟩
    rw [took_add hw (sees_took c.1)]
    simp
   ·rw [if_neg (fun e => hc e.2)]
    exact .inl rfl
  ·rw [if_neg c, if_neg c]; exact Ackd.refl _ _ _
theorem ack_do {d : Dd} {n : Int} {l : List Ch} (hw : wrB d.by_ = true) (ho : n ≠ openN) : AckL n d.by_ (doL l d openN) (doL l d n) := by
 by_cases kd : d.kind = 1
 ·rw [doL_put kd, doL_put kd]
  exact (AckL.refl _ _ _).ins _ (ack_new d n 0 _)
 ·rw [doL_take kd, doL_take kd]
  exact ack_take hw ho l 0
def Upto (me s : Int) (l : List Ch) : Prop := ∀ x ∈ l, (x.inn ≤ s ∨ x.by_ = me) ∧ x.out ≤ s
theorem upto_do {me s : Int} {e : Dd} {l : List Ch} (h : Upto me s l) (hb : e.by_ = me) (h0 : 0 ≤ s) : Upto me s (doL l e openN) := by
 by_cases ke : e.kind = 1
 ·rw [doL_put ke]
  intro y hy
  rcases ins_mem.1 hy with hy | hy
  ·obtain ⟨_, p2, p3, _⟩ := new_parts hy
   exact ⟨.inr (p2.trans hb), by omega⟩
  ·exact h y hy
 ·rw [doL_take ke]
  intro y hy
  obtain ⟨x, hx, hxy⟩ := takeL_mem hy
  rcases hxy with rfl | ⟨_, rfl⟩
  ·exact h y hx
  ·refine ⟨(h x hx).1, ?_⟩
   show markOut openN x.out ≤ s
   rw [mark_open]; exact (h x hx).2
theorem upto_top {me s : Int} (h0 : 0 ≤ s) : ∀ (es : List Dd) {l : List Ch}, Upto me s l → (∀ e ∈ es, e.by_ = me) → Upto me s (onTop l es)
 | [], _, h, _ => h
 | e :: es, _, h, he => upto_top h0 es (upto_do h (he e (by simp)) h0) (fun x hx => he x (by simp [hx]))
theorem vw_ack {me s : Int} : ∀ {a b : List Ch}, AckL (s + 1) me a b → Upto me s a → vw b (s + 1) me = vw a s me
 | [], [], _, _ => rfl
 | x :: a, y :: b, h, hu => by
  have ih := vw_ack h.2 (fun z hz => hu z (by simp [hz]))
  obtain ⟨hi, ho⟩ := hu x (by simp)
  obtain ⟨c, b', _, _, g, gi, go⟩ := h.1
  have e1 : inB y.inn y.by_ (s + 1) me = true := by
   rw [inB, decide_eq_true_eq, b']
   rcases hi with hi | hi
   ·rcases gi with gi | ⟨_, gi, _⟩
    ·exact .inl (by omega)
    ·exact .inl (by omega)
   ·exact .inr hi
  have e2 : inB x.inn x.by_ s me = true := by
   rw [inB, decide_eq_true_eq]; exact hi
  have e3 : outB y.out y.gone (s + 1) me = outB x.out x.gone s me := by
   rw [g]
   rcases go with go | ⟨_, _, ht⟩
   ·have : decide (x.out ≠ 0 ∧ x.out ≤ s + 1) = decide (x.out ≠ 0 ∧ x.out ≤ s) := by
     rw [decide_eq_decide]
     constructor <;> intro hh <;> exact ⟨hh.1, by omega⟩
    rw [go, outB, outB, this]
   ·simp [outB, ht]
  have hs : seesC (s + 1) me y = seesC s me x := by
   unfold seesC seesB
   rw [e1, e2, e3]
  cases hx : seesC s me x
  ·rw [vw_cons_no _ (hs.trans hx), vw_cons_no _ hx, ih]
  ·rw [vw_cons_yes _ (hs.trans hx), vw_cons_yes _ hx, ih, c]
end Go.Proofs.YtcbnnfeelhlapadGreatDoor

/-
  The contract of chars.Behind: the place behind the n-th byte that one sees.
-/
namespace Go.Proofs.YtcbnnfeelhlapadGreatDoor
set_option maxRecDepth 20000
open Go.RowKit
structure BInv (W : World) (seen by_ nn met : Int) (w : World) : Prop where
 below : Below W.heap.size W w
 size : W.heap.size + 4 ≤ w.heap.size
 c0 : w.cell? ⟨W.heap.size, 0, none⟩ = some (.int .i64 seen)
 c1 : w.cell? ⟨W.heap.size + 1, 0, none⟩ = some (.int .i64 by_)
 c2 : w.cell? ⟨W.heap.size + 2, 0, none⟩ = some (.int .i64 nn)
 c3 : w.cell? ⟨W.heap.size + 3, 0, none⟩ = some (.int .i64 met)
 f3 : w.frozen? ⟨W.heap.size + 3, 0, none⟩ = false
theorem BInv.after {W w w' : World} {seen by_ nn met : Int} (h : BInv W seen by_ nn met w) (hb : Below w.heap.size w w') : BInv W seen by_ nn met w' := by
 have hs := h.size
 obtain ⟨hc, hf⟩ := bcell hb
 refine ⟨h.below.trans (hb.mono (by omega)), Nat.le_trans hs hb.size, ?_, ?_, ?_, ?_, ?_⟩
 ·rw [hc _ _ (by omega)]; exact h.c0
 ·rw [hc _ _ (by omega)]; exact h.c1
 ·rw [hc _ _ (by omega)]; exact h.c2
 ·rw [hc _ _ (by omega)]; exact h.c3
 ·rw [hf _ _ (by omega)]; exact h.f3
theorem BInv.store {W w : World} {seen by_ nn met : Int} (h : BInv W seen by_ nn met w) (m : Int) : BInv W seen by_ nn m (w.setCell ⟨W.heap.size + 3, 0, none⟩ (.int .i64 m)) := by
 have hs := h.size
 refine ⟨h.below.setCell (by simp) _, by simpa [World.setCell] using hs, ?_, ?_, ?_, ?_, ?_⟩
 ·rw [World.cell?_of_block (w := w) (Below.heap_setCell _ _ _ _ (by simp))]; exact h.c0
 ·rw [World.cell?_of_block (w := w) (Below.heap_setCell _ _ _ _ (by simp))]; exact h.c1
 ·rw [World.cell?_of_block (w := w) (Below.heap_setCell _ _ _ _ (by simp))]; exact h.c2
 ·have := h.c3
  simp [go_sem, this]
 ·have := h.f3
  simp [go_sem, this]
def stepM (seen by_ : Int) (x : Ch) (met : Int) : Int := if seesC seen by_ x = true then met + 1 else met
def stepH (seen by_ : Int) (x : Ch) (met nn : Int) : Bool := seesC seen by_ x && (met + 1 == nn)
set_option maxHeartbeats 400000 in
theorem behind1_any (x : Ch) (W : World) (seen by_ nn met : Int) (w : World) (h : BInv W seen by_ nn met w) (h0 : 0 ≤ met) (h1 : met ≤ 281474976710656) :
 Calls Tryz.prog 238 (#[chV x] ++ #[.pointer (some ⟨W.heap.size, 0, none⟩), .pointer (some ⟨W.heap.size + 1, 0, none⟩), .pointer (some ⟨W.heap.size + 3, 0, none⟩), .pointer (some ⟨W.heap.size + 2, 0, none⟩)]) w
  fun e w' => e = .returned (.bool (stepH seen by_ x met nn)) ∧ BInv W seen by_ nn (stepM seen by_ x met) w' := by
 have H : Hid (BInv W seen by_ nn met w) := h
 have hs := h.size
 have c0 : ∀ o, (w.alloc o).cell? ⟨W.heap.size, 0, none⟩ = some (.int .i64 seen) := fun o => by rw [World.cell?_alloc_past _ _ _ (show W.heap.size < w.heap.size by omega)]; exact h.c0
 have c1 : ∀ o, (w.alloc o).cell? ⟨W.heap.size + 1, 0, none⟩ = some (.int .i64 by_) := fun o => by rw [World.cell?_alloc_past _ _ _ (show W.heap.size + 1 < w.heap.size by omega)]; exact h.c1
 clear h
 go_enter Tryz.func238, Tryz.ntmps238
 go_wp2_with fail
 refine (sees_any x _ _ _).mono ?_
 rintro e w1 ⟨rfl, hb1⟩
 have hb2 : Below w.heap.size w w1 := bla ((Below.refl _ _).alloc (Nat.le_refl _) _) hb1
 have H1 : Hid (BInv W seen by_ nn met w1) := H.out.after hb2
 have g2 := H1.out.c2
 have g3 := H1.out.c3
 have gf := H1.out.f3
 clear c0 c1 hb1 hb2 H
 cases hc : seesB x.by_ x.inn x.out x.gone seen by_
 ·go_wp2
  go_ret
  have hx : seesC seen by_ x = false := hc
  exact ⟨ret_b (by simp [stepH, hx]), by simp only [stepM, hx]; exact H1.out⟩
 ·have H2 : Hid (BInv W seen by_ nn (met + 1) (w1.setCell ⟨W.heap.size + 3, 0, none⟩ (.int .i64 (met + 1)))) := H1.out.store _
  have k2 := H2.out.c2
  have k3 := H2.out.c3
  go_wp2
  go_ret
  have hx : seesC seen by_ x = true := hc
  exact ⟨ret_b (by simp [stepH, hx]), by simp only [stepM, hx]; exact H2.out⟩
def hitAt (l : List Ch) (seen by_ nn : Int) (k : Nat) : Bool :=
 match l[k]? with
 | some x => stepH seen by_ x (cnt (l.take k) seen by_) nn
 | none => false
def BehindIs (l : List Ch) (seen by_ nn r : Int) : Prop :=
 (nn = 0 ∧ r = 0) ∨ (nn ≠ 0 ∧ ((∃ k : Nat, k < l.length ∧ (∀ j, j < k → hitAt l seen by_ nn j = false) ∧ hitAt l seen by_ nn k = true ∧ r = k + 1) ∨ ((∀ j, j < l.length → hitAt l seen by_ nn j = false) ∧ r = -1)))
theorem stepM_take (l : List Ch) (seen by_ : Int) (k : Nat) (h : k < l.length) : stepM seen by_ l[k] (cnt (l.take k) seen by_) = cnt (l.take (k + 1)) seen by_ := by
 rw [take_snoc l k h, cnt_snoc]
 unfold stepM
 split <;> omega
theorem behind_step (W : World) (b off : Nat) (l : List Ch) (seen by_ nn : Int) (hl : l.length ≤ 281474976710656) (hr : Row W b off l) :
 Step 238 #[.pointer (some ⟨W.heap.size, 0, none⟩), .pointer (some ⟨W.heap.size + 1, 0, none⟩), .pointer (some ⟨W.heap.size + 3, 0, none⟩), .pointer (some ⟨W.heap.size + 2, 0, none⟩)] b off l
  (fun k w => BInv W seen by_ nn (cnt (l.take k) seen by_) w) (hitAt l seen by_ nn) := by
 refine ⟨fun k w h => hr.below h.below, fun k hk w h => ?_⟩
 have hb := cnt_bd (l.take k) seen by_
 have hle : (l.take k).length ≤ l.length := by simp; omega
 refine (behind1_any l[k] W seen by_ nn (cnt (l.take k) seen by_) w h hb.1 (by omega)).mono ?_
 rintro e w' ⟨rfl, h'⟩
 rw [stepM_take l seen by_ k hk] at h'
 refine ⟨ret_b ?_, h'⟩
 unfold hitAt
 rw [List.getElem?_eq_getElem hk]
theorem binv_start (w : World) (seen by_ nn : Int) : BInv w seen by_ nn 0 ((((w.alloc (.cells #[.int .i64 seen] 3)).alloc (.cells #[.int .i64 by_] 3)).alloc (.cells #[.int .i64 nn] 3)).alloc (.cells #[.int .i64 0] 3)) := by
 refine ⟨?_, by simp, ?_, ?_, ?_, ?_, ?_⟩
 ·exact ((((Below.refl _ _).alloc (Nat.le_refl _) _).alloc (by simp) _).alloc (by simp; omega) _).alloc (by simp; omega) _
 ·simp [go_sem, World.cell?_alloc_past]
 ·simp [go_sem, World.cell?_alloc_past]
 ·simp [go_sem, World.cell?_alloc_past]
 ·simp [go_sem]
 ·simp [go_sem]
theorem callBehind1 : ∀ args w, Sem.run Tryz.prog (callFunc 238 args) w = .ok (.enter 238 args) w := fun _ _ => by kernel_rfl
set_option maxHeartbeats 400000 in
theorem behind_some (b off len cap : Nat) (l : List Ch) (seen by_ n : Int) (w : World) (hl : l.length = len) (hm : len ≤ 281474976710656) (hr : Row w b off l) :
 Calls Tryz.prog 232 #[.slice (some ⟨b, off, none⟩) len cap, .int .i64 seen, .int .i64 by_, .int .i64 n] w fun e w' =>
  ∃ r, e = .returned (.int .i64 r) ∧ BehindIs l seen by_ n r ∧ Below w.heap.size w w' := by
 by_cases h0 : n = 0
 ·have h0' : (n == 0) = true := by simp [h0]
  have H0 : Hid (n = 0) := h0
  clear h0
  go_enter Tryz.func232, Tryz.ntmps232
  go_wp2
  go_ret
  exact ⟨0, rfl, .inl ⟨H0.out, rfl⟩, (((Below.refl _ _).alloc (Nat.le_refl _) _).alloc (by simp) _).alloc (by simp; omega) _⟩
 ·have h0' : (n == 0) = false := by simp [h0]
  have H0 : Hid (n ≠ 0) := h0
  have HL : Hid (l.length = len) := hl
  have HS : Hid _ := binv_start w seen by_ n
  have HT : Hid _ := behind_step w b off l seen by_ n (by omega) hr
  clear h0 hl hr
  have hmf : ∀ (fn : Fn) (first cap : Array Value) (w : World), (Instr.makeFunc fn first cap).run Tryz.prog w = .ok (.func fn first cap) w := fun _ _ _ _ => rfl
  go_enter Tryz.func232, Tryz.ntmps232
  go_wp2_with fail
  rw [show w.heap.size + 1 + 1 + 1 = w.heap.size + 3 from rfl, show w.heap.size + 1 + 1 = w.heap.size + 2 from rfl]
  refine (indexFunc_some 238 #[.pointer (some ⟨w.heap.size, 0, none⟩), .pointer (some ⟨w.heap.size + 1, 0, none⟩), .pointer (some ⟨w.heap.size + 3, 0, none⟩), .pointer (some ⟨w.heap.size + 2, 0, none⟩)] b off len cap l _ _ _ HL.out hm callBehind1 HT.out HS.out).mono ?_
  intro e w1 hres
  have H1 : Hid _ := hres
  clear hres HT HS
  rcases H1.out with ⟨k, hk, hno, hyes, rfl, hI⟩ | ⟨hno, rfl, hI⟩
  ·have H2 : Hid _ := hno
   have H3 : Hid _ := hyes
   have H4 : Hid _ := hI
   clear H1 hno hyes hI
   go_wp2
   go_ret
   exact ⟨(k : Int) + 1, rfl, .inr ⟨H0.out, .inl ⟨k, by rw [HL.out]; exact hk, H2.out, H3.out, rfl⟩⟩, H4.out.below⟩
  ·have H2 : Hid _ := hno
   have H4 : Hid _ := hI
   clear H1 hno hI
   go_wp2
   go_ret
   exact ⟨-1, rfl, .inr ⟨H0.out, .inr ⟨by rw [HL.out]; exact H2.out, rfl⟩⟩, H4.out.below⟩
end Go.Proofs.YtcbnnfeelhlapadGreatDoor

/-
  The law's own example (charsBegun) is met, in every world.
-/
namespace Go.Proofs.YtcbnnfeelhlapadGreatDoor
open Go.RowKit
theorem own_string {w : World} {base : Nat} {v : Value} {zs : List Int} (h : w.ownsRow base 5 1 v zs.length (cells8 zs)) :
 (convert 42 9 v).run Tryz.prog w = .ok (.string (strOfNums zs)) w := by
 obtain ⟨h1, h2⟩ := h
 rcases h2 with ⟨rfl, hn⟩ | ⟨g, cap, cur, rfl, hg, hh, hle, hm, hsz, hx⟩
 ·obtain rfl : zs = [] := List.length_eq_zero_iff.1 hn
  rw [run_convert_bytes_nil w 42 5 Tryz.underlying42 Tryz.underlying5 0 0 9 Tryz.underlying9]
  rfl
 ·refine run_convert_bytes_arg w 42 5 Tryz.underlying42 Tryz.underlying5 g 0 zs.length cap zs rfl ?_ 9 Tryz.underlying9
  intro i hi
  have hown : w.ownsRow base 5 1 (.slice (some ⟨g, 0, none⟩) zs.length cap) zs.length (cells8 zs) := ⟨h1, .inr ⟨g, cap, cur, rfl, hg, hh, hle, hm, hsz, hx⟩⟩
  have := hown.cellAt i (by omega)
  rw [Nat.zero_add, this]
  simp [cells8, List.getElem?_eq_getElem hi, List.getD]
end Go.Proofs.YtcbnnfeelhlapadGreatDoor
