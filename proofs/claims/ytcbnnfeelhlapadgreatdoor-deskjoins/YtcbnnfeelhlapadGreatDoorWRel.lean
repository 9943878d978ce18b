/-
  Plain mathematics of what a writer keeps of its open deeds: which bytes each took away, and what it tells by them later. No walk.
-/
import Derived.Test.YtcbnnfeelhlapadGreatDoorRPlain
namespace Go.Proofs.YtcbnnfeelhlapadGreatDoor
def key4 (x : Ch) : Int × Int × Int × Int := (x.inn, x.by_, x.no, x.k)
def tookL (l : List Ch) (d : Dd) : List Ch := ((l.filter (seesC d.seen d.by_)).drop d.at_.toNat).take d.many.toNat
def hitB (t : List Ch) (x : Ch) : Bool := t.any fun y => decide (y.inn = x.inn) && sameB y x
theorem hits_iff {t : List Ch} {x : Ch} : hitB t x = true ↔ key4 x ∈ t.map key4 := by
 rw [hitB, List.any_eq_true, List.mem_map]
 constructor
 ·rintro ⟨y, hy, h⟩
  refine ⟨y, hy, ?_⟩
  simp [sameB] at h
  simp [key4, h]
 ·rintro ⟨y, hy, h⟩
  refine ⟨y, hy, ?_⟩
  simp [key4] at h
  simp [sameB, h]
theorem hit_key {t : List Ch} {x y : Ch} (h : key4 x = key4 y) : hitB t x = hitB t y := by
 rw [Bool.eq_iff_iff, hits_iff, hits_iff, h]
theorem apart_inj {l : List Ch} (ha : Apart l) {x y : Ch} (hx : x ∈ l) (hy : y ∈ l) (h : x.by_ = y.by_ ∧ x.no = y.no ∧ x.k = y.k) : x = y := by
 obtain ⟨i, hi, rfl⟩ := List.getElem_of_mem hx
 obtain ⟨j, hj, rfl⟩ := List.getElem_of_mem hy
 rcases Nat.lt_trichotomy i j with c | c | c
 ·exact absurd h (List.pairwise_iff_getElem.1 ha i j hi hj c)
 ·subst c; rfl
 ·exact absurd ⟨h.1.symm, h.2.1.symm, h.2.2.symm⟩ (List.pairwise_iff_getElem.1 ha j i hj hi c)
theorem hit_took {l t u : List Ch} (ha : Apart l) (hu : ∀ x ∈ u, x ∈ l) (h : t.map key4 = u.map key4) {x : Ch} (hx : x ∈ l) : hitB t x = true ↔ x ∈ u := by
 rw [hits_iff, h, List.mem_map]
 constructor
 ·rintro ⟨y, hy, e⟩
  simp only [key4, Prod.mk.injEq] at e
  rw [← apart_inj ha (hu y hy) hx e.2]; exact hy
 ·intro hx'
  exact ⟨x, hx', rfl⟩
def tkB (d : Dd) (k : Int) (x : Ch) : Prop := seesC d.seen d.by_ x = true ∧ d.at_ ≤ k ∧ k < d.at_ + d.many
instance (d : Dd) (k : Int) (x : Ch) : Decidable (tkB d k x) := inferInstanceAs (Decidable (_ ∧ _))
def tookR (d : Dd) : Int → List Ch → List Ch
 | _, [] => []
 | k, x :: r => if tkB d k x then x :: tookR d (nx d k x) r else tookR d (nx d k x) r
theorem tk_eq (d : Dd) (n k : Int) (x : Ch) : tk d n k x = if tkB d k x then mark d.by_ n x else x := rfl
theorem tookR_eq (d : Dd) (ha : 0 ≤ d.at_) (hm : 0 ≤ d.many) : ∀ (l : List Ch) (k : Nat), tookR d k l = ((l.filter (seesC d.seen d.by_)).drop (d.at_.toNat - k)).take (d.many.toNat - (k - d.at_.toNat))
 | [], k => by simp [tookR]
 | x :: r, k => by
  have ih := tookR_eq d ha hm r
  rw [tookR]
  by_cases hx : seesC d.seen d.by_ x = true
  ·rw [List.filter_cons_of_pos hx]
   have e : nx d (k : Int) x = ((k + 1 : Nat) : Int) := by rw [nx, if_pos hx]; omega
   rw [e, ih (k + 1)]
   by_cases h1 : d.at_ ≤ k
   ·have z : d.at_.toNat - k = 0 := by omega
    have z' : d.at_.toNat - (k + 1) = 0 := by omega
    rw [z, z', List.drop_zero, List.drop_zero]
    by_cases h2 : (k : Int) < d.at_ + d.many
    ·rw [if_pos ⟨hx, h1, h2⟩]
     have : d.many.toNat - (k - d.at_.toNat) = d.many.toNat - (k + 1 - d.at_.toNat) + 1 := by omega
     rw [this, List.take_succ_cons]
    ·rw [if_neg (fun h => h2 h.2.2)]
     have h3 : d.many.toNat - (k - d.at_.toNat) = 0 := by omega
     have h4 : d.many.toNat - (k + 1 - d.at_.toNat) = 0 := by omega
     rw [h3, h4, List.take_zero, List.take_zero]
   ·rw [if_neg (fun h => h1 h.2.1)]
    have h3 : d.at_.toNat - k = d.at_.toNat - (k + 1) + 1 := by omega
    have h4 : k - d.at_.toNat = k + 1 - d.at_.toNat := by omega
    rw [h3, List.drop_succ_cons, h4]
  ·have e : nx d (k : Int) x = (k : Int) := by rw [nx, if_neg hx]
   rw [if_neg (fun h => hx h.1), List.filter_cons_of_neg hx, e, ih k]
theorem tookL_eq {l : List Ch} {d : Dd} (ha : 0 ≤ d.at_) (hm : 0 ≤ d.many) : tookL l d = tookR d 0 l := by
 have := tookR_eq d ha hm l 0
 simp only [Nat.sub_zero, Nat.zero_sub] at this
 exact this.symm
theorem tookR_sub {d : Dd} : ∀ {l : List Ch} {k : Int} {x : Ch}, x ∈ tookR d k l → x ∈ l
 | [], _, _, h => h
 | y :: r, k, x, h => by
  rw [tookR] at h
  split at h
  ·rcases List.mem_cons.1 h with rfl | h
   ·exact List.mem_cons_self ..
   ·exact List.mem_cons_of_mem _ (tookR_sub h)
  ·exact List.mem_cons_of_mem _ (tookR_sub h)
theorem tookL_none {l : List Ch} {d : Dd} (h : d.many = 0) : tookL l d = [] := by simp [tookL, h]
theorem took_none {l t : List Ch} {d : Dd} (h : d.many = 0) (ht : t.map key4 = (tookL l d).map key4) : t = [] := by
 rw [tookL_none h] at ht
 simpa using ht
theorem tail_in {d : Dd} {k : Int} {x y : Ch} {r : List Ch} (h : y ∈ tookR d (nx d k x) r) : y ∈ tookR d k (x :: r) := by
 rw [tookR]
 split
 ·exact List.mem_cons_of_mem _ h
 ·exact h
theorem tail_out {d : Dd} {k : Int} {x y : Ch} {r : List Ch} (ha : Apart (x :: r)) (hy : y ∈ r) (h : y ∈ tookR d k (x :: r)) : y ∈ tookR d (nx d k x) r := by
 rw [tookR] at h
 split at h
 ·rcases List.mem_cons.1 h with rfl | h
  ·exact absurd ⟨rfl, rfl, rfl⟩ ((List.pairwise_cons.1 ha).1 y hy)
  ·exact h
 ·exact h
theorem head_in {d : Dd} {k : Int} {x : Ch} {r : List Ch} (h : tkB d k x) : x ∈ tookR d k (x :: r) := by
 rw [tookR, if_pos h]; exact List.mem_cons_self ..
theorem head_out {d : Dd} {k : Int} {x : Ch} {r : List Ch} (ha : Apart (x :: r)) (h : ¬ tkB d k x) : x ∉ tookR d k (x :: r) := by
 rw [tookR, if_neg h]
 intro hx
 exact absurd ⟨rfl, rfl, rfl⟩ ((List.pairwise_cons.1 ha).1 x (tookR_sub hx))
theorem take_ack {d : Dd} {n m : Int} {f : Ch → Ch} : ∀ (l : List Ch) (k : Int), Apart l → (∀ x ∈ tookR d k l, f (mark d.by_ m x) = mark d.by_ n x) → (∀ x ∈ l, x ∉ tookR d k l → f x = x) → (takeL d m k l).map f = takeL d n k l
 | [], _, _, _, _ => rfl
 | x :: r, k, ha, h1, h2 => by
  rw [takeL_cons, takeL_cons, List.map_cons, take_ack r (nx d k x) (List.pairwise_cons.1 ha).2 (fun y hy => h1 y (tail_in hy)) (fun y hy hn => h2 y (by simp [hy]) (fun e => hn (tail_out ha hy e)))]
  congr 1
  rw [tk_eq, tk_eq]
  by_cases c : tkB d k x
  ·rw [if_pos c, if_pos c]; exact h1 x (head_in c)
  ·rw [if_neg c, if_neg c]; exact h2 x (by simp) (head_out ha c)
structure Nums (me : Int) (l : List Ch) (es : List Dd) : Prop where
 ap : Apart l
 low : ∀ x ∈ l, x.by_ = me → ∀ e ∈ es, x.no < e.no
 up : es.Pairwise fun a b => a.no < b.no
 by_ : ∀ e ∈ es, e.by_ = me
theorem apart_put {l : List Ch} {d : Dd} {n : Int} {p : Nat} (ha : Apart l) (hl : ∀ x ∈ l, x.by_ = d.by_ → x.no < d.no) : Apart (ins p (newL d n) l) := by
 have hpart := ha
 rw [Apart, ← List.take_append_drop p l, List.pairwise_append] at hpart
 have hdiff : ∀ x ∈ l, ∀ y ∈ newL d n, ¬ (x.by_ = y.by_ ∧ x.no = y.no ∧ x.k = y.k) := by
  rintro x hx y hy ⟨h1, h2, _⟩
  have hp := new_parts hy
  have := hl x hx (h1.trans hp.2.1)
  rw [hp.2.2.2.2] at h2
  omega
 rw [Apart, ins, List.pairwise_append, List.pairwise_append]
 refine ⟨hpart.1, ⟨pair_new d n 0 _, hpart.2.1, fun y hy x hx e => hdiff x (List.mem_of_mem_drop hx) y hy ⟨e.1.symm, e.2.1.symm, e.2.2.symm⟩⟩, fun x hx y hy => ?_⟩
 rcases List.mem_append.1 hy with hy | hy
 ·exact hdiff x (List.mem_of_mem_take hx) y hy
 ·exact hpart.2.2 x hx y hy
theorem mem_do {l : List Ch} {d : Dd} {n : Int} {y : Ch} (h : y ∈ doL l d n) : y ∈ newL d n ∨ ∃ x ∈ l, y.by_ = x.by_ ∧ y.no = x.no ∧ y.k = x.k ∧ y.inn = x.inn ∧ (y = x ∨ (seesC d.seen d.by_ x = true ∧ y = mark d.by_ n x)) := by
 by_cases k : d.kind = 1
 ·rw [doL_put k] at h
  rcases ins_mem.1 h with h | h
  ·exact .inl h
  ·exact .inr ⟨y, h, rfl, rfl, rfl, rfl, .inl rfl⟩
 ·rw [doL_take k] at h
  obtain ⟨x, hx, hxy⟩ := takeL_mem h
  refine .inr ⟨x, hx, ?_⟩
  rcases hxy with rfl | ⟨hs, rfl⟩
  ·exact ⟨rfl, rfl, rfl, rfl, .inl rfl⟩
  ·exact ⟨rfl, rfl, rfl, rfl, .inr ⟨hs, rfl⟩⟩
theorem Nums.next {me : Int} {l : List Ch} {e : Dd} {es : List Dd} (h : Nums me l (e :: es)) (n : Int) : Nums me (doL l e n) es := by
 have hup := List.pairwise_cons.1 h.up
 refine ⟨?_, ?_, hup.2, fun x hx => h.by_ x (by simp [hx])⟩
 ·by_cases k : e.kind = 1
  ·rw [doL_put k]
   exact apart_put h.ap (fun x hx hb => h.low x hx (hb.trans (h.by_ e (by simp))) e (by simp))
  ·rw [doL_take k]; exact takeL_pair h.ap
 ·intro y hy hb x hx
  rcases mem_do hy with hy | ⟨z, hz, h1, h2, _⟩
  ·rw [(new_parts hy).2.2.2.2]; exact hup.1 x hx
  ·rw [h2]; exact h.low z hz (h1.symm.trans hb) x (by simp [hx])
def tkTop : List Ch → List Dd → List (List Ch) → Prop
 | _, [], [] => True
 | l, e :: es, t :: ts => t.map key4 = (tookL l e).map key4 ∧ tkTop (doL l e openN) es ts
 | _, _, _ => False
theorem tkTop_len : ∀ {es : List Dd} {ts : List (List Ch)} {l : List Ch}, tkTop l es ts → ts.length = es.length
 | [], [], _, _ => rfl
 | _ :: _, _ :: _, _, h => by rw [List.length_cons, List.length_cons, tkTop_len h.2]
 | [], _ :: _, _, h => h.elim
 | _ :: _, [], _, h => h.elim
theorem tkTop_snoc : ∀ {es : List Dd} {ts : List (List Ch)} {l : List Ch} (e : Dd), tkTop l es ts → tkTop l (es ++ [e]) (ts ++ [tookL (onTop l es) e])
 | [], [], _, _, _ => ⟨rfl, trivial⟩
 | _ :: _, _ :: _, _, e, h => ⟨h.1, tkTop_snoc e h.2⟩
 | [], _ :: _, _, _, h => h.elim
 | _ :: _, [], _, _, h => h.elim
theorem keys_part {a b : List Ch} (h : a.map key4 = b.map key4) (i j : Nat) : ((a.drop i).take j).map key4 = ((b.drop i).take j).map key4 := by
 rw [List.map_take, List.map_drop, h, List.map_take, List.map_drop]
theorem sees_far {d : Dd} {n s v : Int} (hw : wrB d.by_ = true) (hv : v ≠ d.by_) (hn : s < n) (l : List Ch) : ((doL l d n).filter (seesC s v)).map key4 = (l.filter (seesC s v)).map key4 := by
 by_cases k : d.kind = 1
 ·rw [doL_put k, ins, List.filter_append, List.filter_append]
  have e : (newL d n).filter (seesC s v) = [] := by
   rw [List.filter_eq_nil_iff]
   intro y hy
   rw [new_away (Ne.symm hv) hn y hy]; simp
  rw [e, List.nil_append, ← List.filter_append, List.take_append_drop]
 ·rw [doL_take k]
  have key : ∀ (l : List Ch) (k : Int), ((takeL d n k l).filter (seesC s v)).map key4 = (l.filter (seesC s v)).map key4 := by
   intro l
   induction l with
   | nil => intro k; rfl
   | cons x r ih =>
    intro k
    have hs : seesC s v (tk d n k x) = seesC s v x := tk_far hw hv (.inl hn)
    have hk : key4 (tk d n k x) = key4 x := by
     obtain ⟨p1, p2, _, p4, p5⟩ := tk_parts d n k x
     simp only [key4, p1, p2, p4, p5]
    rw [takeL_cons, List.filter_cons, List.filter_cons, hs]
    cases seesC s v x
    ·simpa using ih _
    ·simp [hk, ih]
  exact key l 0
theorem took_far {d e : Dd} {n : Int} (hw : wrB d.by_ = true) (hv : e.by_ ≠ d.by_) (hn : e.seen < n) (l : List Ch) : (tookL (doL l d n) e).map key4 = (tookL l e).map key4 := keys_part (sees_far hw hv hn l) _ _
theorem tkTop_other {me n : Int} {d : Dd} (hne : d.by_ ≠ me) (sd : d.seen < n) (ho : n < openN) : ∀ (es : List Dd) (ts : List (List Ch)) (l : List Ch), Mine me l → (∀ e ∈ es, e.by_ = me ∧ e.seen < n) → fitTop l es → Fit l d → tkTop l es ts → tkTop (doL l d n) es ts
 | [], [], _, _, _, _, _, _ => trivial
 | e :: es, t :: ts, l, hm, he, hk, h, ht => by
  obtain ⟨rfl, se⟩ := he e (by simp)
  have we := fit_wr hk.1
  have wd := fit_wr h
  have ed : cnt (doL l e openN) d.seen d.by_ = cnt l d.seen d.by_ := cnt_do we hne (by omega)
  have := tkTop_other hne sd ho es ts (doL l e openN) (mine_do hm (fun _ => rfl)) (fun x hx => he x (by simp [hx])) hk.2 ⟨h.1, by rw [ed]; exact h.2⟩ ht.2
  rw [do_comm wd we hne hm sd se ho (fit_at h) (fit_at hk.1)] at this
  exact ⟨by rw [took_far wd (Ne.symm hne) se]; exact ht.1, this⟩
 | [], _ :: _, _, _, _, _, _, h => h.elim
 | _ :: _, [], _, _, _, _, _, h => h.elim
theorem tkTop_clear {me least : Int} : ∀ (es : List Dd) (ts : List (List Ch)) (l : List Ch), Mine me l → (∀ e ∈ es, e.by_ = me ∧ least ≤ e.seen) → fitTop l es → tkTop l es ts → tkTop (ofL least l) es ts
 | [], [], _, _, _, _, _ => trivial
 | e :: es, t :: ts, l, hm, he, hk, ht => by
  obtain ⟨rfl, se⟩ := he e (by simp)
  have := tkTop_clear es ts (doL l e openN) (mine_do hm (fun _ => rfl)) (fun x hx => he x (by simp [hx])) hk.2 ht.2
  rw [do_of (number := openN) se (.inl rfl) (by decide) hm (fit_at hk.1)] at this
  refine ⟨?_, this⟩
  rw [tookL, sees_of se]; exact ht.1
 | [], _ :: _, _, _, _, _, h => h.elim
 | _ :: _, [], _, _, _, _, h => h.elim
def numF (no n : Int) (x : Ch) : Ch := if x.inn = openN ∧ x.no = no then ⟨x.c, x.by_, x.no, x.k, n, x.out, x.gone⟩ else x
def outF (t : List Ch) (n : Int) (x : Ch) : Ch := if x.out = 0 ∧ hitB t x = true then ⟨x.c, x.by_, x.no, x.k, x.inn, n, x.gone⟩ else x
def ackF (no n : Int) (t : List Ch) (x : Ch) : Ch := outF t n (numF no n x)
theorem ack_parts (no n : Int) (t : List Ch) (x : Ch) : (ackF no n t x).c = x.c ∧ (ackF no n t x).by_ = x.by_ ∧ (ackF no n t x).no = x.no ∧ (ackF no n t x).k = x.k ∧ (ackF no n t x).gone = x.gone ∧ (ackF no n t x).inn = (numF no n x).inn := by
 unfold ackF outF numF
 split <;> split <;> exact ⟨rfl, rfl, rfl, rfl, rfl, rfl⟩
theorem ack_mark (no n : Int) (t : List Ch) (b : Int) (x : Ch) : ackF no n t (mark b openN x) = mark b openN (ackF no n t x) := by
 have e1 : numF no n (mark b openN x) = mark b openN (numF no n x) := by
  unfold numF
  show (if x.inn = openN ∧ x.no = no then _ else _) = _
  by_cases c : x.inn = openN ∧ x.no = no
  ·rw [if_pos c, if_pos c]; rfl
  ·rw [if_neg c, if_neg c]
 have e2 : ∀ y : Ch, outF t n (mark b openN y) = mark b openN (outF t n y) := by
  intro y
  unfold outF
  have ho : (mark b openN y).out = y.out := mark_open _
  have hh : hitB t (mark b openN y) = hitB t y := hit_key rfl
  rw [ho, hh]
  by_cases c : y.out = 0 ∧ hitB t y = true
  ·rw [if_pos c, if_pos c]
   simp only [mark, mark_open]
  ·rw [if_neg c, if_neg c]
 rw [ackF, e1, e2]; rfl
theorem ins_map {f : Ch → Ch} {p : Nat} {x l : List Ch} (h : x.map f = x) : (ins p x l).map f = ins p x (l.map f) := by
 rw [ins, List.map_append, List.map_append, List.map_take, List.map_drop, h, ins]
theorem take_map_ack {no n : Int} {t : List Ch} {e : Dd} (hn : e.seen < n) : ∀ (l : List Ch) (k : Int), AckL n e.by_ l (l.map (ackF no n t)) → takeL e openN k (l.map (ackF no n t)) = (takeL e openN k l).map (ackF no n t)
 | [], _, _ => rfl
 | x :: r, k, h => by
  have hs := h.1.sees hn
  have hx : nx e k (ackF no n t x) = nx e k x := by unfold nx; rw [hs]
  rw [List.map_cons, takeL_cons, takeL_cons, List.map_cons, hx, take_map_ack hn r _ h.2]
  congr 1
  rw [tk_eq, tk_eq]
  have hc : tkB e k (ackF no n t x) ↔ tkB e k x := by unfold tkB; rw [hs]
  by_cases c : tkB e k x
  ·rw [if_pos c, if_pos (hc.2 c), ack_mark]
  ·rw [if_neg c, if_neg (fun h => c (hc.1 h))]
theorem do_map_ack {no n : Int} {t : List Ch} {e : Dd} {l : List Ch} (hn : e.seen < n) (ho : n < openN) (hm : Mine e.by_ l) (h : AckL n e.by_ l (l.map (ackF no n t))) (hf : ∀ y ∈ newL e openN, ackF no n t y = y) :
 doL (l.map (ackF no n t)) e openN = (doL l e openN).map (ackF no n t) := by
 by_cases ke : e.kind = 1
 ·have hp : placeL (l.map (ackF no n t)) e = placeL l e := by
   unfold placeL
   rw [h.behind hn]
   cases behindL e.seen e.by_ e.at_.toNat l with
   | none => rfl
   | some p =>
    show p + skipL e.by_ ((l.map (ackF no n t)).drop p) = p + skipL e.by_ (l.drop p)
    rw [skip_mine (hm.drop p), skip_mine ((h.mine ho hm).drop p)]
  have hfix : (newL e openN).map (ackF no n t) = newL e openN := by
   rw [List.map_congr_left hf, List.map_id']
  rw [doL_put ke, doL_put ke, hp, ins_map hfix]
 ·rw [doL_take ke, doL_take ke]
  exact take_map_ack hn l 0 h
theorem numL_keys {no n : Int} {t : List Ch} (u : List Ch) : (u.map (ackF no n t)).map key4 = (u.map (numF no n)).map key4 := by
 rw [List.map_map, List.map_map]
 apply List.map_congr_left
 intro x _
 obtain ⟨_, a2, a3, a4, _, a6⟩ := ack_parts no n t x
 have e : (numF no n x).by_ = x.by_ ∧ (numF no n x).no = x.no ∧ (numF no n x).k = x.k := by unfold numF; split <;> exact ⟨rfl, rfl, rfl⟩
 simp only [Function.comp, key4, a2, a3, a4, a6, e.1, e.2.1, e.2.2]
theorem num_keys {no n : Int} {a b : List Ch} (h : a.map key4 = b.map key4) : (a.map (numF no n)).map key4 = (b.map (numF no n)).map key4 := by
 have e : ∀ u : List Ch, (u.map (numF no n)).map key4 = (u.map key4).map fun k => (if k.1 = openN ∧ k.2.2.1 = no then n else k.1, k.2) := by
  intro u
  rw [List.map_map, List.map_map]
  apply List.map_congr_left
  intro x _
  unfold numF Function.comp key4
  by_cases c : x.inn = openN ∧ x.no = no
  ·simp [c]
  ·simp [c]
 rw [e, e, h]
theorem took_ack {no n : Int} {t : List Ch} {e : Dd} {l : List Ch} (hn : e.seen < n) (h : AckL n e.by_ l (l.map (ackF no n t))) : tookL (l.map (ackF no n t)) e = (tookL l e).map (ackF no n t) := by
 have key : ∀ l : List Ch, AckL n e.by_ l (l.map (ackF no n t)) → (l.map (ackF no n t)).filter (seesC e.seen e.by_) = (l.filter (seesC e.seen e.by_)).map (ackF no n t) := by
  intro l
  induction l with
  | nil => intro _; rfl
  | cons x r ih =>
   intro h
   rw [List.map_cons, List.filter_cons, List.filter_cons, h.1.sees hn, ih h.2]
   cases seesC e.seen e.by_ x <;> simp
 rw [tookL, key l h, ← List.map_drop, ← List.map_take]; rfl
theorem top_ack {me no n : Int} {t : List Ch} (ho : n < openN) : ∀ (es : List Dd) (ts : List (List Ch)) (l : List Ch), (∀ e ∈ es, e.by_ = me ∧ e.seen < n) → Mine me l → AckL n me l (l.map (ackF no n t)) → (∀ e ∈ es, ∀ y ∈ newL e openN, ackF no n t y = y) → tkTop l es ts →
 onTop (l.map (ackF no n t)) es = (onTop l es).map (ackF no n t) ∧ tkTop (l.map (ackF no n t)) es (ts.map fun u => u.map (numF no n))
 | [], [], _, _, _, _, _, _ => ⟨rfl, trivial⟩
 | e :: es, u :: ts, l, he, hm, h, hf, ht => by
  obtain ⟨rfl, se⟩ := he e (by simp)
  have hd := do_map_ack se ho hm h (hf e (by simp))
  have hA := h.do_ se ho hm
  rw [hd] at hA
  obtain ⟨a1, a2⟩ := top_ack ho es ts (doL l e openN) (fun x hx => he x (by simp [hx])) (mine_do hm (fun _ => rfl)) hA (fun x hx => hf x (by simp [hx])) ht.2
  refine ⟨by rw [onTop, onTop, hd, a1], ?_, by rw [hd]; exact a2⟩
  show (u.map (numF no n)).map key4 = _
  rw [took_ack se h, numL_keys, num_keys ht.1]
 | [], _ :: _, _, _, _, _, _, h => h.elim
 | _ :: _, [], _, _, _, _, _, h => h.elim
theorem many_put {d : Dd} (h : checkC d = 0) (k : d.kind = 1) : d.many = 0 := ((check_parts h).2.2.2.2.2.2.2.2.2.2.1 k).2.2
theorem ack_one {me n : Int} {d : Dd} {es : List Dd} {t : List Ch} {l : List Ch} (_h1 : 1 ≤ n) (ho : n < openN) (hN : Nums me l (d :: es)) (hin : ∀ x ∈ l, x.inn < n) (hout : ∀ x ∈ l, x.out < n) (hc : checkC d = 0) (ht : t.map key4 = (tookL l d).map key4) :
 doL l d n = (doL l d openN).map (ackF d.no n t) ∧ AckL n me (doL l d openN) ((doL l d openN).map (ackF d.no n t)) ∧ ∀ e ∈ es, ∀ y ∈ newL e openN, ackF d.no n t y = y := by
 have hb : d.by_ = me := hN.by_ d (by simp)
 obtain ⟨_, hw, _, _, _, _, ha0, _, hm0, _⟩ := check_parts hc
 have hnum : ∀ x ∈ l, numF d.no n x = x := fun x hx => by
  unfold numF
  rw [if_neg]
  intro c
  have := hin x hx
  omega
 have hhit : ∀ x ∈ l, hitB t x = true ↔ x ∈ tookR d 0 l := fun x hx => by
  rw [← tookL_eq ha0 hm0]
  exact hit_took hN.ap (fun y hy => by rw [tookL_eq ha0 hm0] at hy; exact tookR_sub hy) ht hx
 have hfit : ∀ x ∈ l, x ∉ tookR d 0 l → ackF d.no n t x = x := fun x hx hn => by
  rw [ackF, hnum x hx, outF, if_neg]
  rintro ⟨_, h⟩
  exact hn ((hhit x hx).1 h)
 have hmark : ∀ x ∈ l, x ∈ tookR d 0 l → ackF d.no n t (mark d.by_ openN x) = mark d.by_ n x := fun x hx hy => by
  rw [ack_mark, ackF, hnum x hx, outF]
  have hh := (hhit x hx).2 hy
  have := hout x hx
  by_cases c : x.out = 0
  ·have e2 : markOut n x.out = n := by rw [markOut, if_pos ⟨by omega, .inl c⟩]
   rw [if_pos ⟨c, hh⟩]
   show (⟨x.c, x.by_, x.no, x.k, x.inn, markOut openN n, _⟩ : Ch) = ⟨x.c, x.by_, x.no, x.k, x.inn, markOut n x.out, _⟩
   rw [mark_open, e2]
  ·have e2 : markOut n x.out = x.out := by
    rw [markOut, if_neg]
    rintro ⟨_, h | h⟩
    ·exact c h
    ·omega
   rw [if_neg (fun h => c h.1)]
   show (⟨x.c, x.by_, x.no, x.k, x.inn, markOut openN x.out, _⟩ : Ch) = ⟨x.c, x.by_, x.no, x.k, x.inn, markOut n x.out, _⟩
   rw [mark_open, e2]
 have hnew : ∀ e ∈ es, ∀ y ∈ newL e openN, ackF d.no n t y = y := fun e he y hy => by
  have hp := new_parts hy
  have hno : d.no < e.no := (List.pairwise_cons.1 hN.up).1 e he
  have e1 : numF d.no n y = y := by
   unfold numF
   rw [if_neg]
   rintro ⟨_, h⟩
   rw [hp.2.2.2.2] at h
   omega
  rw [ackF, e1, outF, if_neg]
  rintro ⟨_, h⟩
  rw [hits_iff, ht, List.mem_map] at h
  obtain ⟨z, hz, hk⟩ := h
  rw [tookL_eq ha0 hm0] at hz
  have hzl := tookR_sub hz
  simp only [key4, Prod.mk.injEq] at hk
  have := hin z hzl
  have h3 := hp.1
  omega
 by_cases k : d.kind = 1
 ·have htn : t = [] := took_none (many_put hc k) ht
  have hnl : (newL d openN).map (ackF d.no n t) = newL d n := by
   subst htn
   have key : ∀ (u : List UInt8) (j : Nat), (newFrom d openN j u).map (ackF d.no n []) = newFrom d n j u := by
    intro u
    induction u with
    | nil => intro j; rfl
    | cons b r ih =>
     intro j
     rw [newFrom, newFrom, List.map_cons, ih]
     congr 1
     simp [ackF, numF, outF, hitB, newCh]
   exact key _ 0
  have hl : l.map (ackF d.no n t) = l := by
   rw [List.map_congr_left (g := id) (fun x hx => ?_), List.map_id]
   refine hfit x hx ?_
   rw [← hhit x hx, htn]
   simp [hitB]
  have e1 : (doL l d openN).map (ackF d.no n t) = doL l d n := by
   rw [doL_put k, doL_put k, ins, List.map_append, List.map_append, hnl, List.map_take, List.map_drop, hl]; rfl
  refine ⟨e1.symm, ?_, hnew⟩
  rw [e1, ← hb]
  exact ack_do hw (by omega)
 ·have e1 : (doL l d openN).map (ackF d.no n t) = doL l d n := by
   rw [doL_take k, doL_take k]
   exact take_ack l 0 hN.ap (fun x hx => hmark x (tookR_sub hx) hx) hfit
  refine ⟨e1.symm, ?_, hnew⟩
  rw [e1, ← hb]
  exact ack_do hw (by omega)
end Go.Proofs.YtcbnnfeelhlapadGreatDoor

/-
  Plain mathematics: what a writer of the program keeps, held against the writer by the document, whatever comes. No walk.
-/
namespace Go.Proofs.YtcbnnfeelhlapadGreatDoor
structure Rel (r : Wr) (ts : List (List Ch)) : Prop where
 tk : tkTop r.base r.opens ts
 nums : Nums r.me r.base r.opens
 low : ∀ x ∈ r.base, x.by_ = r.me → x.no < r.next
 up : ∀ e ∈ r.opens, e.no < r.next
 n1 : 1 ≤ r.next
 n2 : r.next ≤ 121
theorem WI.no_open {b : Bk} {c : Int} {r : Wr} (h : WI b c r) (hg : Good b) : ∀ x ∈ r.base, 1 ≤ x.inn ∧ x.inn ≤ r.seen ∧ 0 ≤ x.out ∧ x.out ≤ r.seen ∧ 0 ≤ x.gone ∧ x.gone ≤ 15 := by
 intro x hx
 rw [h.base] at hx
 have hx' := (List.mem_filter.1 hx).1
 have hm := (chars_made hg r.seen h.seen).1
 have h1 := hm.inn x hx'
 have h2 := hm.out x hx'
 have h3 := hm.gone x hx'
 omega
theorem Rel.does {r : Wr} {ts : List (List Ch)} (h : Rel r ts) {e : Dd} (hb : e.by_ = r.me) (hn : e.no = r.next) (hc : doC r.list e openN = 0) :
 Rel ⟨r.me, r.seen, r.next + 1, r.base, r.opens ++ [e], r.sent⟩ (ts ++ [tookL r.list e]) := by
 have hno := (check_parts (doC_zero hc).1).2.2.2.1
 have h1 := h.n1
 refine ⟨tkTop_snoc e h.tk, ⟨h.nums.ap, ?_, ?_, ?_⟩, ?_, ?_, ?_, ?_⟩
 ·intro x hx hm y hy
  rcases List.mem_append.1 hy with hy | hy
  ·exact h.nums.low x hx hm y hy
  ·obtain rfl : y = e := by simpa using hy
   rw [hn]; exact h.low x hx hm
 ·refine List.pairwise_append.2 ⟨h.nums.up, List.pairwise_singleton _ _, ?_⟩
  intro x hx y hy
  obtain rfl : y = e := by simpa using hy
  rw [hn]; exact h.up x hx
 ·intro y hy
  rcases List.mem_append.1 hy with hy | hy
  ·exact h.nums.by_ y hy
  ·obtain rfl : y = e := by simpa using hy
   exact hb
 ·intro x hx hm
  have := h.low x hx hm
  show x.no < r.next + 1
  omega
 ·intro y hy
  show y.no < r.next + 1
  rcases List.mem_append.1 hy with hy | hy
  ·have := h.up y hy; omega
  ·obtain rfl : y = e := by simpa using hy
   omega
 ·show 1 ≤ r.next + 1; omega
 ·show r.next + 1 ≤ 121; omega
theorem Rel.sends {r : Wr} {ts : List (List Ch)} (h : Rel r ts) (s : Nat) : Rel ⟨r.me, r.seen, r.next, r.base, r.opens, s⟩ ts := ⟨h.tk, h.nums, h.low, h.up, h.n1, h.n2⟩
theorem Rel.clears {b : Bk} {c : Int} {r : Wr} {ts : List (List Ch)} (h : Rel r ts) (hw : WI b c r) (hg : Good b) {least : Int} (hl : ∀ e ∈ r.opens, least ≤ e.seen) : Rel ⟨r.me, r.seen, r.next, ofL least r.base, r.opens, r.sent⟩ ts := by
 have hm : Mine r.me r.base := by rw [hw.base]; exact (chars_mine hg hw.seen r.me).of c
 have hs : ∀ x ∈ ofL least r.base, x ∈ r.base := fun x hx => (List.mem_filter.1 hx).1
 exact ⟨tkTop_clear r.opens ts r.base hm (fun e he => ⟨h.nums.by_ e he, hl e he⟩) (hw.list_eq hg).1 h.tk, ⟨h.nums.ap.of least, fun x hx => h.nums.low x (hs x hx), h.nums.up, h.nums.by_⟩, fun x hx => h.low x (hs x hx), h.up, h.n1, h.n2⟩
theorem WI.opens_least {b : Bk} {c : Int} {w : Wr} (h : WI b c w) {least : Int} (h1 : least ≤ leastL b) (h2 : ∀ d ∈ b.ds.drop w.seen, least ≤ d.seen) : ∀ e ∈ w.opens, least ≤ e.seen := by
 have hsaid := least_said h.wr h.here
 have hs := h.said
 intro e he
 obtain ⟨i, hi, rfl⟩ := List.mem_iff_getElem.1 he
 by_cases hs' : i < w.sent
 ·have : w.opens[i] ∈ w.opens.take w.sent := by
   rw [List.mem_take_iff_getElem]
   exact ⟨i, by omega, rfl⟩
  rw [← h.told] at this
  exact h2 _ (List.mem_filter.1 this).1
 ·have := h.unsent (i := i) (by omega) (List.getElem?_eq_getElem hi)
  omega
theorem Rel.hears_other {b : Bk} {c : Int} {r : Wr} {ts : List (List Ch)} (h : Rel r ts) (hw : WI b c r) (hg : Good b) (hi : r.seen < b.ds.length) (hne : b.ds[r.seen].by_ ≠ r.me) :
 Rel ⟨r.me, r.seen + 1, r.next, doL r.base b.ds[r.seen] ((r.seen : Int) + 1), r.opens, r.sent⟩ ts := by
 obtain ⟨n1, n2⟩ := seen_next hg hi
 obtain ⟨b1, b2⟩ := hw.base_next hg hi
 have hm : Mine r.me r.base := by rw [hw.base]; exact (chars_mine hg hw.seen r.me).of c
 have hes : ∀ e ∈ r.opens, e.by_ = r.me ∧ e.seen < (r.seen : Int) + 1 := fun e he => ⟨(hw.own e he).1, by have := (hw.own e he).2.1; omega⟩
 have hold : ∀ y ∈ doL r.base b.ds[r.seen] ((r.seen : Int) + 1), y.by_ = r.me → ∃ x ∈ r.base, x.by_ = r.me ∧ y.no = x.no := by
  intro y hy hb
  rcases mem_do hy with hy | ⟨x, hx, h1, h2, _⟩
  ·exact absurd ((new_parts hy).2.1.symm.trans hb) hne
  ·exact ⟨x, hx, h1.symm.trans hb, h2⟩
 refine ⟨tkTop_other hne n1 n2 r.opens ts r.base hm hes (hw.list_eq hg).1 (fit_of b1) h.tk, ⟨?_, ?_, h.nums.up, h.nums.by_⟩, ?_, h.up, h.n1, h.n2⟩
 ·rw [b2]
  exact Apart.of (chars_made hg (r.seen + 1) hi).1.one c
 ·intro y hy hb e he
  obtain ⟨x, hx, h1, h2⟩ := hold y hy hb
  rw [h2]; exact h.nums.low x hx h1 e he
 ·intro y hy hb
  obtain ⟨x, hx, h1, h2⟩ := hold y hy hb
  show y.no < r.next
  rw [h2]; exact h.low x hx h1
theorem Rel.hears_own {b : Bk} {c : Int} {r : Wr} {t : List Ch} {ts : List (List Ch)} (h : Rel r (t :: ts)) (hw : WI b c r) (hg : Good b) (hi : r.seen < b.ds.length) {es : List Dd} (he : r.opens = b.ds[r.seen] :: es) :
 Rel ⟨r.me, r.seen + 1, r.next, doL r.base b.ds[r.seen] ((r.seen : Int) + 1), es, r.sent - 1⟩ (ts.map fun u => u.map (numF b.ds[r.seen].no ((r.seen : Int) + 1))) ∧
 onTop (doL r.base b.ds[r.seen] ((r.seen : Int) + 1)) es = r.list.map (ackF b.ds[r.seen].no ((r.seen : Int) + 1) t) := by
 obtain ⟨n1, n2⟩ := seen_next hg hi
 have hm : Mine r.me r.base := by rw [hw.base]; exact (chars_mine hg hw.seen r.me).of c
 have hes : ∀ e ∈ r.opens, e.by_ = r.me ∧ e.seen < (r.seen : Int) + 1 := fun e he => ⟨(hw.own e he).1, by have := (hw.own e he).2.1; omega⟩
 have hno := hw.no_open hg
 have hN := h.nums
 have ht := h.tk
 have hf := (hw.list_eq hg).1
 rw [he] at hN ht hf hes
 have hck := hf.1.1
 have hlist : r.list = onTop (doL r.base b.ds[r.seen] openN) es := by rw [Wr.list, he]; rfl
 obtain ⟨a1, a2, a3⟩ := ack_one (t := t) (n := (r.seen : Int) + 1) (by omega) n2 hN (fun x hx => by have := hno x hx; omega) (fun x hx => by have := hno x hx; omega) hck ht.1
 have hm2 : Mine r.me (doL r.base b.ds[r.seen] openN) := mine_do hm (fun _ => hN.by_ _ (by simp))
 obtain ⟨c1, c2⟩ := top_ack n2 es ts _ (fun e hx => hes e (by simp [hx])) hm2 a2 a3 ht.2
 rw [← a1] at c1 c2
 refine ⟨⟨c2, hN.next _, ?_, fun e hx => h.up e (by rw [he]; simp [hx]), h.n1, h.n2⟩, by rw [c1, hlist]⟩
 intro y hy hb
 show y.no < r.next
 rcases mem_do hy with hy | ⟨x, hx, h1, h2, _⟩
 ·rw [(new_parts hy).2.2.2.2]; exact h.up _ (by rw [he]; simp)
 ·rw [h2]; exact h.low x hx (h1.symm.trans hb)
theorem Rel.comes_in {b : Bk} (hg : Good b) (v : Int) : Rel ⟨v, b.ds.length, b.last v + 1, b.chars, [], 0⟩ [] := by
 have hm := good_made hg
 have hl := lastAt_bound hg v
 have hsm : b.len ≤ 120 := by have := hg.small; show (b.ds.length : Int) ≤ 120; omega
 refine ⟨trivial, ⟨hm.one, fun _ _ _ e he => (by cases he), List.Pairwise.nil, fun e he => (by cases he)⟩, ?_, fun e he => (by cases he), ?_, ?_⟩
 ·intro x hx hb
  have h1 := (hm.no x hx).2
  have hb' : x.by_ = v := hb
  rw [hb', ← hg.last] at h1
  show x.no < b.last v + 1
  omega
 ·show 1 ≤ b.last v + 1; omega
 ·show b.last v + 1 ≤ 121; omega
theorem tame_top {me : Int} : ∀ (es : List Dd) {l : List Ch}, (∀ x ∈ l, 0 ≤ x.out ∧ 0 ≤ x.gone ∧ x.gone ≤ 15) → fitTop l es → ∀ x ∈ onTop l es, 0 ≤ x.out ∧ 0 ≤ x.gone ∧ x.gone ≤ 15
 | [], _, h, _ => h
 | e :: es, l, h, hf => by
  refine tame_top (me := me) es (fun y hy => ?_) hf.2
  rcases mem_do hy with hy | ⟨x, hx, _, _, _, _, rfl | ⟨hs, rfl⟩⟩
  ·have := new_parts hy
   omega
  ·exact h y hx
  ·have hx' := h x hx
   have := gone_add (fit_wr hf.1) (sees_took hs) hx'.2.1 hx'.2.2
   refine ⟨?_, this.1, this.2.1⟩
   show 0 ≤ markOut openN x.out
   rw [mark_open]; exact hx'.1
theorem WI.tame {b : Bk} {c : Int} {r : Wr} (h : WI b c r) (hg : Good b) : ∀ x ∈ r.list, 0 ≤ x.out ∧ 0 ≤ x.gone ∧ x.gone ≤ 15 :=
 tame_top (me := r.me) r.opens (fun x hx => by have := h.no_open hg x hx; omega) (h.list_eq hg).1
theorem WI.fits {b : Bk} {c : Int} {r : Wr} (h : WI b c r) (hg : Good b) : FitsL r.list := fun x hx => by
 have := h.tame hg x hx
 omega
theorem WI.few {b : Bk} {c : Int} {r : Wr} {ts : List (List Ch)} (h : WI b c r) (hr : Rel r ts) (hg : Good b) : r.opens.length ≤ 120 := by
 cases hes : r.opens with
 | nil => simp
 | cons e es =>
  have h0 := h.no 0 e (by rw [hes]; rfl)
  have hf := (h.list_eq hg).1
  rw [hes] at hf
  have h1 := (check_parts hf.1.1).2.2.1
  have h2 := hr.n2
  rw [hes] at h0
  simp only [Int.natCast_zero] at h0
  omega
end Go.Proofs.YtcbnnfeelhlapadGreatDoor
