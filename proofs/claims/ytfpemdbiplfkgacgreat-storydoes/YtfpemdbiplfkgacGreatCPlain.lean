/-
  Plain mathematics of deeds done to a list: what a deed makes of it, and what its writer and others see behind it. No walk.
-/
import Derived.Test.YtfpemdbiplfkgacGreatDPlain
namespace Go.Proofs.YtfpemdbiplfkgacGreat

abbrev openN : Int := 1073741824

/-- A byte of a deed's text, put in with that number. -/
def newCh (d : Dd) (number : Int) (k : Nat) (b : UInt8) : Ch := ⟨b.toNat, d.by_, d.no, k, number, 0, 0⟩
def newFrom (d : Dd) (number : Int) : Nat → List UInt8 → List Ch
  | _, [] => []
  | k, b :: r => newCh d number k b :: newFrom d number (k + 1) r
def newL (d : Dd) (number : Int) : List Ch := newFrom d number 0 d.text.data.toList

/-- A byte that its writer took away, with that number. -/
def markOut (number out : Int) : Int := if number ≠ openN ∧ (out = 0 ∨ number < out) then number else out
def mark (by_ number : Int) (x : Ch) : Ch := ⟨x.c, x.by_, x.no, x.k, x.inn, markOut number x.out, x.gone + 2 ^ by_.toNat⟩

/-- The place right behind the n-th byte that one sees. -/
def behindL (seen by_ : Int) : Nat → List Ch → Option Nat
  | 0, _ => some 0
  | _ + 1, [] => none
  | n + 1, x :: r => if seesC seen by_ x = true then (behindL seen by_ n r).map (· + 1) else (behindL seen by_ (n + 1) r).map (· + 1)

/-- How many stand right there that have no number yet and another one put in. -/
def skipL (by_ : Int) : List Ch → Nat
  | [] => 0
  | x :: r => if x.inn = openN ∧ x.by_ ≠ by_ then skipL by_ r + 1 else 0

def placeL (l : List Ch) (d : Dd) : Nat :=
  match behindL d.seen d.by_ d.at_.toNat l with
  | some p => p + skipL d.by_ (l.drop p)
  | none => 0

def takeL (d : Dd) (number : Int) : Int → List Ch → List Ch
  | _, [] => []
  | k, x :: r => if seesC d.seen d.by_ x = true then (if d.at_ ≤ k ∧ k < d.at_ + d.many then mark d.by_ number x else x) :: takeL d number (k + 1) r else x :: takeL d number k r

def doL (l : List Ch) (d : Dd) (number : Int) : List Ch :=
  if d.kind = 1 then l.take (placeL l d) ++ (newL d number ++ l.drop (placeL l d)) else takeL d number 0 l

/-! What one sees. -/

theorem vw_app (a b : List Ch) (seen by_ : Int) : vw (a ++ b) seen by_ = vw a seen by_ ++ vw b seen by_ := by
  simp [vw, List.filter_append]

theorem vw_cons_yes {x : Ch} {seen by_ : Int} (l : List Ch) (h : seesC seen by_ x = true) : vw (x :: l) seen by_ = x.c :: vw l seen by_ := by
  simp [vw, h]
theorem vw_cons_no {x : Ch} {seen by_ : Int} (l : List Ch) (h : seesC seen by_ x = false) : vw (x :: l) seen by_ = vw l seen by_ := by
  simp [vw, h]

theorem vw_len (l : List Ch) (seen by_ : Int) : ((vw l seen by_).length : Int) = cnt l seen by_ := by
  simp [vw, cnt]

theorem vw_none {l : List Ch} {seen by_ : Int} (h : ∀ x ∈ l, seesC seen by_ x = false) : vw l seen by_ = [] := by
  induction l with
  | nil => rfl
  | cons x r ih => rw [vw_cons_no r (h x (by simp)), ih (fun y hy => h y (by simp [hy]))]

theorem took_zero (w : Int) : tookB 0 w = false := by
  simp [tookB, bitB]

/-- A new byte is seen by its writer, and by who has seen the log as far. -/
theorem new_seen (d : Dd) (number seen by_ : Int) (k : Nat) (b : UInt8) (h : d.by_ = by_ ∨ number ≤ seen) : seesC seen by_ (newCh d number k b) = true := by
  have h1 : inB number d.by_ seen by_ = true := by
    rw [inB, decide_eq_true_eq]
    rcases h with h | h
    · exact .inr h
    · exact .inl h
  show (inB number d.by_ seen by_ && !outB 0 0 seen by_) = true
  rw [h1, outB, took_zero]
  simp

theorem new_unseen (d : Dd) (number seen by_ : Int) (k : Nat) (b : UInt8) (h : d.by_ ≠ by_) (hn : seen < number) : seesC seen by_ (newCh d number k b) = false := by
  have h1 : inB number d.by_ seen by_ = false := by
    rw [inB]
    refine decide_eq_false (fun e => ?_)
    rcases e with e | e
    · omega
    · exact h e
  show (inB number d.by_ seen by_ && !outB 0 0 seen by_) = false
  rw [h1]
  rfl

def nums (s : ByteArray) : List Int := s.data.toList.map fun b => (b.toNat : Int)

theorem vw_all {l : List Ch} {seen by_ : Int} (h : ∀ x ∈ l, seesC seen by_ x = true) : vw l seen by_ = l.map (·.c) := by
  induction l with
  | nil => rfl
  | cons x r ih => rw [vw_cons_yes r (h x (by simp)), ih (fun y hy => h y (by simp [hy])), List.map_cons]

theorem newFrom_mem {d : Dd} {number : Int} {x : Ch} : ∀ {k : Nat} {l : List UInt8}, x ∈ newFrom d number k l → ∃ j b, x = newCh d number j b ∧ k ≤ j ∧ j < k + l.length ∧ b ∈ l
  | _, [], h => by simp [newFrom] at h
  | k, b :: r, h => by
    rw [newFrom, List.mem_cons] at h
    rcases h with rfl | h
    · exact ⟨k, b, rfl, Nat.le_refl _, by simp, by simp⟩
    · obtain ⟨j, c, rfl, h1, h2, h3⟩ := newFrom_mem h
      exact ⟨j, c, rfl, by omega, by simp; omega, by simp [h3]⟩

theorem newFrom_c (d : Dd) (number : Int) : ∀ (k : Nat) (l : List UInt8), (newFrom d number k l).map (·.c) = l.map fun b => (b.toNat : Int)
  | _, [] => rfl
  | k, b :: r => by rw [newFrom, List.map_cons, newFrom_c d number (k + 1) r, List.map_cons]; rfl

theorem newFrom_len (d : Dd) (number : Int) : ∀ (k : Nat) (l : List UInt8), (newFrom d number k l).length = l.length
  | _, [] => rfl
  | k, b :: r => by rw [newFrom, List.length_cons, newFrom_len d number (k + 1) r, List.length_cons]

theorem newFrom_snoc (d : Dd) (number : Int) (b : UInt8) : ∀ (k : Nat) (l : List UInt8), newFrom d number k (l ++ [b]) = newFrom d number k l ++ [newCh d number (k + l.length) b]
  | k, [] => rfl
  | k, c :: r => by
    rw [List.cons_append, newFrom, newFrom_snoc d number b (k + 1) r, newFrom, List.cons_append, List.length_cons, show k + 1 + r.length = k + (r.length + 1) by omega]

theorem newL_len (d : Dd) (number : Int) : (newL d number).length = d.text.size := by rw [newL, newFrom_len, size_list]

theorem newL_seen (d : Dd) (number seen by_ : Int) (h : d.by_ = by_ ∨ number ≤ seen) : vw (newL d number) seen by_ = nums d.text := by
  rw [vw_all, newL, newFrom_c]
  · rfl
  · intro x hx
    obtain ⟨j, b, rfl, _⟩ := newFrom_mem hx
    exact new_seen d number seen by_ j b h

theorem newL_unseen (d : Dd) (number seen by_ : Int) (h : d.by_ ≠ by_) (hn : seen < number) : vw (newL d number) seen by_ = [] := by
  refine vw_none (fun x hx => ?_)
  obtain ⟨j, b, rfl, _⟩ := newFrom_mem hx
  exact new_unseen d number seen by_ j b h hn

/-! The place of a text that is put in. -/

theorem behindL_some {seen by_ : Int} : ∀ {n : Nat} {l : List Ch}, n ≤ (vw l seen by_).length → ∃ p, behindL seen by_ n l = some p
  | 0, l, _ => ⟨0, by cases l <;> rfl⟩
  | n + 1, [], h => by simp [vw] at h
  | n + 1, x :: r, h => by
    rw [behindL]
    by_cases hx : seesC seen by_ x = true
    · rw [vw_cons_yes r hx] at h
      obtain ⟨p, hp⟩ := behindL_some (n := n) (l := r) (by simpa using h)
      exact ⟨p + 1, by rw [if_pos hx, hp]; rfl⟩
    · rw [vw_cons_no r (by simpa using hx)] at h
      obtain ⟨p, hp⟩ := behindL_some (n := n + 1) (l := r) h
      exact ⟨p + 1, by rw [if_neg hx, hp]; rfl⟩

theorem behindL_view {seen by_ : Int} : ∀ {n : Nat} {l : List Ch} {p : Nat}, behindL seen by_ n l = some p → p ≤ l.length ∧ vw (l.take p) seen by_ = (vw l seen by_).take n ∧ (vw l seen by_).take n = (vw (l.take p) seen by_) ∧ (vw (l.take p) seen by_).length = n
  | 0, l, p, h => by
    obtain rfl : p = 0 := by cases l <;> exact (Option.some.inj h).symm
    simp [vw]
  | n + 1, [], p, h => by cases h
  | n + 1, x :: r, p, h => by
    rw [behindL] at h
    by_cases hx : seesC seen by_ x = true
    · rw [if_pos hx] at h
      cases hb : behindL seen by_ n r with
      | none => rw [hb] at h; cases h
      | some q =>
        rw [hb] at h
        obtain rfl := Option.some.inj h
        obtain ⟨h1, h2, _, h4⟩ := behindL_view hb
        rw [List.take_succ_cons, vw_cons_yes _ hx, vw_cons_yes _ hx, h2]
        rw [h2] at h4
        refine ⟨by simpa using h1, rfl, rfl, by simpa using h4⟩
    · have hx' : seesC seen by_ x = false := by simpa using hx
      rw [if_neg hx] at h
      cases hb : behindL seen by_ (n + 1) r with
      | none => rw [hb] at h; cases h
      | some q =>
        rw [hb] at h
        obtain rfl := Option.some.inj h
        obtain ⟨h1, h2, _, h4⟩ := behindL_view hb
        rw [List.take_succ_cons, vw_cons_no _ hx', vw_cons_no _ hx', h2]
        rw [h2] at h4
        exact ⟨by simpa using h1, rfl, rfl, h4⟩

theorem skipL_le (by_ : Int) : ∀ (l : List Ch), skipL by_ l ≤ l.length
  | [] => Nat.le_refl _
  | x :: r => by
    rw [skipL]
    split
    · have := skipL_le by_ r; simp; omega
    · simp

theorem skipL_unseen {seen by_ : Int} (hs : seen < openN) : ∀ (l : List Ch), vw (l.take (skipL by_ l)) seen by_ = []
  | [] => rfl
  | x :: r => by
    rw [skipL]
    split
    · rename_i h
      rw [List.take_succ_cons, vw_cons_no, skipL_unseen hs r]
      simp only [seesC, seesB, inB, h.1]
      simp
      intro h'
      rcases h' with h' | h'
      · omega
      · exact absurd h' h.2
    · rfl

/-- What stands ahead of a text that is put in, and behind it, as its writer sees it. -/
theorem place_view {l : List Ch} {d : Dd} (hn : d.at_ ≤ cnt l d.seen d.by_) (hs : d.seen < openN) :
    placeL l d ≤ l.length ∧ vw (l.take (placeL l d)) d.seen d.by_ = (vw l d.seen d.by_).take d.at_.toNat ∧ vw (l.drop (placeL l d)) d.seen d.by_ = (vw l d.seen d.by_).drop d.at_.toNat := by
  have hl : d.at_.toNat ≤ (vw l d.seen d.by_).length := by have := vw_len l d.seen d.by_; omega
  obtain ⟨p, hp⟩ := behindL_some hl
  obtain ⟨h1, h2, _, h4⟩ := behindL_view hp
  have hk := skipL_le d.by_ (l.drop p)
  rw [List.length_drop] at hk
  have e : placeL l d = p + skipL d.by_ (l.drop p) := by rw [placeL, hp]
  have ht : vw (l.take (placeL l d)) d.seen d.by_ = (vw l d.seen d.by_).take d.at_.toNat := by
    rw [e, List.take_add, vw_app, skipL_unseen hs, List.append_nil, h2]
  refine ⟨by omega, ht, ?_⟩
  have := vw_app (l.take (placeL l d)) (l.drop (placeL l d)) d.seen d.by_
  rw [List.take_append_drop, ht] at this
  have h5 := List.take_append_drop d.at_.toNat (vw l d.seen d.by_)
  exact (List.append_cancel_left (h5.trans this)).symm

/-- ITS WRITER SEES WHAT IT MEANT: a text that is put in. -/
theorem put_splices {l : List Ch} {d : Dd} {number : Int} (hk : d.kind = 1) (hn : d.at_ ≤ cnt l d.seen d.by_) (hs : d.seen < openN) :
    vw (doL l d number) d.seen d.by_ = (vw l d.seen d.by_).take d.at_.toNat ++ (nums d.text ++ (vw l d.seen d.by_).drop d.at_.toNat) := by
  obtain ⟨_, h1, h2⟩ := place_view hn hs
  rw [doL, if_pos hk, vw_app, vw_app, h1, h2, newL_seen d number d.seen d.by_ (.inl rfl)]

/-! Bits. -/

theorem bit_add {g : Int} {w : Int} (hw : wrB w = true) (h : bitB g w = false) (v : Int) (hv : wrB v = true) : bitB (g + 2 ^ w.toNat) v = (decide (v = w) || bitB g v) := by
  have hw' : 0 ≤ w ∧ w ≤ 3 := by simpa [wrB] using hw
  have hv' : 0 ≤ v ∧ v ≤ 3 := by simpa [wrB] using hv
  unfold bitB at h ⊢
  have h' : ¬ g / 2 ^ w.toNat % 2 = 1 := by simpa using h
  rcases (show w = 0 ∨ w = 1 ∨ w = 2 ∨ w = 3 by omega) with rfl | rfl | rfl | rfl <;> rcases (show v = 0 ∨ v = 1 ∨ v = 2 ∨ v = 3 by omega) with rfl | rfl | rfl | rfl <;>
    (rw [Bool.eq_iff_iff]; simp at h' ⊢; try omega)

theorem took_add {g : Int} {w : Int} (hw : wrB w = true) (h : tookB g w = false) (v : Int) : tookB (g + 2 ^ w.toNat) v = (decide (v = w) || tookB g v) := by
  rw [tookB, hw, Bool.true_and] at h
  by_cases hv : wrB v = true
  · rw [tookB, tookB, hv, Bool.true_and, Bool.true_and, bit_add hw h v hv]
  · have hv' : wrB v = false := by simpa using hv
    have hne : v ≠ w := fun e => by rw [e, hw] at hv'; cases hv'
    rw [tookB, tookB, hv', decide_eq_false hne]
    rfl

theorem add_fits {g w : Int} (hw : wrB w = true) (h : tookB g w = false) (hg : g ≤ 9223372036854775807) : g + 2 ^ w.toNat ≤ 9223372036854775807 := by
  have hw' : 0 ≤ w ∧ w ≤ 3 := by simpa [wrB] using hw
  rw [tookB, hw, Bool.true_and, bitB] at h
  have h' : ¬ g / 2 ^ w.toNat % 2 = 1 := by simpa using h
  rcases (show w = 0 ∨ w = 1 ∨ w = 2 ∨ w = 3 by omega) with rfl | rfl | rfl | rfl <;> (simp at h' ⊢; omega)

/-! Bytes that are taken away. -/

theorem sees_took {x : Ch} {seen by_ : Int} (h : seesC seen by_ x = true) : tookB x.gone by_ = false := by
  simp only [seesC, seesB, outB, Bool.and_eq_true, Bool.not_eq_true', Bool.or_eq_false_iff] at h
  exact h.2.2

theorem mark_own {x : Ch} {seen by_ number : Int} (hw : wrB by_ = true) (h : tookB x.gone by_ = false) : seesC seen by_ (mark by_ number x) = false := by
  show (inB x.inn x.by_ seen by_ && !(decide (markOut number x.out ≠ 0 ∧ markOut number x.out ≤ seen) || tookB (x.gone + 2 ^ by_.toNat) by_)) = false
  rw [took_add hw h]
  simp

theorem mark_other {x : Ch} {seen v by_ number : Int} (hw : wrB by_ = true) (h : tookB x.gone by_ = false) (hv : v ≠ by_) :
    seesC seen v (mark by_ number x) = (inB x.inn x.by_ seen v && !(decide (markOut number x.out ≠ 0 ∧ markOut number x.out ≤ seen) || tookB x.gone v)) := by
  show (inB x.inn x.by_ seen v && !(decide (markOut number x.out ≠ 0 ∧ markOut number x.out ≤ seen) || tookB (x.gone + 2 ^ by_.toNat) v)) = _
  rw [took_add hw h, decide_eq_false hv, Bool.false_or]

theorem out_far {number seen out : Int} (h : seen < number) : decide (markOut number out ≠ 0 ∧ markOut number out ≤ seen) = decide (out ≠ 0 ∧ out ≤ seen) := by
  unfold markOut
  by_cases hc : number ≠ openN ∧ (out = 0 ∨ number < out)
  · rw [if_pos hc, decide_eq_false (by omega), decide_eq_false (by omega)]
  · rw [if_neg hc]

theorem out_open {seen out : Int} : decide (markOut openN out ≠ 0 ∧ markOut openN out ≤ seen) = decide (out ≠ 0 ∧ out ≤ seen) := by
  unfold markOut
  rw [if_neg (by simp)]

/-- Who has not heard of it sees nothing of it. -/
theorem mark_far {x : Ch} {seen v by_ number : Int} (hw : wrB by_ = true) (h : tookB x.gone by_ = false) (hv : v ≠ by_) (hn : seen < number ∨ number = openN) : seesC seen v (mark by_ number x) = seesC seen v x := by
  rw [mark_other hw h hv]
  rcases hn with hn | rfl
  · rw [out_far hn]; rfl
  · rw [out_open]; rfl

/-- Whoever has heard of it sees no more than it saw. -/
theorem mark_near {x : Ch} {seen v by_ number : Int} (hw : wrB by_ = true) (h : tookB x.gone by_ = false) (hv : v ≠ by_) (h1 : 1 ≤ number) (hn : number ≤ seen) (hs : seesC seen v (mark by_ number x) = true) : seesC seen v x = true := by
  rw [mark_other hw h hv] at hs
  unfold markOut at hs
  by_cases hc : number ≠ openN ∧ (x.out = 0 ∨ number < x.out)
  · rw [if_pos hc, decide_eq_true (show number ≠ 0 ∧ number ≤ seen by omega)] at hs
    simp at hs
  · rw [if_neg hc] at hs
    exact hs

theorem takeL_splices {d : Dd} {number : Int} (hw : wrB d.by_ = true) (hm : 0 ≤ d.many) : ∀ (l : List Ch) (k : Int), 0 ≤ k →
    vw (takeL d number k l) d.seen d.by_ = (vw l d.seen d.by_).take (d.at_ - k).toNat ++ (vw l d.seen d.by_).drop (d.at_ + d.many - k).toNat
  | [], k, _ => by simp [takeL, vw]
  | x :: r, k, hk => by
    rw [takeL]
    by_cases hx : seesC d.seen d.by_ x = true
    · have ih := takeL_splices (number := number) hw hm r (k + 1) (by omega)
      rw [if_pos hx, vw_cons_yes r hx]
      by_cases hc : d.at_ ≤ k ∧ k < d.at_ + d.many
      · rw [if_pos hc, vw_cons_no _ (mark_own hw (sees_took hx)), ih]
        rw [show (d.at_ - k).toNat = 0 by omega, show (d.at_ - (k + 1)).toNat = 0 by omega, show (d.at_ + d.many - k).toNat = (d.at_ + d.many - (k + 1)).toNat + 1 by omega]
        simp
      · rw [if_neg hc, vw_cons_yes _ hx, ih]
        by_cases ha : k < d.at_
        · rw [show (d.at_ - k).toNat = (d.at_ - (k + 1)).toNat + 1 by omega, show (d.at_ + d.many - k).toNat = (d.at_ + d.many - (k + 1)).toNat + 1 by omega]
          simp
        · rw [show (d.at_ - k).toNat = 0 by omega, show (d.at_ - (k + 1)).toNat = 0 by omega, show (d.at_ + d.many - k).toNat = 0 by omega, show (d.at_ + d.many - (k + 1)).toNat = 0 by omega]
          simp
    · have hx' : seesC d.seen d.by_ x = false := by simpa using hx
      rw [if_neg hx, vw_cons_no _ hx', vw_cons_no _ hx']
      exact takeL_splices hw hm r k hk

/-- ITS WRITER SEES WHAT IT MEANT: bytes that are taken away. -/
theorem take_splices {l : List Ch} {d : Dd} {number : Int} (hk : d.kind ≠ 1) (hw : wrB d.by_ = true) (hm : 0 ≤ d.many) :
    vw (doL l d number) d.seen d.by_ = (vw l d.seen d.by_).take d.at_.toNat ++ (vw l d.seen d.by_).drop (d.at_ + d.many).toNat := by
  rw [doL, if_neg hk, takeL_splices hw hm l 0 (by omega), Int.sub_zero, Int.sub_zero]

theorem takeL_len (d : Dd) (number : Int) : ∀ (l : List Ch) (k : Int), (takeL d number k l).length = l.length
  | [], k => rfl
  | x :: r, k => by
    rw [takeL]
    split
    · rw [List.length_cons, takeL_len d number r (k + 1), List.length_cons]
    · rw [List.length_cons, takeL_len d number r k, List.length_cons]

theorem mark_c (by_ number : Int) (x : Ch) : (mark by_ number x).c = x.c := rfl

/-- Who has not heard of it sees just what it saw. -/
theorem takeL_far {d : Dd} {number seen v : Int} (hw : wrB d.by_ = true) (hv : v ≠ d.by_) (hn : seen < number ∨ number = openN) : ∀ (l : List Ch) (k : Int), vw (takeL d number k l) seen v = vw l seen v
  | [], k => rfl
  | x :: r, k => by
    rw [takeL]
    by_cases hx : seesC d.seen d.by_ x = true
    · rw [if_pos hx]
      have ih := takeL_far hw hv hn r (k + 1)
      have hy : ∀ y : Ch, seesC seen v y = seesC seen v x → y.c = x.c → vw (y :: takeL d number (k + 1) r) seen v = vw (x :: r) seen v := by
        intro y h1 h2
        by_cases hs : seesC seen v x = true
        · rw [vw_cons_yes _ (h1.trans hs), vw_cons_yes _ hs, ih, h2]
        · have hs' : seesC seen v x = false := by simpa using hs
          rw [vw_cons_no _ (h1.trans hs'), vw_cons_no _ hs', ih]
      split
      · exact hy _ (mark_far hw (sees_took hx) hv hn) rfl
      · exact hy _ rfl rfl
    · rw [if_neg hx]
      have ih := takeL_far hw hv hn r k
      by_cases hs : seesC seen v x = true
      · rw [vw_cons_yes _ hs, vw_cons_yes _ hs, ih]
      · have hs' : seesC seen v x = false := by simpa using hs
        rw [vw_cons_no _ hs', vw_cons_no _ hs', ih]

theorem cnt_cons (x : Ch) (l : List Ch) (seen v : Int) : cnt (x :: l) seen v = (if seesC seen v x = true then 1 else 0) + cnt l seen v := by
  unfold cnt
  by_cases h : seesC seen v x = true
  · simp [h]; omega
  · simp [h]

/-- How many more may be taken away from the k-th on. -/
def room (d : Dd) (k : Int) : Int := if k < d.at_ then d.many else if k < d.at_ + d.many then d.at_ + d.many - k else 0

theorem room_next {d : Dd} (hm : 0 ≤ d.many) (k : Int) : 0 ≤ room d (k + 1) ∧ room d (k + 1) ≤ room d k ∧ (d.at_ ≤ k → k < d.at_ + d.many → room d (k + 1) + 1 ≤ room d k) := by
  unfold room
  refine ⟨?_, ?_, fun h1 h2 => ?_⟩
  · split
    · omega
    · split <;> omega
  · split
    · split
      · omega
      · split <;> omega
    · split
      · split
        · omega
        · split <;> omega
      · split
        · omega
        · split <;> omega
  · rw [if_neg (show ¬ k + 1 < d.at_ by omega), if_neg (show ¬ k < d.at_ by omega), if_pos h2]
    split <;> omega

/-- Whoever has heard of it sees no more, and at most as many less. -/
theorem takeL_near {d : Dd} {number seen v : Int} (hw : wrB d.by_ = true) (hm : 0 ≤ d.many) (hv : v ≠ d.by_) (h1 : 1 ≤ number) (hn : number ≤ seen) : ∀ (l : List Ch) (k : Int), cnt (takeL d number k l) seen v ≤ cnt l seen v ∧ cnt l seen v ≤ cnt (takeL d number k l) seen v + room d k
  | [], k => by
    have := room_next hm (k - 1)
    rw [show k - 1 + 1 = k by omega] at this
    simp [takeL, cnt]
    exact this.1
  | x :: r, k => by
    rw [takeL]
    have hr := room_next hm k
    by_cases hx : seesC d.seen d.by_ x = true
    · rw [if_pos hx]
      have ih := takeL_near hw hm hv h1 hn r (k + 1)
      by_cases hc : d.at_ ≤ k ∧ k < d.at_ + d.many
      · rw [if_pos hc, cnt_cons, cnt_cons]
        have hlim := hr.2.2 hc.1 hc.2
        by_cases hs : seesC seen v (mark d.by_ number x) = true
        · rw [if_pos hs, if_pos (mark_near hw (sees_took hx) hv h1 hn hs)]
          omega
        · rw [if_neg hs]
          by_cases hs2 : seesC seen v x = true
          · rw [if_pos hs2]; omega
          · rw [if_neg hs2]; omega
      · rw [if_neg hc, cnt_cons, cnt_cons]
        omega
    · rw [if_neg hx, cnt_cons, cnt_cons]
      have ih := takeL_near hw hm hv h1 hn r k
      omega

theorem doL_far {l : List Ch} {d : Dd} {number seen v : Int} (hw : wrB d.by_ = true) (hv : v ≠ d.by_) (hn : seen < number) : vw (doL l d number) seen v = vw l seen v := by
  by_cases hk : d.kind = 1
  · rw [doL, if_pos hk, vw_app, vw_app, newL_unseen d number seen v (fun e => hv e.symm) hn, List.nil_append, ← vw_app, List.take_append_drop]
  · rw [doL, if_neg hk]
    exact takeL_far hw hv (.inl hn) l 0

theorem doL_near_put {l : List Ch} {d : Dd} {number seen v : Int} (hk : d.kind = 1) (hn : number ≤ seen) : cnt (doL l d number) seen v = cnt l seen v + d.text.size := by
  have e : (vw (newL d number) seen v).length = d.text.size := by
    rw [newL_seen d number seen v (.inr hn)]
    simp [nums]
  rw [← vw_len, ← vw_len, doL, if_pos hk, vw_app, vw_app]
  have := vw_app (l.take (placeL l d)) (l.drop (placeL l d)) seen v
  rw [List.take_append_drop] at this
  rw [this]
  simp only [List.length_append, e]
  omega

/-- What was taken away is not seen by who has heard of it. -/
theorem mark_gone {x : Ch} {seen v by_ number : Int} (h1 : 1 ≤ number) (ho : number ≠ openN) (hn : number ≤ seen) : seesC seen v (mark by_ number x) = false := by
  show (inB x.inn x.by_ seen v && !(decide (markOut number x.out ≠ 0 ∧ markOut number x.out ≤ seen) || tookB (x.gone + 2 ^ by_.toNat) v)) = false
  have : decide (markOut number x.out ≠ 0 ∧ markOut number x.out ≤ seen) = true := by
    refine decide_eq_true ?_
    unfold markOut
    by_cases hc : x.out = 0 ∨ number < x.out
    · rw [if_pos ⟨ho, hc⟩]; omega
    · rw [if_neg (fun e => hc e.2)]; omega
  rw [this]
  simp

def tk (d : Dd) (number k : Int) (x : Ch) : Ch := if seesC d.seen d.by_ x = true ∧ d.at_ ≤ k ∧ k < d.at_ + d.many then mark d.by_ number x else x
def nx (d : Dd) (k : Int) (x : Ch) : Int := if seesC d.seen d.by_ x = true then k + 1 else k

theorem takeL_cons (d : Dd) (number k : Int) (x : Ch) (r : List Ch) : takeL d number k (x :: r) = tk d number k x :: takeL d number (nx d k x) r := by
  rw [takeL, tk, nx]
  by_cases hx : seesC d.seen d.by_ x = true
  · rw [if_pos hx, if_pos hx]
    by_cases hc : d.at_ ≤ k ∧ k < d.at_ + d.many
    · rw [if_pos hc, if_pos ⟨hx, hc⟩]
    · rw [if_neg hc, if_neg (fun e => hc e.2)]
  · rw [if_neg hx, if_neg hx, if_neg (fun e => hx e.1)]

theorem tk_far {d : Dd} {number k seen v : Int} {x : Ch} (hw : wrB d.by_ = true) (hv : v ≠ d.by_) (hn : seen < number ∨ number = openN) : seesC seen v (tk d number k x) = seesC seen v x := by
  unfold tk
  split
  · rename_i h
    exact mark_far hw (sees_took h.1) hv hn
  · rfl

/-- WHO TAKES AWAY FIRST DOES NOT MATTER. -/
theorem takes_meet {d e : Dd} {n : Int} (hd : wrB d.by_ = true) (he : wrB e.by_ = true) (hne : d.by_ ≠ e.by_) (h1 : 1 ≤ n) (ho : n + 1 < openN) (sd : d.seen < n) (se : e.seen < n) : ∀ (l : List Ch) (j k : Int),
    vw (takeL e (n + 1) j (takeL d n k l)) (n + 1) (-1) = vw (takeL d (n + 1) k (takeL e n j l)) (n + 1) (-1)
  | [], j, k => rfl
  | x :: r, j, k => by
    have ee : seesC e.seen e.by_ (tk d n k x) = seesC e.seen e.by_ x := tk_far hd (fun h => hne h.symm) (.inl se)
    have ed : seesC d.seen d.by_ (tk e n j x) = seesC d.seen d.by_ x := tk_far he hne (.inl sd)
    have ih := takes_meet hd he hne h1 ho sd se r (nx e j x) (nx d k x)
    rw [takeL_cons, takeL_cons, takeL_cons e n j x r, takeL_cons]
    rw [show nx e j (tk d n k x) = nx e j x by rw [nx, nx, ee], show nx d k (tk e n j x) = nx d k x by rw [nx, nx, ed]]
    have hc1 : (tk e (n + 1) j (tk d n k x)).c = x.c := by
      unfold tk
      split <;> split <;> rfl
    have hc2 : (tk d (n + 1) k (tk e n j x)).c = x.c := by
      unfold tk
      split <;> split <;> rfl
    have hs : seesC (n + 1) (-1) (tk e (n + 1) j (tk d n k x)) = seesC (n + 1) (-1) (tk d (n + 1) k (tk e n j x)) := by
      by_cases md : seesC d.seen d.by_ x = true ∧ d.at_ ≤ k ∧ k < d.at_ + d.many
      · have r1 : seesC (n + 1) (-1) (tk d (n + 1) k (tk e n j x)) = false := by
          rw [tk, if_pos (by rw [ed]; exact md)]
          exact mark_gone (by omega) (by omega) (by omega)
        rw [r1]
        by_cases me : seesC e.seen e.by_ x = true ∧ e.at_ ≤ j ∧ j < e.at_ + e.many
        · rw [tk, if_pos (by rw [ee]; exact me)]
          exact mark_gone (by omega) (by omega) (by omega)
        · rw [tk, if_neg (by rw [ee]; exact me), tk, if_pos md]
          exact mark_gone h1 (by omega) (by omega)
      · have t1 : tk d n k x = x := by rw [tk, if_neg md]
        have t2 : tk d (n + 1) k (tk e n j x) = tk e n j x := by rw [tk, if_neg (by rw [ed]; exact md)]
        rw [t1, t2]
        by_cases me : seesC e.seen e.by_ x = true ∧ e.at_ ≤ j ∧ j < e.at_ + e.many
        · rw [tk, if_pos me, tk, if_pos me, mark_gone (by omega) (by omega) (by omega), mark_gone h1 (by omega) (by omega)]
        · rw [tk, if_neg me, tk, if_neg me]
    by_cases hy : seesC (n + 1) (-1) (tk e (n + 1) j (tk d n k x)) = true
    · rw [vw_cons_yes _ hy, vw_cons_yes _ (hs ▸ hy), ih, hc1, hc2]
    · have hy' : seesC (n + 1) (-1) (tk e (n + 1) j (tk d n k x)) = false := by simpa using hy
      rw [vw_cons_no _ hy', vw_cons_no _ (hs ▸ hy'), ih]

/-! What a deed changes of the old bytes. -/

theorem doL_len {l : List Ch} {d : Dd} {number : Int} (ht : d.kind ≠ 1 → d.text.size = 0) : (doL l d number).length = l.length + d.text.size := by
  by_cases hk : d.kind = 1
  · rw [doL, if_pos hk, List.length_append, List.length_append, newL_len]
    have := congrArg List.length (List.take_append_drop (placeL l d) l)
    rw [List.length_append] at this
    omega
  · rw [doL, if_neg hk, takeL_len, ht hk, Nat.add_zero]

/-- Of an old byte nothing changes but its writer's bit and Out, and Out only falls, but from 0. -/
def Fell (d : Dd) (x y : Ch) : Prop :=
  y.c = x.c ∧ y.by_ = x.by_ ∧ y.no = x.no ∧ y.k = x.k ∧ y.inn = x.inn ∧ ((y.gone = x.gone ∧ y.out = x.out) ∨ (tookB y.gone d.by_ = true ∧ (y.out = x.out ∨ x.out = 0 ∨ y.out < x.out)))

theorem fell_tk {d : Dd} {number k : Int} {x : Ch} (hw : wrB d.by_ = true) : Fell d x (tk d number k x) := by
  unfold tk
  split
  · rename_i h
    refine ⟨rfl, rfl, rfl, rfl, rfl, .inr ⟨?_, ?_⟩⟩
    · show tookB (x.gone + 2 ^ d.by_.toNat) d.by_ = true
      rw [took_add hw (sees_took h.1)]
      simp
    · show markOut number x.out = x.out ∨ x.out = 0 ∨ markOut number x.out < x.out
      unfold markOut
      split
      · rename_i h2
        rcases h2.2 with h2 | h2
        · exact .inr (.inl h2)
        · exact .inr (.inr h2)
      · exact .inl rfl
  · exact ⟨rfl, rfl, rfl, rfl, rfl, .inl ⟨rfl, rfl⟩⟩

theorem takeL_fell {d : Dd} {number : Int} (hw : wrB d.by_ = true) : ∀ (l : List Ch) (k : Int) (i : Nat) (h : i < l.length) (h' : i < (takeL d number k l).length), Fell d l[i] (takeL d number k l)[i]
  | x :: r, k, 0, _, h' => by
    simp only [takeL_cons, List.getElem_cons_zero]
    exact fell_tk hw
  | x :: r, k, i + 1, h, h' => by
    simp only [takeL_cons, List.getElem_cons_succ]
    exact takeL_fell hw r _ i (by simpa using h) _

end Go.Proofs.YtfpemdbiplfkgacGreat

/-
  Plain mathematics of what is done with: the list without it, marks, and how they slide. No walk.
-/
namespace Go.Proofs.YtfpemdbiplfkgacGreat

def doneB (least : Int) (x : Ch) : Bool := decide (x.out ≠ 0 ∧ x.out ≤ least)
def ofL (least : Int) (l : List Ch) : List Ch := l.filter fun x => !doneB least x

theorem ofL_nil (least : Int) : ofL least [] = [] := rfl
theorem ofL_app (least : Int) (a b : List Ch) : ofL least (a ++ b) = ofL least a ++ ofL least b := List.filter_append ..
theorem ofL_one (least : Int) (x : Ch) : ofL least [x] = if doneB least x = true then [] else [x] := by
  cases h : doneB least x <;> simp [ofL, h]
theorem ofL_snoc (least : Int) (l : List Ch) (x : Ch) : ofL least (l ++ [x]) = ofL least l ++ if doneB least x = true then [] else [x] := by
  rw [ofL_app, ofL_one]
theorem ofL_le (least : Int) (l : List Ch) : (ofL least l).length ≤ l.length := List.length_filter_le ..

theorem ofL_take_succ (least : Int) (l : List Ch) (k : Nat) (h : k < l.length) : ofL least (l.take (k + 1)) = ofL least (l.take k) ++ if doneB least l[k] = true then [] else [l[k]] := by
  rw [take_snoc l k h, ofL_snoc]

/-- Cleared again nothing more goes; as far as less, and then as far as more, is as far as more. -/
theorem of_more {less more : Int} (h : less ≤ more) (l : List Ch) : ofL more (ofL less l) = ofL more l := by
  unfold ofL
  rw [List.filter_filter]
  congr 1
  funext x
  by_cases h1 : x.out ≠ 0 ∧ x.out ≤ less
  · have h2 : x.out ≠ 0 ∧ x.out ≤ more := ⟨h1.1, by omega⟩
    simp [doneB, h1, h2]
  · simp only [doneB, h1, decide_false, Bool.not_false, Bool.and_true]
theorem of_again (least : Int) (l : List Ch) : ofL least (ofL least l) = ofL least l := of_more (Int.le_refl _) l

/-- Who has seen the log as far sees none that is done. -/
theorem done_unseen {least seen by_ : Int} {x : Ch} (hs : least ≤ seen) (h : doneB least x = true) : seesC seen by_ x = false := by
  rw [doneB, decide_eq_true_eq] at h
  have h2 : x.out ≠ 0 ∧ x.out ≤ seen := ⟨h.1, by omega⟩
  simp [seesC, seesB, outB, h2]

theorem sees_of {least seen by_ : Int} (hs : least ≤ seen) (l : List Ch) : (ofL least l).filter (seesC seen by_) = l.filter (seesC seen by_) := by
  unfold ofL
  rw [List.filter_filter]
  congr 1
  funext x
  cases h : doneB least x
  · simp
  · simp [done_unseen hs h]
theorem vw_of {least seen : Int} (by_ : Int) (hs : least ≤ seen) (l : List Ch) : vw (ofL least l) seen by_ = vw l seen by_ := by
  unfold vw; rw [sees_of hs]
theorem cnt_of {least seen : Int} (by_ : Int) (hs : least ≤ seen) (l : List Ch) : cnt (ofL least l) seen by_ = cnt l seen by_ := by
  unfold cnt; rw [sees_of hs]

/-- Where a byte that is left stands then. -/
theorem of_split (least : Int) (l : List Ch) (k : Nat) : ofL least l = ofL least (l.take k) ++ ofL least (l.drop k) := by
  rw [← ofL_app, List.take_append_drop]
theorem of_get {least : Int} {l : List Ch} {k : Nat} (h : k < l.length) (hd : doneB least l[k] = false) :
    (ofL least (l.take k)).length < (ofL least l).length ∧ (ofL least l)[(ofL least (l.take k)).length]? = some l[k] ∧ (ofL least l).take ((ofL least (l.take k)).length + 1) = ofL least (l.take (k + 1)) := by
  have e : ofL least l = ofL least (l.take k) ++ l[k] :: ofL least (l.drop (k + 1)) := by
    have e1 : l.drop k = [l[k]] ++ l.drop (k + 1) := by rw [List.drop_eq_getElem_cons h]; rfl
    rw [of_split least l k, e1, ofL_app, ofL_one, hd]
    simp
  have e2 : ofL least (l.take (k + 1)) = ofL least (l.take k) ++ [l[k]] := by
    rw [ofL_take_succ least l k h, hd]; simp
  refine ⟨?_, ?_, ?_⟩
  · rw [e, List.length_append, List.length_cons]; omega
  · rw [e, List.getElem?_append_right (Nat.le_refl _), Nat.sub_self]; rfl
  · rw [e2, e, List.take_append, List.take_of_length_le (by omega)]
    simp

/-! The loop of ClearKeeps: how many of what is left stand ahead. -/

theorem of_take_len (least : Int) (l : List Ch) (k : Nat) : (ofL least (l.take k)).length ≤ (ofL least l).length := by
  rw [of_split least l k, List.length_append]; omega

/-! Marks. -/

structure Mk where
  start : Bool
  by_ : Int
  no : Int
  k : Int
deriving DecidableEq

/-- The mark right behind a byte. -/
def mkOf (x : Ch) : Mk := ⟨false, x.by_, x.no, x.k⟩
def mkStart : Mk := ⟨true, 0, 0, 0⟩
def mkZero : Mk := ⟨false, 0, 0, 0⟩
/-- The mark that stands at a place. -/
def atM (l : List Ch) : Nat → Mk
  | 0 => mkStart
  | p + 1 => match l[p]? with
    | some x => mkOf x
    | none => mkZero
/-- The byte that a mark names. -/
def namedBy (m : Mk) : Ch := ⟨0, m.by_, m.no, m.k, 0, 0, 0⟩
def hitM (m : Mk) (x : Ch) : Bool := decide (m = mkOf x)

/-- Where a mark stands. -/
def findM (m : Mk) (l : List Ch) : Option Nat := l.findIdx? (hitM m)
def placeM (l : List Ch) (m : Mk) : Int :=
  if m = mkStart then 0 else match findM m l with
    | some k => k + 1
    | none => -1

theorem place_bd (l : List Ch) (m : Mk) : -1 ≤ placeM l m ∧ placeM l m ≤ l.length := by
  unfold placeM
  by_cases hm : m = mkStart
  · simp [hm]
  · rw [if_neg hm]
    cases h : findM m l with
    | none => simp
    | some k =>
      have := (List.findIdx?_eq_some_iff_findIdx_eq.1 h).1
      simp; omega

theorem mkOf_start (x : Ch) : mkOf x ≠ mkStart := fun e => by simp [mkOf, mkStart] at e

/-- A place from which one slides ahead, as long as the byte ahead is done. -/
def slideN (least : Int) (l : List Ch) : Nat → Nat
  | 0 => 0
  | p + 1 => match l[p]? with
    | some x => if doneB least x = true then slideN least l p else p + 1
    | none => p + 1

theorem slide_le (least : Int) (l : List Ch) : ∀ p, slideN least l p ≤ p
  | 0 => Nat.le_refl _
  | p + 1 => by
    unfold slideN
    split
    · split
      · exact Nat.le_succ_of_le (slide_le least l p)
      · exact Nat.le_refl _
    · exact Nat.le_refl _

theorem slide_at {least : Int} {l : List Ch} {p : Nat} (h : p < l.length) : slideN least l (p + 1) = if doneB least l[p] = true then slideN least l p else p + 1 := by
  rw [slideN, List.getElem?_eq_getElem h]

/-- Where it comes to stand: at the start, or behind one that is not done. -/
theorem slide_end {least : Int} {l : List Ch} : ∀ {p : Nat}, p ≤ l.length → slideN least l p = 0 ∨ ∃ q, ∃ (hq : q < l.length), slideN least l p = q + 1 ∧ doneB least l[q] = false
  | 0, _ => .inl rfl
  | p + 1, h => by
    rw [slide_at h]
    cases hd : doneB least l[p]
    · exact .inr ⟨p, h, by simp, hd⟩
    · simpa using slide_end (p := p) (by omega)

/-- What is left of what stands ahead is the same. -/
theorem slide_of {least : Int} {l : List Ch} : ∀ {p : Nat}, p ≤ l.length → ofL least (l.take (slideN least l p)) = ofL least (l.take p)
  | 0, _ => rfl
  | p + 1, h => by
    rw [slide_at h, ofL_take_succ least l p h]
    cases hd : doneB least l[p]
    · simp [ofL_take_succ least l p h, hd]
    · simpa using slide_of (p := p) (by omega)

theorem slide_cnt {least seen : Int} (by_ : Int) {l : List Ch} {p : Nat} (hs : least ≤ seen) (h : p ≤ l.length) : cnt (l.take p) seen by_ = cnt (ofL least (l.take (slideN least l p))) seen by_ := by
  rw [slide_of h, cnt_of by_ hs]

/-- No byte stands twice. -/
def Apart (l : List Ch) : Prop := l.Pairwise fun x y => ¬ (x.by_ = y.by_ ∧ x.no = y.no ∧ x.k = y.k)

theorem Apart.of {l : List Ch} (h : Apart l) (least : Int) : Apart (ofL least l) := List.Pairwise.filter _ h

theorem find_at {l : List Ch} (ha : Apart l) {k : Nat} (h : k < l.length) : findM (mkOf l[k]) l = some k := by
  unfold findM
  rw [List.findIdx?_eq_some_iff_getElem]
  refine ⟨h, by simp [hitM], fun j hj => ?_⟩
  have := List.pairwise_iff_getElem.1 ha j k (by omega) h hj
  intro e
  have e' : mkOf l[k] = mkOf l[j] := of_decide_eq_true e
  simp only [mkOf, Mk.mk.injEq, true_and] at e'
  exact this ⟨e'.1.symm, e'.2.1.symm, e'.2.2.symm⟩

theorem place_at {l : List Ch} (ha : Apart l) {p : Nat} (h : p ≤ l.length) : placeM l (atM l p) = p := by
  cases p with
  | zero => simp [placeM, atM]
  | succ p =>
    rw [atM, List.getElem?_eq_getElem h]
    show placeM l (mkOf l[p]) = _
    rw [placeM, if_neg (mkOf_start _), find_at ha h]
    simp

/-- A MARK KEEPS ITS PLACE: slid, it stands in what is left, and has as many bytes ahead that one sees. -/
theorem slide_keeps {least seen : Int} (by_ : Int) {l : List Ch} (ha : Apart l) (hs : least ≤ seen) {p : Nat} (h : p ≤ l.length) :
    ∃ t : Nat, t ≤ (ofL least l).length ∧ placeM (ofL least l) (atM l (slideN least l p)) = t ∧ cnt (l.take p) seen by_ = cnt ((ofL least l).take t) seen by_ := by
  rcases slide_end (least := least) h with e | ⟨q, hq, e, hd⟩
  · refine ⟨0, Nat.zero_le _, by rw [e]; simp [placeM, atM], ?_⟩
    rw [slide_cnt by_ hs h, e]
    rfl
  · obtain ⟨g1, g2, g3⟩ := of_get hq hd
    refine ⟨(ofL least (l.take q)).length + 1, g1, ?_, ?_⟩
    · rw [e, atM, List.getElem?_eq_getElem hq]
      have h3 := find_at (ha.of least) g1
      rw [List.getElem?_eq_getElem g1, Option.some.injEq] at g2
      rw [g2] at h3
      show placeM (ofL least l) (mkOf l[q]) = _
      rw [placeM, if_neg (mkOf_start _), h3]
      simp
    · rw [slide_cnt by_ hs h, e, g3]

/-- The law's own look at a list: found at its own place, each stands once. -/
theorem apart_of {l : List Ch} (h : ∀ k (hk : k < l.length), FindIs l l[k] k) : Apart l := by
  unfold Apart
  rw [List.pairwise_iff_getElem]
  intro i j hi hj hij hs
  rcases h j hj with ⟨k, hk, hno, _, e⟩ | ⟨_, e⟩
  · obtain rfl : j = k := by omega
    have := hno i hij
    rw [sameAt, List.getElem?_eq_getElem hi] at this
    simp [sameB, hs.1, hs.2.1, hs.2.2] at this
  · omega

end Go.Proofs.YtfpemdbiplfkgacGreat
