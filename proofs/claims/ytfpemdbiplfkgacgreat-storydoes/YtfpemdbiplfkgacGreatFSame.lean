/-
  Plain mathematics: what a writer of the program keeps, held against the writer by the document, whatever comes. No walk.
-/
import Derived.Test.YtfpemdbiplfkgacGreatWTook
import Derived.Test.YtfpemdbiplfkgacGreatTPlain
import Derived.Test.YtfpemdbiplfkgacGreatLMem
import Derived.Test.YtfpemdbiplfkgacGreatFTakeP
import Derived.Test.YtfpemdbiplfkgacGreatCPlain
import Derived.Test.YtfpemdbiplfkgacGreatFStage
import Derived.BigRegion
import Derived.Test.YtfpemdbiplfkgacGreatFMem
namespace Go.Proofs.YtfpemdbiplfkgacGreat

/-- What the program's writer keeps besides: of each open deed what it took away. -/
structure Rel (r : Wr) (ts : List (List Ch)) : Prop where
  tk : tkTop r.base r.opens ts
  nums : Nums r.me r.base r.opens
  low : ∀ x ∈ r.base, x.by_ = r.me → x.no < r.next
  up : ∀ e ∈ r.opens, e.no < r.next
  n1 : 1 ≤ r.next
  n2 : r.next ≤ 121

theorem WI.no_open {b : Bk} {c : Int} {r : Wr} (h : WI b c r) (hg : Good b) : ∀ x ∈ r.base, 1 ≤ x.inn ∧ x.inn ≤ r.seen ∧ 0 ≤ x.out ∧ x.out ≤ r.seen ∧ 0 ≤ x.gone ∧ x.gone ≤ 15 := by
  intro x hx
  rw [h.base] at hx
  have hx' := (List.mem_filter.1 hx).1
  have hm := (chars_made hg r.seen h.seen).1
  have h1 := hm.inn x hx'
  have h2 := hm.out x hx'
  have h3 := hm.gone x hx'
  omega

theorem WI.apart {b : Bk} {c : Int} {r : Wr} (h : WI b c r) (hg : Good b) : Apart r.base := by
  rw [h.base]
  exact Apart.of (chars_made hg r.seen h.seen).1.one c

theorem Rel.does {r : Wr} {ts : List (List Ch)} (h : Rel r ts) {e : Dd} (hb : e.by_ = r.me) (hn : e.no = r.next) (hc : doC r.list e openN = 0) :
    Rel ⟨r.me, r.seen, r.next + 1, r.base, r.opens ++ [e], r.sent⟩ (ts ++ [tookL r.list e]) := by
  have hno := (check_parts (doC_zero hc).1).2.2.2.1
  have h1 := h.n1
  refine ⟨tkTop_snoc e h.tk, ⟨h.nums.ap, ?_, ?_, ?_⟩, ?_, ?_, ?_, ?_⟩
  · intro x hx hm y hy
    rcases List.mem_append.1 hy with hy | hy
    · exact h.nums.low x hx hm y hy
    · obtain rfl : y = e := by simpa using hy
      rw [hn]; exact h.low x hx hm
  · refine List.pairwise_append.2 ⟨h.nums.up, List.pairwise_singleton _ _, ?_⟩
    intro x hx y hy
    obtain rfl : y = e := by simpa using hy
    rw [hn]; exact h.up x hx
  · intro y hy
    rcases List.mem_append.1 hy with hy | hy
    · exact h.nums.by_ y hy
    · obtain rfl : y = e := by simpa using hy
      exact hb
  · intro x hx hm
    have := h.low x hx hm
    show x.no < r.next + 1
    omega
  · intro y hy
    show y.no < r.next + 1
    rcases List.mem_append.1 hy with hy | hy
    · have := h.up y hy; omega
    · obtain rfl : y = e := by simpa using hy
      omega
  · show 1 ≤ r.next + 1; omega
  · show r.next + 1 ≤ 121; omega

theorem Rel.sends {r : Wr} {ts : List (List Ch)} (h : Rel r ts) (s : Nat) : Rel ⟨r.me, r.seen, r.next, r.base, r.opens, s⟩ ts := ⟨h.tk, h.nums, h.low, h.up, h.n1, h.n2⟩

theorem Rel.clears {b : Bk} {c : Int} {r : Wr} {ts : List (List Ch)} (h : Rel r ts) (hw : WI b c r) (hg : Good b) {least : Int} (hl : ∀ e ∈ r.opens, least ≤ e.seen) : Rel ⟨r.me, r.seen, r.next, ofL least r.base, r.opens, r.sent⟩ ts := by
  have hm : Mine r.me r.base := by rw [hw.base]; exact (chars_mine hg hw.seen r.me).of c
  have hs : ∀ x ∈ ofL least r.base, x ∈ r.base := fun x hx => (List.mem_filter.1 hx).1
  exact ⟨tkTop_clear r.opens ts r.base hm (fun e he => ⟨h.nums.by_ e he, hl e he⟩) (hw.list_eq hg).1 h.tk, ⟨h.nums.ap.of least, fun x hx => h.nums.low x (hs x hx), h.nums.up, h.nums.by_⟩, fun x hx => h.low x (hs x hx), h.up, h.n1, h.n2⟩

theorem WI.opens_least {b : Bk} {c : Int} {w : Wr} (h : WI b c w) {least : Int} (h1 : least ≤ leastL b) (h2 : ∀ d ∈ b.ds.drop w.seen, least ≤ d.seen) : ∀ e ∈ w.opens, least ≤ e.seen := by
  have hsaid := least_said h.wr h.here
  have hs := h.said
  intro e he
  obtain ⟨i, hi, rfl⟩ := List.mem_iff_getElem.1 he
  by_cases hs' : i < w.sent
  · have : w.opens[i] ∈ w.opens.take w.sent := by
      rw [List.mem_take_iff_getElem]
      exact ⟨i, by omega, rfl⟩
    rw [← h.told] at this
    exact h2 _ (List.mem_filter.1 this).1
  · have := h.unsent (i := i) (by omega) (List.getElem?_eq_getElem hi)
    omega

theorem Rel.hears_other {b : Bk} {c : Int} {r : Wr} {ts : List (List Ch)} (h : Rel r ts) (hw : WI b c r) (hg : Good b) (hi : r.seen < b.ds.length) (hne : b.ds[r.seen].by_ ≠ r.me) :
    Rel ⟨r.me, r.seen + 1, r.next, doL r.base b.ds[r.seen] ((r.seen : Int) + 1), r.opens, r.sent⟩ ts := by
  obtain ⟨n1, n2⟩ := seen_next hg hi
  obtain ⟨b1, b2⟩ := hw.base_next hg hi
  have hm : Mine r.me r.base := by rw [hw.base]; exact (chars_mine hg hw.seen r.me).of c
  have hes : ∀ e ∈ r.opens, e.by_ = r.me ∧ e.seen < (r.seen : Int) + 1 := fun e he => ⟨(hw.own e he).1, by have := (hw.own e he).2.1; omega⟩
  have hold : ∀ y ∈ doL r.base b.ds[r.seen] ((r.seen : Int) + 1), y.by_ = r.me → ∃ x ∈ r.base, x.by_ = r.me ∧ y.no = x.no := by
    intro y hy hb
    rcases mem_do hy with hy | ⟨x, hx, h1, h2, _⟩
    · exact absurd ((new_parts hy).2.1.symm.trans hb) hne
    · exact ⟨x, hx, h1.symm.trans hb, h2⟩
  refine ⟨tkTop_other hne n1 n2 r.opens ts r.base hm hes (hw.list_eq hg).1 (fit_of b1) h.tk, ⟨?_, ?_, h.nums.up, h.nums.by_⟩, ?_, h.up, h.n1, h.n2⟩
  · rw [b2]
    exact Apart.of (chars_made hg (r.seen + 1) hi).1.one c
  · intro y hy hb e he
    obtain ⟨x, hx, h1, h2⟩ := hold y hy hb
    rw [h2]; exact h.nums.low x hx h1 e he
  · intro y hy hb
    obtain ⟨x, hx, h1, h2⟩ := hold y hy hb
    show y.no < r.next
    rw [h2]; exact h.low x hx h1

/-- To hear its own: its list byte by byte, and what is kept. -/
theorem Rel.hears_own {b : Bk} {c : Int} {r : Wr} {t : List Ch} {ts : List (List Ch)} (h : Rel r (t :: ts)) (hw : WI b c r) (hg : Good b) (hi : r.seen < b.ds.length) {es : List Dd} (he : r.opens = b.ds[r.seen] :: es) :
    Rel ⟨r.me, r.seen + 1, r.next, doL r.base b.ds[r.seen] ((r.seen : Int) + 1), es, r.sent - 1⟩ (ts.map fun u => u.map (numF b.ds[r.seen].no ((r.seen : Int) + 1))) ∧
    onTop (doL r.base b.ds[r.seen] ((r.seen : Int) + 1)) es = r.list.map (ackF b.ds[r.seen].no ((r.seen : Int) + 1) t) := by
  obtain ⟨n1, n2⟩ := seen_next hg hi
  have hm : Mine r.me r.base := by rw [hw.base]; exact (chars_mine hg hw.seen r.me).of c
  have hes : ∀ e ∈ r.opens, e.by_ = r.me ∧ e.seen < (r.seen : Int) + 1 := fun e he => ⟨(hw.own e he).1, by have := (hw.own e he).2.1; omega⟩
  have hno := hw.no_open hg
  have hN := h.nums
  have ht := h.tk
  have hf := (hw.list_eq hg).1
  rw [he] at hN ht hf hes
  have hck := hf.1.1
  have hlist : r.list = onTop (doL r.base b.ds[r.seen] openN) es := by rw [Wr.list, he]; rfl
  obtain ⟨a1, a2, a3⟩ := ack_one (t := t) (n := (r.seen : Int) + 1) (by omega) n2 hN (fun x hx => by have := hno x hx; omega) (fun x hx => by have := hno x hx; omega) hck ht.1
  have hm2 : Mine r.me (doL r.base b.ds[r.seen] openN) := mine_do hm (fun _ => hN.by_ _ (by simp))
  obtain ⟨c1, c2⟩ := top_ack n2 es ts _ (fun e hx => hes e (by simp [hx])) hm2 a2 a3 ht.2
  rw [← a1] at c1 c2
  refine ⟨⟨c2, hN.next _, ?_, fun e hx => h.up e (by rw [he]; simp [hx]), h.n1, h.n2⟩, by rw [c1, hlist]⟩
  intro y hy hb
  show y.no < r.next
  rcases mem_do hy with hy | ⟨x, hx, h1, h2, _⟩
  · rw [(new_parts hy).2.2.2.2]; exact h.up _ (by rw [he]; simp)
  · rw [h2]; exact h.low x hx (h1.symm.trans hb)

theorem Rel.comes_in {b : Bk} (hg : Good b) (v : Int) : Rel ⟨v, b.ds.length, b.last v + 1, b.chars, [], 0⟩ [] := by
  have hm := good_made hg
  have hl := lastAt_bound hg v
  have hsm : b.len ≤ 120 := by have := hg.small; show (b.ds.length : Int) ≤ 120; omega
  refine ⟨trivial, ⟨hm.one, fun _ _ _ e he => (by cases he), List.Pairwise.nil, fun e he => (by cases he)⟩, ?_, fun e he => (by cases he), ?_, ?_⟩
  · intro x hx hb
    have h1 := (hm.no x hx).2
    have hb' : x.by_ = v := hb
    rw [hb', ← hg.last] at h1
    show x.no < b.last v + 1
    omega
  · show 1 ≤ b.last v + 1; omega
  · show b.last v + 1 ≤ 121; omega

/-- What it knows, as if nothing were open. -/
theorem Rel.known {b : Bk} {c : Int} {r : Wr} {ts : List (List Ch)} (h : Rel r ts) (hw : WI b c r) (hg : Good b) : knownL r.me ts r.list = r.base := by
  rw [Wr.list, known_top hw.wr r.opens ts r.base h.nums (hw.list_eq hg).1 h.tk, List.filter_eq_self]
  intro x hx
  have h1 := hw.no_open hg x hx
  have h2 := hw.small hg
  have h3 : (openN : Int) = 1073741824 := rfl
  simp [notOpen]
  omega

/-! What is so of its list: bounds. -/

theorem tame_top {me : Int} : ∀ (es : List Dd) {l : List Ch}, (∀ x ∈ l, 0 ≤ x.out ∧ 0 ≤ x.gone ∧ x.gone ≤ 15) → fitTop l es → ∀ x ∈ onTop l es, 0 ≤ x.out ∧ 0 ≤ x.gone ∧ x.gone ≤ 15
  | [], _, h, _ => h
  | e :: es, l, h, hf => by
    refine tame_top (me := me) es (fun y hy => ?_) hf.2
    rcases mem_do hy with hy | ⟨x, hx, _, _, _, _, rfl | ⟨hs, rfl⟩⟩
    · have := new_parts hy
      omega
    · exact h y hx
    · have hx' := h x hx
      have := gone_add (fit_wr hf.1) (sees_took hs) hx'.2.1 hx'.2.2
      refine ⟨?_, this.1, this.2.1⟩
      show 0 ≤ markOut openN x.out
      rw [mark_open]; exact hx'.1

theorem WI.tame {b : Bk} {c : Int} {r : Wr} (h : WI b c r) (hg : Good b) : ∀ x ∈ r.list, 0 ≤ x.out ∧ 0 ≤ x.gone ∧ x.gone ≤ 15 :=
  tame_top (me := r.me) r.opens (fun x hx => by have := h.no_open hg x hx; omega) (h.list_eq hg).1

theorem WI.fits {b : Bk} {c : Int} {r : Wr} (h : WI b c r) (hg : Good b) : FitsL r.list := fun x hx => by
  have := h.tame hg x hx
  omega

theorem WI.few {b : Bk} {c : Int} {r : Wr} {ts : List (List Ch)} (h : WI b c r) (hr : Rel r ts) (hg : Good b) : r.opens.length ≤ 120 := by
  cases hes : r.opens with
  | nil => simp
  | cons e es =>
    have h0 := h.no 0 e (by rw [hes]; rfl)
    have hf := (h.list_eq hg).1
    rw [hes] at hf
    have h1 := (check_parts hf.1.1).2.2.1
    have h2 := hr.n2
    rw [hes] at h0
    simp only [Int.natCast_zero] at h0
    omega

end Go.Proofs.YtfpemdbiplfkgacGreat

/-
  A writer of the program, and one by the document, in memory: which blocks are theirs, and what a step on another one leaves of them. No walk.
-/
namespace Go.Proofs.YtfpemdbiplfkgacGreat
open Go.RowKit

/-! A cell of a byte of an owned list is set. -/

theorem set_field : ∀ (l : List Ch) (i r : Nat) (y : Ch) (u : Value) (hi : i < l.length), r < 7 → (chCells l[i]).set r u = chCells y → (cells7 l).set (i * 7 + r) u = cells7 (l.set i y)
  | [], i, _, _, _, hi, _, _ => absurd hi (Nat.not_lt_zero _)
  | x :: l, 0, r, y, u, _, hr, hy => by
    have h7 : (chCells x).length = 7 := rfl
    rw [Nat.zero_mul, Nat.zero_add, cells7, List.set_append_left (h := by omega), List.set_cons_zero, cells7]
    have hy' : (chCells x).set r u = chCells y := hy
    rw [hy']
  | x :: l, i + 1, r, y, u, hi, hr, hy => by
    have h7 : (chCells x).length = 7 := rfl
    have := set_field l i r y u (by simpa using hi) hr hy
    rw [cells7, List.set_append_right (h := by rw [h7]; omega), List.set_cons_succ, cells7, h7, show (i + 1) * 7 + r - 7 = i * 7 + r by omega, this]

theorem own_field {w : World} {base g n cap : Nat} {L : List Ch} (h : Own w base (.slice (some ⟨g, 0, none⟩) n cap) L) (hn : L.length = n) {i r : Nat} (hi : i < L.length) (hr : r < 7) {y : Ch} {u : Value} (hy : (chCells L[i]).set r u = chCells y) :
    Own (w.setCell ⟨g, i * 7 + r, none⟩ u) base (.slice (some ⟨g, 0, none⟩) n cap) (L.set i y) := by
  unfold Own at h ⊢
  rw [List.length_set, ← set_field L i r y u hi hr hy, hn]
  rw [hn] at h
  exact (h.stored _ _).1

/-! Open deeds, with what is kept of each: eight cells. -/

def ooCells (x : Dd × Value) : List Value := ddCells x.1 ++ [x.2]
def cellsO : List (Dd × Value) → List Value
  | [] => []
  | x :: r => ooCells x ++ cellsO r

theorem ooCells_len (x : Dd × Value) : (ooCells x).length = 8 := rfl
theorem cellsO_len : ∀ l : List (Dd × Value), (cellsO l).length = l.length * 8
  | [] => rfl
  | x :: r => by
    rw [cellsO, List.length_append, cellsO_len r, List.length_cons, ooCells_len]
    omega
theorem cellsO_app : ∀ a b : List (Dd × Value), cellsO (a ++ b) = cellsO a ++ cellsO b
  | [], b => rfl
  | x :: r, b => by rw [List.cons_append, cellsO, cellsO_app r b, cellsO, List.append_assoc]
theorem cellsO_one : ∀ (l : List (Dd × Value)) (_ : ∀ x ∈ l, x.2.oneCell' = true) (u : Value), u ∈ cellsO l → u.oneCell' = true
  | [], _, u, h => by simp [cellsO] at h
  | x :: r, hl, u, h => by
    rw [cellsO, List.mem_append] at h
    rcases h with h | h
    · simp [ooCells, ddCells] at h
      rcases h with rfl | rfl | rfl | rfl | rfl | rfl | rfl | rfl
      all_goals first | rfl | exact hl x (by simp)
    · exact cellsO_one r (fun y hy => hl y (by simp [hy])) u h
theorem cellsO_get : ∀ (l : List (Dd × Value)) (i r : Nat) (hi : i < l.length), r < 8 → (cellsO l)[i * 8 + r]? = (ooCells l[i])[r]?
  | [], i, r, hi, _ => absurd hi (Nat.not_lt_zero _)
  | x :: l, 0, r, _, hr => by
    rw [cellsO, Nat.zero_mul, Nat.zero_add, List.getElem?_append_left (by rw [ooCells_len]; exact hr)]
    rfl
  | x :: l, i + 1, r, hi, hr => by
    rw [cellsO, List.getElem?_append_right (by rw [ooCells_len]; omega), ooCells_len, show (i + 1) * 8 + r - 8 = i * 8 + r by omega, cellsO_get l i r (by simpa using hi) hr]
    rfl

def OwnO (w : World) (base : Nat) (v : Value) (l : List (Dd × Value)) : Prop := w.ownsRow base 117 8 v l.length (cellsO l)

theorem ownO_nil (w : World) (base : Nat) : OwnO w base (.slice none 0 0) [] := World.ownsRow_nil _ _ _ _
theorem OwnO.len {w : World} {base : Nat} {v : Value} {l : List (Dd × Value)} (h : OwnO w base v l) : ∃ a cap, v = .slice a l.length cap := by
  rcases h.2 with ⟨rfl, hn⟩ | ⟨g, cap, cur, rfl, _⟩
  · exact ⟨none, 0, by rw [hn]⟩
  · exact ⟨_, cap, rfl⟩
theorem OwnO.place {w : World} {base : Nat} {v : Value} {l : List (Dd × Value)} (h : OwnO w base v l) (hk : 0 < l.length) : ∃ g cap, v = .slice (some ⟨g, 0, none⟩) l.length cap := by
  rcases h.2 with ⟨_, hn⟩ | ⟨g, cap, cur, rfl, _⟩
  · omega
  · exact ⟨g, cap, rfl⟩
theorem OwnO.below {w w' : World} {base : Nat} {v : Value} {l : List (Dd × Value)} (h : OwnO w base v l) (hb : Below w.heap.size w w') : OwnO w' base v l :=
  World.ownsRow.kept (row := none) h ⟨hb.os, hb.tape, hb.output, hb.size, fun k hk _ => hb.block k hk⟩ (by cases h' : v.ownBlock <;> simp)

/-- One open deed in memory. -/
structure OoAt (w : World) (B o : Nat) (d : Dd) (tv : Value) : Prop where
  deed : DdAt w B o d
  took : w.cell? ⟨B, o + 7, none⟩ = some tv

theorem OwnO.nth {w : World} {base g n cap : Nat} {l : List (Dd × Value)} (h : OwnO w base (.slice (some ⟨g, 0, none⟩) n cap) l) (hn : l.length = n) {i : Nat} (hi : i < l.length) : OoAt w g (i * 8) l[i].1 l[i].2 := by
  unfold OwnO at h
  rw [hn] at h
  have hlt := (World.ownsRow.lt h g rfl).2
  have key : ∀ r, r < 8 → w.cell? ⟨g, i * 8 + r, none⟩ = (ooCells l[i])[r]? := fun r hr => by
    rw [World.ownsRow.cellAt h (i * 8 + r) (by omega), cellsO_get l i r hi hr]
  exact ⟨⟨hlt, key 0 (by omega), key 1 (by omega), key 2 (by omega), key 3 (by omega), key 4 (by omega), key 5 (by omega), key 6 (by omega)⟩, key 7 (by omega)⟩

/-! Lists that are kept. -/

def Tooks (w : World) (base : Nat) : List Value → List (List Ch) → Prop
  | [], [] => True
  | v :: vs, t :: ts => Own w base v t ∧ Tooks w base vs ts
  | _, _ => False

theorem Tooks.len {w : World} {base : Nat} : ∀ {vs : List Value} {ts : List (List Ch)}, Tooks w base vs ts → vs.length = ts.length
  | [], [], _ => rfl
  | _ :: _, _ :: _, h => by rw [List.length_cons, List.length_cons, Tooks.len h.2]
  | [], _ :: _, h => h.elim
  | _ :: _, [], h => h.elim
theorem Tooks.of_block {w w' : World} {base : Nat} : ∀ {vs : List Value} {ts : List (List Ch)}, Tooks w base vs ts → (∀ v ∈ vs, ∀ k, v.ownBlock = some k → w'.heap[k]? = w.heap[k]?) → Tooks w' base vs ts
  | [], [], _, _ => trivial
  | v :: vs, _ :: _, h, hb => ⟨owns_block h.1 (hb v (by simp)), Tooks.of_block h.2 (fun u hu => hb u (by simp [hu]))⟩
  | [], _ :: _, h, _ => h.elim
  | _ :: _, [], h, _ => h.elim
theorem Tooks.nth {w : World} {base : Nat} : ∀ {vs : List Value} {ts : List (List Ch)}, Tooks w base vs ts → ∀ (i : Nat) (hi : i < vs.length) (ht : i < ts.length), Own w base vs[i] ts[i]
  | [], [], _, i, hi, _ => absurd hi (Nat.not_lt_zero _)
  | v :: vs, t :: ts, h, 0, _, _ => h.1
  | v :: vs, t :: ts, h, i + 1, hi, ht => Tooks.nth h.2 i (by simpa using hi) (by simpa using ht)
  | [], _ :: _, h, _, _, _ => h.elim
  | _ :: _, [], h, _, _, _ => h.elim
theorem Tooks.lt {w : World} {base : Nat} : ∀ {vs : List Value} {ts : List (List Ch)}, Tooks w base vs ts → ∀ v ∈ vs, ∀ k, v.ownBlock = some k → base ≤ k ∧ k < w.heap.size
  | [], [], _, _, hv, _, _ => by cases hv
  | v :: vs, t :: ts, h, u, hu, k, e => by
    rcases List.mem_cons.1 hu with rfl | hu
    · exact World.ownsRow.lt h.1 k e
    · exact Tooks.lt h.2 u hu k e
  | [], _ :: _, h, _, _, _, _ => h.elim
  | _ :: _, [], h, _, _, _, _ => h.elim
theorem Tooks.snoc {w : World} {base : Nat} {v : Value} {t : List Ch} (ho : Own w base v t) : ∀ {vs : List Value} {ts : List (List Ch)}, Tooks w base vs ts → Tooks w base (vs ++ [v]) (ts ++ [t])
  | [], [], _ => ⟨ho, trivial⟩
  | _ :: _, _ :: _, h => ⟨h.1, Tooks.snoc ho h.2⟩
  | [], _ :: _, h => h.elim
  | _ :: _, [], h => h.elim
theorem Tooks.one {w : World} {base : Nat} : ∀ {vs : List Value} {ts : List (List Ch)}, Tooks w base vs ts → ∀ v ∈ vs, v.oneCell' = true
  | [], [], _, _, hv => by cases hv
  | v :: vs, t :: ts, h, u, hu => by
    rcases List.mem_cons.1 hu with rfl | hu
    · obtain ⟨a, cap, rfl, _⟩ := h.1.lst.len
      rfl
    · exact Tooks.one h.2 u hu
  | [], _ :: _, h, _, _ => h.elim
  | _ :: _, [], h, _, _ => h.elim

/-! A writer of the program. -/

structure PwC (w : World) (P : Nat) (lv ov : Value) (me next seen sent : Int) : Prop where
  lt : P < w.heap.size
  me : w.cell? ⟨P, 0, none⟩ = some (.int .i64 me)
  next : w.cell? ⟨P, 1, none⟩ = some (.int .i64 next)
  seen : w.cell? ⟨P, 2, none⟩ = some (.int .i64 seen)
  list : w.cell? ⟨P, 3, none⟩ = some lv
  opens : w.cell? ⟨P, 4, none⟩ = some ov
  sent : w.cell? ⟨P, 5, none⟩ = some (.int .i64 sent)
  free : ∀ o, o < 6 → w.frozen? ⟨P, o, none⟩ = false

theorem PwC.kept {w w' : World} {P : Nat} {lv ov : Value} {me next seen sent : Int} (h : PwC w P lv ov me next seen sent) (hs : w.heap.size ≤ w'.heap.size) (hb : w'.heap[P]? = w.heap[P]?) : PwC w' P lv ov me next seen sent := by
  have hc : ∀ o, w'.cell? ⟨P, o, none⟩ = w.cell? ⟨P, o, none⟩ := fun o => World.cell?_of_block (a := ⟨P, o, none⟩) hb
  have hf : ∀ o, w'.frozen? ⟨P, o, none⟩ = w.frozen? ⟨P, o, none⟩ := fun o => World.frozen?_of_block (a := ⟨P, o, none⟩) hb
  exact ⟨Nat.lt_of_lt_of_le h.lt hs, by rw [hc]; exact h.me, by rw [hc]; exact h.next, by rw [hc]; exact h.seen, by rw [hc]; exact h.list, by rw [hc]; exact h.opens, by rw [hc]; exact h.sent, fun o ho => by rw [hf]; exact h.free o ho⟩

/-- A writer in memory, in blocks of S: its list, its open deeds, and of each what is kept. -/
structure PwAt (w : World) (base : Nat) (S : Nat → Prop) (P : Nat) (lv ov : Value) (tvs : List Value) (l : List Ch) (es : List Dd) (ts : List (List Ch)) (me next seen sent : Int) : Prop where
  lo : ∀ k, S k → base ≤ k ∧ k < w.heap.size
  hP : S P
  cells : PwC w P lv ov me next seen sent
  ownL : Own w base lv l
  ownO : OwnO w base ov (es.zip tvs)
  len : tvs.length = es.length
  tooks : Tooks w base tvs ts
  lB : ∀ k, lv.ownBlock = some k → S k ∧ k ≠ P
  oB : ∀ k, ov.ownBlock = some k → S k ∧ k ≠ P ∧ lv.ownBlock ≠ some k
  tB : ∀ tv ∈ tvs, ∀ k, tv.ownBlock = some k → S k ∧ k ≠ P ∧ lv.ownBlock ≠ some k ∧ ov.ownBlock ≠ some k
  tD : tvs.Pairwise fun a b => ∀ k, a.ownBlock = some k → b.ownBlock ≠ some k

abbrev PwIs (w : World) (base : Nat) (S : Nat → Prop) (P : Nat) (lv ov : Value) (tvs : List Value) (r : Wr) (ts : List (List Ch)) : Prop := PwAt w base S P lv ov tvs r.list r.opens ts r.me r.next r.seen r.sent

theorem PwAt.kept {w w' : World} {base P : Nat} {S T : Nat → Prop} {lv ov : Value} {tvs : List Value} {l : List Ch} {es : List Dd} {ts : List (List Ch)} {me next seen sent : Int} (h : PwAt w base S P lv ov tvs l es ts me next seen sent) (hk : Kept T w w') (hd : ∀ k, S k → ¬ T k) : PwAt w' base S P lv ov tvs l es ts me next seen sent := by
  have hb : ∀ k, S k → w'.heap[k]? = w.heap[k]? := fun k hs => hk.block k (h.lo k hs).2 (hd k hs)
  exact ⟨fun k hs => ⟨(h.lo k hs).1, Nat.lt_of_lt_of_le (h.lo k hs).2 hk.size⟩, h.hP, h.cells.kept hk.size (hb P h.hP), owns_block h.ownL (fun k e => hb k (h.lB k e).1), owns_block h.ownO (fun k e => hb k (h.oB k e).1), h.len, h.tooks.of_block (fun v hv k e => hb k (h.tB v hv k e).1), h.lB, h.oB, h.tB, h.tD⟩

theorem PwAt.below {w w' : World} {base P : Nat} {S : Nat → Prop} {lv ov : Value} {tvs : List Value} {l : List Ch} {es : List Dd} {ts : List (List Ch)} {me next seen sent : Int} (h : PwAt w base S P lv ov tvs l es ts me next seen sent) (hb : Below w.heap.size w w') : PwAt w' base S P lv ov tvs l es ts me next seen sent :=
  h.kept (T := fun _ => False) (.of_below hb) (fun _ _ e => e)

theorem PwAt.base_le {w : World} {base P : Nat} {S : Nat → Prop} {lv ov : Value} {tvs : List Value} {l : List Ch} {es : List Dd} {ts : List (List Ch)} {me next seen sent : Int} (h : PwAt w base S P lv ov tvs l es ts me next seen sent) : base ≤ w.heap.size := by
  have := h.lo P h.hP
  omega

theorem PwAt.mono {w : World} {base P : Nat} {S T : Nat → Prop} {lv ov : Value} {tvs : List Value} {l : List Ch} {es : List Dd} {ts : List (List Ch)} {me next seen sent : Int} (h : PwAt w base S P lv ov tvs l es ts me next seen sent) (hT : ∀ k, S k → T k) (hl : ∀ k, T k → base ≤ k ∧ k < w.heap.size) : PwAt w base T P lv ov tvs l es ts me next seen sent :=
  ⟨hl, hT _ h.hP, h.cells, h.ownL, h.ownO, h.len, h.tooks, fun k e => ⟨hT k (h.lB k e).1, (h.lB k e).2⟩, fun k e => ⟨hT k (h.oB k e).1, (h.oB k e).2⟩, fun tv ht k e => ⟨hT k (h.tB tv ht k e).1, (h.tB tv ht k e).2⟩, h.tD⟩

/-- A writer behind a step. -/
structure PwTo (w : World) (base : Nat) (S : Nat → Prop) (P : Nat) (l : List Ch) (es : List Dd) (ts : List (List Ch)) (me next seen sent : Int) (w' : World) : Prop where
  at_ : ∃ lv ov tvs, PwAt w' base (grow S w w') P lv ov tvs l es ts me next seen sent
  kept : Kept S w w'

theorem grow_lo {w w' : World} {base : Nat} {S : Nat → Prop} (hb : base ≤ w.heap.size) (hs : w.heap.size ≤ w'.heap.size) (hl : ∀ k, S k → base ≤ k ∧ k < w.heap.size) : ∀ k, grow S w w' k → base ≤ k ∧ k < w'.heap.size := fun k e => by
  rcases e with e | e
  · have := hl k e; omega
  · omega

theorem PwAt.stay {w w' : World} {base P : Nat} {S : Nat → Prop} {lv ov : Value} {tvs : List Value} {l : List Ch} {es : List Dd} {ts : List (List Ch)} {me next seen sent : Int} (h : PwAt w base S P lv ov tvs l es ts me next seen sent) (hb : Below w.heap.size w w') : PwTo w base S P l es ts me next seen sent w' :=
  ⟨⟨lv, ov, tvs, (h.below hb).mono (fun _ => .inl) (grow_lo h.base_le hb.size h.lo)⟩, .of_below hb⟩

theorem PwTo.after {w w' w'' : World} {base P : Nat} {S : Nat → Prop} {l : List Ch} {es : List Dd} {ts : List (List Ch)} {me next seen sent : Int} (h : PwTo w base S P l es ts me next seen sent w') (h0 : base ≤ w.heap.size ∧ ∀ k, S k → base ≤ k ∧ k < w.heap.size) (hb : Below w'.heap.size w' w'') : PwTo w base S P l es ts me next seen sent w'' := by
  obtain ⟨⟨lv, ov, tvs, hat⟩, hk⟩ := h
  have h1 := hk.size
  have h2 := hb.size
  exact ⟨⟨lv, ov, tvs, (hat.below hb).mono (fun k hk => hk.elim .inl (fun e => .inr ⟨e.1, Nat.lt_of_lt_of_le e.2 h2⟩)) (grow_lo h0.1 (Nat.le_trans h1 h2) h0.2)⟩, hk.after hb⟩

/-! A writer by the document. -/

structure ScC (w : World) (Q : Nat) (bv ov : Value) (me seen next sent : Int) : Prop where
  lt : Q < w.heap.size
  me : w.cell? ⟨Q, 0, none⟩ = some (.int .i64 me)
  seen : w.cell? ⟨Q, 1, none⟩ = some (.int .i64 seen)
  next : w.cell? ⟨Q, 2, none⟩ = some (.int .i64 next)
  base : w.cell? ⟨Q, 3, none⟩ = some bv
  opens : w.cell? ⟨Q, 4, none⟩ = some ov
  sent : w.cell? ⟨Q, 5, none⟩ = some (.int .i64 sent)
  free : ∀ o, o < 6 → w.frozen? ⟨Q, o, none⟩ = false

theorem ScC.kept {w w' : World} {Q : Nat} {bv ov : Value} {me seen next sent : Int} (h : ScC w Q bv ov me seen next sent) (hs : w.heap.size ≤ w'.heap.size) (hb : w'.heap[Q]? = w.heap[Q]?) : ScC w' Q bv ov me seen next sent := by
  have hc : ∀ o, w'.cell? ⟨Q, o, none⟩ = w.cell? ⟨Q, o, none⟩ := fun o => World.cell?_of_block (a := ⟨Q, o, none⟩) hb
  have hf : ∀ o, w'.frozen? ⟨Q, o, none⟩ = w.frozen? ⟨Q, o, none⟩ := fun o => World.frozen?_of_block (a := ⟨Q, o, none⟩) hb
  exact ⟨Nat.lt_of_lt_of_le h.lt hs, by rw [hc]; exact h.me, by rw [hc]; exact h.seen, by rw [hc]; exact h.next, by rw [hc]; exact h.base, by rw [hc]; exact h.opens, by rw [hc]; exact h.sent, fun o ho => by rw [hf]; exact h.free o ho⟩

structure ScAt (w : World) (base : Nat) (S : Nat → Prop) (Q : Nat) (bv ov : Value) (l : List Ch) (es : List Dd) (me seen next sent : Int) : Prop where
  lo : ∀ k, S k → base ≤ k ∧ k < w.heap.size
  hQ : S Q
  cells : ScC w Q bv ov me seen next sent
  ownB : Own w base bv l
  ownO : OwnD w base ov es
  bB : ∀ k, bv.ownBlock = some k → S k ∧ k ≠ Q
  oB : ∀ k, ov.ownBlock = some k → S k ∧ k ≠ Q ∧ bv.ownBlock ≠ some k

theorem ScAt.kept {w w' : World} {base Q : Nat} {S T : Nat → Prop} {bv ov : Value} {l : List Ch} {es : List Dd} {me seen next sent : Int} (h : ScAt w base S Q bv ov l es me seen next sent) (hk : Kept T w w') (hd : ∀ k, S k → ¬ T k) : ScAt w' base S Q bv ov l es me seen next sent := by
  have hb : ∀ k, S k → w'.heap[k]? = w.heap[k]? := fun k hs => hk.block k (h.lo k hs).2 (hd k hs)
  exact ⟨fun k hs => ⟨(h.lo k hs).1, Nat.lt_of_lt_of_le (h.lo k hs).2 hk.size⟩, h.hQ, h.cells.kept hk.size (hb Q h.hQ), owns_block h.ownB (fun k e => hb k (h.bB k e).1), owns_block h.ownO (fun k e => hb k (h.oB k e).1), h.bB, h.oB⟩

theorem ScAt.below {w w' : World} {base Q : Nat} {S : Nat → Prop} {bv ov : Value} {l : List Ch} {es : List Dd} {me seen next sent : Int} (h : ScAt w base S Q bv ov l es me seen next sent) (hb : Below w.heap.size w w') : ScAt w' base S Q bv ov l es me seen next sent :=
  h.kept (T := fun _ => False) (.of_below hb) (fun _ _ e => e)

theorem ScAt.base_le {w : World} {base Q : Nat} {S : Nat → Prop} {bv ov : Value} {l : List Ch} {es : List Dd} {me seen next sent : Int} (h : ScAt w base S Q bv ov l es me seen next sent) : base ≤ w.heap.size := by
  have := h.lo Q h.hQ
  omega

theorem ScAt.mono {w : World} {base Q : Nat} {S T : Nat → Prop} {bv ov : Value} {l : List Ch} {es : List Dd} {me seen next sent : Int} (h : ScAt w base S Q bv ov l es me seen next sent) (hT : ∀ k, S k → T k) (hl : ∀ k, T k → base ≤ k ∧ k < w.heap.size) : ScAt w base T Q bv ov l es me seen next sent :=
  ⟨hl, hT _ h.hQ, h.cells, h.ownB, h.ownO, fun k e => ⟨hT k (h.bB k e).1, (h.bB k e).2⟩, fun k e => ⟨hT k (h.oB k e).1, (h.oB k e).2⟩⟩

structure ScTo (w : World) (base : Nat) (S : Nat → Prop) (Q : Nat) (l : List Ch) (es : List Dd) (me seen next sent : Int) (w' : World) : Prop where
  at_ : ∃ bv ov, ScAt w' base (grow S w w') Q bv ov l es me seen next sent
  kept : Kept S w w'

theorem ScAt.stay {w w' : World} {base Q : Nat} {S : Nat → Prop} {bv ov : Value} {l : List Ch} {es : List Dd} {me seen next sent : Int} (h : ScAt w base S Q bv ov l es me seen next sent) (hb : Below w.heap.size w w') : ScTo w base S Q l es me seen next sent w' :=
  ⟨⟨bv, ov, (h.below hb).mono (fun _ => .inl) (grow_lo h.base_le hb.size h.lo)⟩, .of_below hb⟩

theorem ScTo.after {w w' w'' : World} {base Q : Nat} {S : Nat → Prop} {l : List Ch} {es : List Dd} {me seen next sent : Int} (h : ScTo w base S Q l es me seen next sent w') (h0 : base ≤ w.heap.size ∧ ∀ k, S k → base ≤ k ∧ k < w.heap.size) (hb : Below w'.heap.size w' w'') : ScTo w base S Q l es me seen next sent w'' := by
  obtain ⟨⟨bv, ov, hat⟩, hk⟩ := h
  have h1 := hk.size
  have h2 := hb.size
  exact ⟨⟨bv, ov, (hat.below hb).mono (fun k hk => hk.elim .inl (fun e => .inr ⟨e.1, Nat.lt_of_lt_of_le e.2 h2⟩)) (grow_lo h0.1 (Nat.le_trans h1 h2) h0.2)⟩, hk.after hb⟩

end Go.Proofs.YtfpemdbiplfkgacGreat

/-
  The contracts of the small functions of package clear: Done, start, behind, follows; the closures; a search with a bound receiver.
-/
namespace Go.Proofs.YtfpemdbiplfkgacGreat
open Go.RowKit

abbrev mkV (m : Mk) : Value := .agg #[.bool m.start, .int .i64 m.by_, .int .i64 m.no, .int .i64 m.k]

theorem below1 (w : World) (o : Obj) : Below w.heap.size w (w.alloc o) := (Below.refl _ _).alloc (Nat.le_refl _) _
theorem below2 (w : World) (o p : Obj) : Below w.heap.size w ((w.alloc o).alloc p) := (below1 w o).alloc (by simp) _

set_option maxRecDepth 20000 in
set_option maxHeartbeats 400000 in
theorem done_any (x : Ch) (least : Int) (w : World) :
    Calls Tryz.prog 71 #[chV x, .int .i64 least] w fun e w' => e = .returned (.bool (doneB least x)) ∧ Below w.heap.size w w' := by
  obtain ⟨c, b, no, k, i, o, g⟩ := x
  by_cases h1 : o = 0
  · have h1' : (o != 0) = false := by simp [h1]
    have H1 : Hid (o = 0) := h1
    clear h1
    go_enter Tryz.func71, Tryz.ntmps71
    go_wp2
    go_ret
    exact ⟨ret_b (by simp [doneB, H1.out]), below1 _ _⟩
  · have h1' : (o != 0) = true := by simp [h1]
    have H1 : Hid (o ≠ 0) := h1
    clear h1
    by_cases h2 : o ≤ least
    · go_enter Tryz.func71, Tryz.ntmps71
      go_wp2
      go_ret
      exact ⟨ret_b (by simp [doneB, H1.out, h2]), below1 _ _⟩
    · go_enter Tryz.func71, Tryz.ntmps71
      go_wp2
      go_ret
      exact ⟨ret_b (by have : ¬ o ≤ least := by omega
                       simp [doneB, this]), below1 _ _⟩

/-- A number in a box. -/
structure NBox (n : Int) (B : Nat) (w : World) : Prop where
  lt : B < w.heap.size
  at_ : w.cell? ⟨B, 0, none⟩ = some (.int .i64 n)

theorem NBox.low {w w' : World} {n : Int} {B base : Nat} (h : NBox n B w) (hB : B < base) (hb : Below base w w') : NBox n B w' :=
  ⟨Nat.lt_of_lt_of_le h.lt hb.size, by rw [hb.cell (p := ⟨B, 0, none⟩) hB]; exact h.at_⟩

set_option maxRecDepth 20000 in
set_option maxHeartbeats 400000 in
theorem of1_any (x : Ch) (least : Int) (B : Nat) (w : World) (h : w.cell? ⟨B, 0, none⟩ = some (.int .i64 least)) :
    Calls Tryz.prog 70 (#[chV x] ++ #[.pointer (some ⟨B, 0, none⟩)]) w fun e w' => e = .returned (.bool (doneB least x)) ∧ Below w.heap.size w w' := by
  have c0 : ∀ o, (w.alloc o).cell? ⟨B, 0, none⟩ = some (.int .i64 least) := fun o => Lib.cell?_alloc_some o h
  clear h
  go_enter Tryz.func70, Tryz.ntmps70
  go_wp2_with fail
  refine (done_any x least _).mono ?_
  rintro e w1 ⟨rfl, hb⟩
  have HB : Hid (Below w.heap.size w w1) := below_after (below1 _ _) hb
  clear hb c0
  go_wp2
  go_ret
  exact ⟨rfl, HB.out⟩

end Go.Proofs.YtfpemdbiplfkgacGreat

/-
  The contracts of the reference's Same and SameChars.
-/
namespace Go.Proofs.YtfpemdbiplfkgacGreat
open Go.RowKit

set_option maxRecDepth 20000 in
set_option maxHeartbeats 400000 in
theorem refSame_any (x y : Ch) (w : World) :
    Calls Tryz.prog 96 #[chV x, chV y] w fun e w' => e = .returned (.bool (sameB x y)) ∧ Below w.heap.size w w' := by
  obtain ⟨c, b, no, k, i, o, g⟩ := x
  obtain ⟨c', b', no', k', i', o', g'⟩ := y
  cases h1 : (b == b')
  · go_enter Tryz.func96, Tryz.ntmps96
    go_wp2
    go_ret
    refine ⟨ret_b ?_, ((Below.refl _ _).alloc (Nat.le_refl _) _).alloc (by simp) _⟩
    simp only [beq_eq_false_iff_ne] at h1
    simp [sameB, h1]
  · cases h2 : (no == no')
    · go_enter Tryz.func96, Tryz.ntmps96
      go_wp2
      go_ret
      refine ⟨ret_b ?_, ((Below.refl _ _).alloc (Nat.le_refl _) _).alloc (by simp) _⟩
      simp only [beq_eq_false_iff_ne] at h2
      simp [sameB, h2]
    · cases h3 : (k == k')
      all_goals
        go_enter Tryz.func96, Tryz.ntmps96
        go_wp2
        go_ret
        refine ⟨ret_b ?_, ((Below.refl _ _).alloc (Nat.le_refl _) _).alloc (by simp) _⟩
        simp only [beq_eq_false_iff_ne, beq_iff_eq] at h1 h2 h3
        simp [sameB, h1, h2, h3]

theorem Lst.row {w : World} {a : Option Addr} {n cap : Nat} {l : List Ch} (h : Lst w (.slice a n cap) l) (hp : 0 < n) : ∃ b off, a = some ⟨b, off, none⟩ ∧ l.length = n ∧ Row w b off l := by
  obtain ⟨a', len, cap', he, h1, h2, h3⟩ := h
  simp only [Value.slice.injEq] at he
  obtain ⟨rfl, rfl, rfl⟩ := he
  rcases h3 with h3 | ⟨b, off, rfl, hr⟩
  · omega
  · exact ⟨b, off, rfl, h1, hr⟩

theorem take_same {a b : List Ch} {k : Nat} (ha : k < a.length) (hb : k < b.length) (h : a.take k = b.take k) (e : a[k] = b[k]) : a.take (k + 1) = b.take (k + 1) := by
  rw [take_snoc a k ha, take_snoc b k hb, h, e]

theorem ch_diff {a0 a1 a2 a3 a4 a5 a6 b0 b1 b2 b3 b4 b5 b6 : Int} (h : (⟨a0, a1, a2, a3, a4, a5, a6⟩ : Ch) ≠ ⟨b0, b1, b2, b3, b4, b5, b6⟩) :
    ((a0 == b0) = false) ∨ ((a0 == b0) = true ∧ (a1 == b1) = false) ∨ ((a0 == b0) = true ∧ (a1 == b1) = true ∧ (a2 == b2) = false) ∨ ((a0 == b0) = true ∧ (a1 == b1) = true ∧ (a2 == b2) = true ∧ (a3 == b3) = false)
      ∨ ((a0 == b0) = true ∧ (a1 == b1) = true ∧ (a2 == b2) = true ∧ (a3 == b3) = true ∧ (a4 == b4) = false) ∨ ((a0 == b0) = true ∧ (a1 == b1) = true ∧ (a2 == b2) = true ∧ (a3 == b3) = true ∧ (a4 == b4) = true ∧ (a5 == b5) = false)
      ∨ ((a0 == b0) = true ∧ (a1 == b1) = true ∧ (a2 == b2) = true ∧ (a3 == b3) = true ∧ (a4 == b4) = true ∧ (a5 == b5) = true ∧ (a6 == b6) = false) := by
  simp only [beq_eq_false_iff_ne, beq_iff_eq]
  by_cases h0 : a0 = b0
  · by_cases h1 : a1 = b1
    · by_cases h2 : a2 = b2
      · by_cases h3 : a3 = b3
        · by_cases h4 : a4 = b4
          · by_cases h5 : a5 = b5
            · exact .inr (.inr (.inr (.inr (.inr (.inr ⟨h0, h1, h2, h3, h4, h5, fun e => h (by rw [h0, h1, h2, h3, h4, h5, e])⟩)))))
            · exact .inr (.inr (.inr (.inr (.inr (.inl ⟨h0, h1, h2, h3, h4, h5⟩)))))
          · exact .inr (.inr (.inr (.inr (.inl ⟨h0, h1, h2, h3, h4⟩))))
        · exact .inr (.inr (.inr (.inl ⟨h0, h1, h2, h3⟩)))
      · exact .inr (.inr (.inl ⟨h0, h1, h2⟩))
    · exact .inr (.inl ⟨h0, h1⟩)
  · exact .inl h0

def SameIs (a b : List Ch) (w : World) (e : Ending) (w' : World) : Prop := ∃ r, e = .returned (.bool r) ∧ (r = true ↔ a = b) ∧ Below w.heap.size w w'

theorem same_no {a b : List Ch} {w w' : World} (h : a ≠ b) (hb : Below w.heap.size w w') : SameIs a b w (.returned (.bool false)) w' := ⟨false, rfl, ⟨fun e => (by cases e), fun e => absurd e h⟩, hb⟩
theorem same_yes {a b : List Ch} {w w' : World} (h : a = b) (hb : Below w.heap.size w w') : SameIs a b w (.returned (.bool true)) w' := ⟨true, rfl, ⟨fun _ => h, fun _ => rfl⟩, hb⟩

set_option maxRecDepth 20000 in
set_option maxHeartbeats 1600000 in
theorem sameChars_lst {w : World} {va vb : Value} {a b : List Ch} (ha : Lst w va a) (hb : Lst w vb b) (hl : a.length ≤ 1000) (hl2 : b.length ≤ 1000) :
    Calls Tryz.prog 15 #[va, vb] w fun e w' => SameIs a b w e w' := by
  have HA : Hid (Lst w va a) := ha
  have HB : Hid (Lst w vb b) := hb
  obtain ⟨aa, ca, rfl, _⟩ := ha.len
  obtain ⟨ab, cb, rfl, _⟩ := hb.len
  clear ha hb
  by_cases hn : a.length = b.length
  · have HN : Hid (a.length = b.length) := hn
    rw [← hn] at HB
    go_enter Tryz.func15, Tryz.ntmps15
    rw [← hn]
    clear hn
    go_wp2
    go_loopw [5] (fun i wr => ∃ k : Nat, k ≤ a.length ∧ i = .int .i64 k ∧ Hid (a.take k = b.take k) ∧ Hid (Below w.heap.size w wr)) (fun i _ => a.length - (intOf i).toNat)
    case atStart => exact ⟨0, Nat.zero_le _, rfl, rfl, Below.refl _ _⟩
    case round =>
      obtain ⟨k, hk, rfl, HK, HW⟩ := hrel
      by_cases hlt : k < a.length
      · have hlb : k < b.length := by have := HN.out; omega
        obtain ⟨b1, o1, rfl, _, r1⟩ := (HA.out.below HW.out).row (by omega)
        obtain ⟨b2, o2, rfl, _, r2⟩ := (HB.out.below HW.out).row (by omega)
        obtain ⟨g0, g1, g2, g3, g4, g5, g6⟩ := r1.at_ k hlt
        obtain ⟨e0, e1, e2, e3, e4, e5, e6⟩ := r2.at_ k hlb
        have HS : Hid (a[k] = b[k] → a.take (k + 1) = b.take (k + 1)) := take_same hlt hlb HK.out
        have HD : Hid (a[k] ≠ b[k] → a ≠ b) := fun h e => h (by subst e; rfl)
        generalize a[k] = x at *
        generalize b[k] = y at *
        clear r1 r2 hlb
        by_cases hxy : x = y
        · subst hxy
          obtain ⟨c, bb, no, kk, i, o, g⟩ := x
          simp only at g0 g1 g2 g3 g4 g5 g6 e0 e1 e2 e3 e4 e5 e6
          go_wp2
          go_region
          go_wp2
          go_roundw
          case rel => exact ⟨k + 1, by omega, by go_num, HS.out trivial, below_drewN HW.out _⟩
          case measure => simp [intOf]; omega
        · have HX : Hid (a ≠ b) := HD.out hxy
          obtain ⟨c, bb, no, kk, i, o, g⟩ := x
          obtain ⟨c', bb', no', kk', i', o', g'⟩ := y
          have HZ : Hid _ := ch_diff hxy
          simp only at g0 g1 g2 g3 g4 g5 g6 e0 e1 e2 e3 e4 e5 e6
          clear hxy HS HD
          rcases HZ.out with q | ⟨q0, q⟩ | ⟨q0, q1, q⟩ | ⟨q0, q1, q2, q⟩ | ⟨q0, q1, q2, q3, q⟩ | ⟨q0, q1, q2, q3, q4, q⟩ | ⟨q0, q1, q2, q3, q4, q5, q⟩
          all_goals
            clear HZ
            go_wp2
            go_region
            go_wp2
            go_ret
            exact same_no HX.out (below_drewN HW.out _)
      · go_wp2
        go_ret
        obtain rfl : k = a.length := by omega
        refine same_yes ?_ HW.out
        have := HK.out
        rwa [List.take_length, HN.out, List.take_length] at this
  · have hne : ((a.length : Int) == (b.length : Int)) = false := by simp; omega
    have HX : Hid (a ≠ b) := fun e => hn (by rw [e])
    go_enter Tryz.func15, Tryz.ntmps15
    go_wp2
    go_ret
    exact same_no HX.out (Below.refl _ _)

end Go.Proofs.YtfpemdbiplfkgacGreat
