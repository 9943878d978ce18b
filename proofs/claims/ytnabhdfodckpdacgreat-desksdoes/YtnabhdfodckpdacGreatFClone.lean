/-
  Lists of bytes in memory, as rows of cells: those that a call owns; deeds in memory. No walk.
-/
import Derived.Test.YtnabhdfodckpdacGreatFLists
import Derived.Test.YtnabhdfodckpdacGreatLeaf
import Derived.Test.YtnabhdfodckpdacGreatFBig
import Derived.Lib.SliceRun
import Derived.Laws.AppendOwnNone
namespace Go.Proofs.YtnabhdfodckpdacGreat
open Go.RowKit
def chCells (x : Ch) : List Value := [.int .u8 x.c, .int .i64 x.by_, .int .i64 x.no, .int .i64 x.k, .int .i64 x.inn, .int .i64 x.out, .int .i64 x.gone]
def cells7 : List Ch → List Value
 | [] => []
 | x :: r => chCells x ++ cells7 r
theorem cells7_len : ∀ l : List Ch, (cells7 l).length = l.length * 7
 | [] => rfl
 | x :: r => by
  rw [cells7, List.length_append, cells7_len r, List.length_cons]
  show 7 + _ = _
  omega
theorem cells7_app : ∀ a b : List Ch, cells7 (a ++ b) = cells7 a ++ cells7 b
 | [], b => rfl
 | x :: r, b => by rw [List.cons_append, cells7, cells7_app r b, cells7, List.append_assoc]
theorem cells7_one : ∀ (l : List Ch) (u : Value), u ∈ cells7 l → u.oneCell' = true
 | [], u, h => by simp [cells7] at h
 | x :: r, u, h => by
  rw [cells7, List.mem_append] at h
  rcases h with h | h
  ·simp [chCells] at h
   rcases h with rfl | rfl | rfl | rfl | rfl | rfl | rfl <;> rfl
  ·exact cells7_one r u h
theorem cells7_get : ∀ (l : List Ch) (i r : Nat) (hi : i < l.length), r < 7 → (cells7 l)[i * 7 + r]? = (chCells l[i])[r]?
 | [], i, r, hi, _ => absurd hi (Nat.not_lt_zero _)
 | x :: l, 0, r, _, hr => by
  rw [cells7, Nat.zero_mul, Nat.zero_add, List.getElem?_append_left (by exact hr)]
  rfl
 | x :: l, i + 1, r, hi, hr => by
  rw [cells7, List.getElem?_append_right (by show 7 ≤ _; omega)]
  show (cells7 l)[(i + 1) * 7 + r - 7]? = _
  rw [show (i + 1) * 7 + r - 7 = i * 7 + r by omega, cells7_get l i r (by simpa using hi) hr]
  rfl
theorem addr_add (b off j : Nat) : (⟨b, off, none⟩ : Addr).add j = ⟨b, off + j, none⟩ := by
 unfold Addr.add
 split <;> simp_all
theorem src_cells {w : World} {b : Nat} : ∀ (l : List Ch) (off : Nat), (∀ i (h : i < l.length), At w b (off + i * 7) l[i]) → ∀ j u, (cells7 l)[j]? = some u → w.cell? ((⟨b, off, none⟩ : Addr).add j) = some u
 | [], off, _, j, u, hu => by simp [cells7] at hu
 | x :: l, off, h, j, u, hu => by
  rw [addr_add]
  rw [cells7] at hu
  by_cases hj : j < 7
  ·rw [List.getElem?_append_left (by exact hj)] at hu
   obtain ⟨h0, h1, h2, h3, h4, h5, h6⟩ := h 0 (by simp)
   simp only [Nat.zero_mul, Nat.add_zero, List.getElem_cons_zero] at h0 h1 h2 h3 h4 h5 h6
   rcases (show j = 0 ∨ j = 1 ∨ j = 2 ∨ j = 3 ∨ j = 4 ∨ j = 5 ∨ j = 6 by omega) with rfl | rfl | rfl | rfl | rfl | rfl | rfl <;> simp [chCells] at hu <;> subst hu <;> assumption
  ·rw [List.getElem?_append_right (by show 7 ≤ j; omega)] at hu
   have hu' : (cells7 l)[j - 7]? = some u := hu
   have := src_cells l (off + 7) (fun i hi => by
    have := h (i + 1) (by simpa using hi)
    rw [show off + (i + 1) * 7 = off + 7 + i * 7 by omega] at this
    exact this) (j - 7) u hu'
   rw [addr_add, show off + 7 + (j - 7) = off + j by omega] at this
   exact this
def Own (w : World) (base : Nat) (v : Value) (l : List Ch) : Prop := w.ownsRow base 95 7 v l.length (cells7 l)
theorem own_nil (w : World) (base : Nat) : Own w base (.slice none 0 0) [] := World.ownsRow_nil _ _ _ _
theorem own_row {w : World} {base g n cap : Nat} {l : List Ch} (hg : g < w.heap.size) (hn : l.length = n) (h : w.ownsRow base 95 7 (.slice (some ⟨g, 0, none⟩) n cap) n (cells7 l)) : Row w g 0 l := by
 refine ⟨hg, fun i hi => ?_⟩
 have key : ∀ r, r < 7 → w.cell? ⟨g, 0 + i * 7 + r, none⟩ = (chCells l[i])[r]? := fun r hr => by
  rw [Nat.zero_add, h.cellAt (i * 7 + r) (by omega), cells7_get l i r hi hr]
 have k0 := key 0 (by omega)
 have k1 := key 1 (by omega)
 have k2 := key 2 (by omega)
 have k3 := key 3 (by omega)
 have k4 := key 4 (by omega)
 have k5 := key 5 (by omega)
 have k6 := key 6 (by omega)
 exact ⟨k0, k1, k2, k3, k4, k5, k6⟩
theorem Own.lst {w : World} {base : Nat} {v : Value} {l : List Ch} (h : Own w base v l) : Lst w v l := by
 have h' := h
 obtain ⟨_, h2⟩ := h
 rcases h2 with ⟨rfl, hn⟩ | ⟨g, cap, cur, rfl, hb, hg, hnc, _⟩
 ·obtain rfl : l = [] := List.length_eq_zero_iff.1 hn
  exact lst_nil w
 ·exact ⟨_, _, _, rfl, rfl, hnc, .inr ⟨g, 0, rfl, own_row (Array.getElem?_eq_some_iff.1 hg).1 rfl h'⟩⟩
theorem Own.below {w w' : World} {base : Nat} {v : Value} {l : List Ch} (h : Own w base v l) (hb : Below w.heap.size w w') : Own w' base v l := owns_below h hb
theorem Own.mono {w : World} {base base' : Nat} {v : Value} {l : List Ch} (h : Own w base v l) (hb : base' ≤ base) : Own w base' v l := by
 obtain ⟨h1, h2⟩ := h
 refine ⟨h1, ?_⟩
 rcases h2 with h2 | ⟨g, cap, cur, e, hg, r⟩
 ·exact .inl h2
 ·exact .inr ⟨g, cap, cur, e, Nat.le_trans hb hg, r⟩
structure DdAt (w : World) (B o : Nat) (d : Dd) : Prop where
 lt : B < w.heap.size
 c0 : w.cell? ⟨B, o, none⟩ = some (.int .i64 d.kind)
 c1 : w.cell? ⟨B, o + 1, none⟩ = some (.int .i64 d.by_)
 c2 : w.cell? ⟨B, o + 2, none⟩ = some (.int .i64 d.no)
 c3 : w.cell? ⟨B, o + 3, none⟩ = some (.int .i64 d.seen)
 c4 : w.cell? ⟨B, o + 4, none⟩ = some (.int .i64 d.at_)
 c5 : w.cell? ⟨B, o + 5, none⟩ = some (.int .i64 d.many)
 c6 : w.cell? ⟨B, o + 6, none⟩ = some (.string d.text)
abbrev dObj (d : Dd) : Obj := .cells #[.int .i64 d.kind, .int .i64 d.by_, .int .i64 d.no, .int .i64 d.seen, .int .i64 d.at_, .int .i64 d.many, .string d.text] 41
theorem ddat_start (w : World) (d : Dd) : DdAt (w.alloc (dObj d)) w.heap.size 0 d := by
 refine ⟨by simp, ?_, ?_, ?_, ?_, ?_, ?_, ?_⟩ <;> simp [go_sem]
theorem DdAt.below {w w' : World} {B o : Nat} {d : Dd} (h : DdAt w B o d) (hb : Below w.heap.size w w') : DdAt w' B o d := by
 obtain ⟨hc, _⟩ := bcell hb
 refine ⟨by have := hb.size; have := h.lt; omega, ?_, ?_, ?_, ?_, ?_, ?_, ?_⟩ <;> rw [hc _ _ h.lt]
 ·exact h.c0
 ·exact h.c1
 ·exact h.c2
 ·exact h.c3
 ·exact h.c4
 ·exact h.c5
 ·exact h.c6
theorem Lst.len {w : World} {v : Value} {l : List Ch} (h : Lst w v l) : ∃ a cap, v = .slice a l.length cap ∧ l.length ≤ cap := by
 obtain ⟨a, len, cap, rfl, rfl, h2, _⟩ := h
 exact ⟨a, cap, rfl, h2⟩
theorem Row.drop' {w : World} {b off : Nat} {l : List Ch} (h : Row w b off l) (k : Nat) : Row w b (off + k * 7) (l.drop k) :=
 ⟨h.lt, fun i hi => by
  have hi' : k + i < l.length := by rw [List.length_drop] at hi; omega
  rw [List.getElem_drop]
  have := h.at_ (k + i) hi'
  rw [show off + (k + i) * 7 = off + k * 7 + i * 7 by rw [Nat.add_mul]; omega] at this
  exact this⟩
def FitsL (l : List Ch) : Prop := ∀ x ∈ l, -9223372036854775808 ≤ x.gone ∧ x.gone ≤ 9223372036854775807
end Go.Proofs.YtnabhdfodckpdacGreat

/-
  A region that draws its order, whose operations may lay blocks of their own wherever they come: one value each, in every world of the class; and a spine of operations that nothing else can overtake, whose value may differ with the order (an allocation, a store). No walk of the program.
-/
namespace Go.Proofs.YtnabhdfodckpdacGreat
open Go Go.RowKit
section
variable {P : Program} {ops : Array Oper} {md : Region.Mode} {U : World → Prop} {sp : Nat → Bool}
def growUpon (P : Program) (v : Value) (w : World) : Result Next → Prop
 | .ok (.value u) w' => u = v ∧ Below w.heap.size w w'
 | .ok (.enter f args) w' => w' = w ∧ Calls P f args w (fun e w'' => e = .returned v ∧ Below w.heap.size w w'')
 | _ => False
def growIn (P : Program) (U : World → Prop) (o : Oper) (a : Act) (v : Value) : Prop := ∀ w, U w → growUpon P v w ((execOp a.eval o).run P w)
def Shut (D : World → Prop) : Prop := ∀ w w', D w → Below w.heap.size w w' → D w'
def growStep (P : Program) (U : World → Prop) (s : Bool) (o : Oper) (a : Act) (D : World → Prop) (K : Act → (World → Prop) → Prop) : Prop :=
 if s = true then ∃ p D', spineIn P U o a D p D' ∧ (∀ v, Shut (D' v)) ∧ ∀ v, p v → K (a.put o.dst v) (D' v)
 else ∃ v, growIn P U o a v ∧ K (a.put o.dst v) D
def wpGrow (P : Program) (ops : Array Oper) (U : World → Prop) (sp : Nat → Bool) (Q : Act → World → Prop) : List Oper → Nat → Act → (World → Prop) → Prop
 | [], _, a, D => ∀ w, D w → Q a w
 | o :: rest, k, a, D => if Region.wanted o (yielded ops a.tmps) = true then growStep P U (sp k) o a D (wpGrow P ops U sp Q rest (k + 1)) else wpGrow P ops U sp Q rest (k + 1) (a.put o.dst undef) D
def growOp (P : Program) (ops : Array Oper) (U : World → Prop) (sp : Nat → Bool) (i : Nat) (K : Act → (World → Prop) → Prop) (a : Act) (D : World → Prop) : Prop :=
 match ops[i]? with
 | none => K a D
 | some o => if Region.wanted o (yielded ops a.tmps) = true then growStep P U (sp i) o a D K else K (a.put o.dst undef) D
theorem growStep_mono {s : Bool} {o : Oper} {a : Act} {D : World → Prop} {K K' : Act → (World → Prop) → Prop} (h : ∀ a D, K a D → K' a D) (hh : growStep P U s o a D K) : growStep P U s o a D K' := by
 unfold growStep at *
 cases s
 ·obtain ⟨v, h1, h2⟩ := hh
  exact ⟨v, h1, h _ _ h2⟩
 ·obtain ⟨p, D', h1, hs, h2⟩ := hh
  exact ⟨p, D', h1, hs, fun v hv => h _ _ (h2 v hv)⟩
theorem growOp_mono {i : Nat} {a : Act} {D : World → Prop} {K K' : Act → (World → Prop) → Prop} (h : ∀ a D, K a D → K' a D) (hh : growOp P ops U sp i K a D) : growOp P ops U sp i K' a D := by
 unfold growOp at *
 cases ho : ops[i]? with
 | none => rw [ho] at hh; exact h _ _ hh
 | some o =>
  rw [ho] at hh
  show if _ then _ else _
  have hh' : if Region.wanted o (yielded ops a.tmps) = true then growStep P U (sp i) o a D K else K (a.put o.dst undef) D := hh
  by_cases hw : Region.wanted o (yielded ops a.tmps) = true
  ·rw [if_pos hw] at hh' ⊢; exact growStep_mono h hh'
  ·rw [if_neg hw] at hh' ⊢; exact h _ _ hh'
def wpAnyG (P : Program) (md : Region.Mode) (ops : Array Oper) (U : World → Prop) (sp : Nat → Bool) (Q : Act → World → Prop) : Nat → Array Bool → Act → (World → Prop) → Prop
 | 0, listed, a, D => Region.ready md ops listed = [] ∧ ∀ w, D w → Q a w
 | fuel + 1, listed, a, D =>
  (Region.ready md ops listed = [] → ∀ w, D w → Q a w) ∧
  ∀ i ∈ Region.ready md ops listed, growOp P ops U sp i (wpAnyG P md ops U sp Q fuel (listed.setIfInBounds i true)) a D
theorem wp_of_grow {s : Bool} {o : Oper} {a : Act} {D : World → Prop} {K : Act → (World → Prop) → Prop} {K' : Act → World → Prop} {Q' : Exit → Act → World → Prop} {w : World} (hDU : ∀ w, D w → U w) (hsh : Shut D) (hw : D w)
 (h : ∀ a (D' : World → Prop) w', (∀ w, D' w → U w) → Shut D' → D' w' → K a D' → K' a w') (hh : growStep P U s o a D K) : o.wp P a w K' Q' := by
 unfold growStep at hh
 unfold Oper.wp
 cases s
 ·obtain ⟨v, h1, h2⟩ := hh
  have h3 := h1 w (hDU w hw)
  generalize (execOp a.eval o).run P w = r at *
  cases r with
  | ok n w' =>
   cases n <;> simp only [growUpon] at h3 <;> simp only [Oper.upon]
   case value u =>
    obtain ⟨rfl, hb⟩ := h3
    exact h _ D _ hDU hsh (hsh _ _ hw hb) h2
   case enter f args =>
    obtain ⟨rfl, h3⟩ := h3
    exact h3.mono fun e w'' ⟨he, hb⟩ => by subst he; exact h _ D _ hDU hsh (hsh _ _ hw hb) h2
  | halt x w' => simp only [growUpon] at h3
 ·obtain ⟨p, D', ⟨_, hU, h1⟩, hs, h2⟩ := hh
  have h3 := h1 w hw
  generalize (execOp a.eval o).run P w = r at *
  cases r with
  | ok n w' =>
   cases n <;> simp only [spineUpon] at h3 <;> simp only [Oper.upon]
   case value u => exact h _ (D' u) _ (hU u) (hs u) h3.2 (h2 u h3.1)
   case skip => exact h _ (D' undef) _ (hU undef) (hs undef) h3.2 (h2 undef h3.1)
   case enter f args =>
    exact h3.mono fun e w'' ⟨v, he, hp, hd⟩ => by subst he; exact h _ (D' v) _ (hU v) (hs v) hd (h2 v hp)
  | halt x w' => simp only [spineUpon] at h3
theorem wpAny_of_grow {Q : Act → World → Prop} {Q' : Exit → Act → World → Prop} (hQ : ∀ a w, Q a w → Q' .normal a w) : ∀ (fuel : Nat) (listed : Array Bool) (a : Act) (D : World → Prop) (w : World), (∀ w, D w → U w) → Shut D → D w →
 wpAnyG P md ops U sp Q fuel listed a D → wpAny P md ops Q' fuel listed a w
 | 0, _, _, _, _, _, _, hw, h => ⟨h.1, hQ _ _ (h.2 _ hw)⟩
 | fuel + 1, listed, a, D, w, hU, hsh, hw, h => ⟨fun h0 => hQ _ _ (h.1 h0 _ hw), fun i hi => by
  have h1 := h.2 i hi
  unfold growOp at h1
  unfold wpOp
  cases ho : ops[i]? with
  | none => rw [ho] at h1; exact wpAny_of_grow hQ fuel _ _ D _ hU hsh hw h1
  | some o =>
   rw [ho] at h1
   have h2 : if Region.wanted o (yielded ops a.tmps) = true then growStep P U (sp i) o a D (wpAnyG P md ops U sp Q fuel (listed.setIfInBounds i true)) else wpAnyG P md ops U sp Q fuel (listed.setIfInBounds i true) (a.put o.dst undef) D := h1
   show if _ then _ else _
   by_cases hwt : Region.wanted o (yielded ops a.tmps) = true
   ·rw [if_pos hwt] at h2 ⊢
    exact .inl (wp_of_grow hU hsh hw (fun a' D' w' hU' hs' hd hk => wpAny_of_grow hQ fuel _ a' D' w' hU' hs' hd hk) h2)
   ·rw [if_neg hwt] at h2 ⊢
    exact wpAny_of_grow hQ fuel _ _ D _ hU hsh hw h2⟩
def LeavesG (P : Program) (ops : Array Oper) (U : World → Prop) (s : Bool) (o : Oper) (v : Value) (a : Act) : Prop :=
 (s = false ∧ Region.wanted o (yielded ops a.tmps) = true ∧ growIn P U o a v) ∨ (Region.wanted o (yielded ops a.tmps) = false ∧ v = undef)
theorem LeavesG.put {s : Bool} {o : Oper} {v : Value} {a : Act} {dst : Option Tmp} {u : Value} (hs : ∀ cs b, o.op ≠ .select cs b) (h3 : ∀ d, dst = some d → d ∉ o.looksAt ops) (h : LeavesG P ops U s o v a) : LeavesG P ops U s o v (a.put dst u) := by
 unfold LeavesG growIn at *
 rw [execOp_put o hs a dst u h3, wanted_put o a dst u h3]
 exact h
theorem growOp_put {s : Bool} {j : Nat} {oi oj : Oper} {v : Value} (hj : ops[j]? = some oj) (hap : oi.apart ops oj = true)
 (hsi : ∀ cs b, oi.op ≠ .select cs b) (hsj : ∀ cs b, oj.op ≠ .select cs b) {K : Act → (World → Prop) → Prop} {a : Act} {D : World → Prop}
 (hy : LeavesG P ops U s oi v a) (h : growOp P ops U sp j K (a.put oi.dst v) D) :
 growOp P ops U sp j (fun a' D' => LeavesG P ops U s oi v a' ∧ K (a'.put oi.dst v) D') a D := by
 obtain ⟨h1, h2, h3⟩ := Oper.apart_spec hap
 unfold growOp at *
 simp only [hj] at *
 rw [wanted_put oj a oi.dst v h1] at h
 by_cases hw : Region.wanted oj (yielded ops a.tmps) = true
 ·rw [if_pos hw] at h ⊢
  unfold growStep growIn spineIn at *
  rw [execOp_put oj hsj a oi.dst v h1] at h
  cases hs : sp j
  ·rw [hs] at h
   obtain ⟨u, hu, hn⟩ := h
   exact ⟨u, hu, hy.put hsi h3, by rw [← Act.put_comm a v u h2]; exact hn⟩
  ·rw [hs] at h
   obtain ⟨p, D', hu, hsh, hn⟩ := h
   exact ⟨p, D', hu, hsh, fun u hp => ⟨hy.put hsi h3, by rw [← Act.put_comm a v u h2]; exact hn u hp⟩⟩
 ·rw [if_neg hw] at h ⊢
  exact ⟨hy.put hsi h3, by rw [← Act.put_comm a v undef h2]; exact h⟩
theorem first_stillG {s : Bool} {Q : Act → World → Prop} {i : Nat} {oi : Oper} {v : Value} (hi : ops[i]? = some oi) (hsel : ∀ (j : Nat) (o : Oper) cs b, ops[j]? = some o → o.op ≠ .select cs b)
 (hown : ∀ {K : Act → (World → Prop) → Prop} {a : Act} {D : World → Prop}, LeavesG P ops U s oi v a → K (a.put oi.dst v) D → growOp P ops U sp i K a D) :
 ∀ (fuel : Nat) (listed : Array Bool) (a : Act) (D : World → Prop), FreeOf md ops oi i listed → i ∈ Region.ready md ops listed → LeavesG P ops U s oi v a →
  wpAnyG P md ops U sp Q fuel (listed.setIfInBounds i true) (a.put oi.dst v) D → wpAnyG P md ops U sp Q (fuel + 1) listed a D := by
 intro fuel
 induction fuel with
 | zero =>
  intro listed a D _ hr hy H
  refine ⟨fun h => (by rw [h] at hr; cases hr), fun j hj => ?_⟩
  by_cases hji : j = i
  ·subst hji; exact hown hy H
  ·have := ready_mono hj hji
   rw [H.1] at this
   cases this
 | succ fuel ih =>
  intro listed a D hfree hr hy H
  refine ⟨fun h => (by rw [h] at hr; cases hr), fun j hj => ?_⟩
  by_cases hji : j = i
  ·subst hji; exact hown hy H
  ·have h1 := H.2 j (ready_mono hj hji)
   obtain ⟨hjun, oj, hoj, hall⟩ := mem_ready.1 hj
   have h2 := growOp_put hoj (hfree j oj hoj hji hjun (not_after hr hall)) (fun cs b => hsel i oi cs b hi) (fun cs b => hsel j oj cs b hoj) hy h1
   refine growOp_mono (fun a' D' h3 => ih (listed.setIfInBounds j true) a' D' (hfree.later hjun) (ready_mono hr (Ne.symm hji)) h3.1 ?_) h2
   rw [Array.setIfInBounds_comm _ _ hji]
   exact h3.2
def aloneB (md : Region.Mode) (ops : Array Oper) (sp : Nat → Bool) : Bool := (List.range ops.size).all fun k => !sp k || Region.ready md ops (upto ops.size k) == [k]
theorem wpAnyG_lex {Q : Act → World → Prop} (hs : Region.noSelect ops = true) (hc : aloneB md ops sp = true) : ∀ (l : List Oper) (k : Nat) (a : Act) (D : World → Prop), (∀ j, l[j]? = ops[k + j]?) → k + l.length = ops.size →
 Region.lexFrom md ops l.length k (upto ops.size k) = true → wpGrow P ops U sp Q l k a D → wpAnyG P md ops U sp Q l.length (upto ops.size k) a D
 | [], _, _, _, _, _, hB, h => ⟨by simpa [Region.lexFrom] using hB, h⟩
 | o :: l, k, a, D, hl, hsz, hB, h => by
  have h0 : ops[k]? = some o := by simpa using (hl 0).symm
  simp only [List.length_cons, Region.lexFrom, Bool.and_eq_true] at hB
  obtain ⟨⟨hr, hf⟩, hB'⟩ := hB
  rw [upto_succ] at hB'
  have hr' : k ∈ Region.ready md ops (upto ops.size k) := by simpa using hr
  have hfree : FreeOf md ops o k (upto ops.size k) := Region.free_spec h0 hf
  have next : ∀ a' D', wpGrow P ops U sp Q l (k + 1) a' D' → wpAnyG P md ops U sp Q l.length ((upto ops.size k).setIfInBounds k true) a' D' := fun a' D' hh => by
   rw [upto_succ]
   exact wpAnyG_lex hs hc l (k + 1) a' D' (fun j => by have := hl (j + 1); simpa [Nat.add_assoc, Nat.add_comm 1 j] using this) (by simp at hsz; omega) hB' hh
  have h' : if Region.wanted o (yielded ops a.tmps) = true then growStep P U (sp k) o a D (wpGrow P ops U sp Q l (k + 1)) else wpGrow P ops U sp Q l (k + 1) (a.put o.dst undef) D := h
  by_cases hw : Region.wanted o (yielded ops a.tmps) = true
  ·rw [if_pos hw] at h'
   cases hsp : sp k
   ·rw [hsp] at h'
    unfold growStep at h'
    obtain ⟨v, hv, hk⟩ := h'
    refine first_stillG (s := false) h0 (Region.noSelect_spec hs) ?_ l.length _ a D hfree hr' (.inl ⟨rfl, hw, hv⟩) (next _ _ hk)
    intro K a D hy hK
    unfold growOp
    simp only [h0]
    rcases hy with ⟨_, hw2, hv2⟩ | ⟨hw2, rfl⟩
    ·rw [if_pos hw2]
     unfold growStep
     rw [hsp]
     exact ⟨v, hv2, hK⟩
    ·rw [if_neg (by simp [hw2])]
     exact hK
   ·have hks : k < ops.size := by simp at hsz; omega
    have hal : Region.ready md ops (upto ops.size k) = [k] := by
     unfold aloneB at hc
     rw [List.all_eq_true] at hc
     have := hc k (List.mem_range.2 hks)
     simpa [hsp] using this
    refine ⟨fun h => (by rw [h] at hr'; cases hr'), fun j hj => ?_⟩
    rw [hal] at hj
    obtain rfl : j = k := by simpa using hj
    unfold growOp
    simp only [h0, if_pos hw]
    exact growStep_mono next h'
  ·rw [if_neg hw] at h'
   have hw' : Region.wanted o (yielded ops a.tmps) = false := by simpa using hw
   refine first_stillG (s := true) h0 (Region.noSelect_spec hs) ?_ l.length _ a D hfree hr' (.inr ⟨hw', rfl⟩) (next _ _ h')
   intro K a D hy hK
   unfold growOp
   simp only [h0]
   rcases hy with ⟨hf, _⟩ | ⟨hw2, _⟩
   ·cases hf
   ·rw [if_neg (by simp [hw2])]
    exact hK
theorem wp_region_grow {id : Nat} {Q : Exit → Act → World → Prop} {a : Act} {w : World} (U : World → Prop) (sp : Nat → Bool) (D : World → Prop) (hm : P.follows .mixedOrders = true) (hB : Region.lexB .any ops = true) (hc : aloneB .any ops sp = true)
 (hU : ∀ w, D w → U w) (hsh : Shut D) (hD : D w.drew) (h : wpGrow P ops U sp (fun a' w' => Q .normal a' w') ops.toList 0 a D) : (Code.region id ops true).wp P Q a w := by
 simp only [Region.lexB, Bool.and_eq_true] at hB
 have hD' : D { w with drawn := w.drawn + 1 } := hD
 refine wp_region_any hm (wpAny_of_grow (U := U) (sp := sp) (Q := fun a' w' => Q .normal a' w') (fun _ _ h => h) _ _ _ D _ hU hsh hD' ?_)
 have := wpAnyG_lex (md := .any) hB.1 hc ops.toList 0 a D (by simp) (by simp) (by rw [upto_zero]; simpa using hB.2) h
 rw [upto_zero] at this
 simpa using this
theorem wpGrow_nil {Q : Act → World → Prop} {a : Act} {k : Nat} {D : World → Prop} (h : ∀ w, D w → Q a w) : wpGrow P ops U sp Q [] k a D := h
theorem gus {v : Value} {w : World} {r : Result Next} (h : r = .ok (.value v) w) : growUpon P v w r := by rw [h]; exact ⟨rfl, Below.refl _ _⟩
theorem wgb {Q : Act → World → Prop} {a : Act} {o : Oper} {rest : List Oper} {k : Nat} {D : World → Prop} (d : Option Tmp) (w0 : World) (hs : sp k = false) (v : Value) (hd : o.dst = d) (hw : Region.wanted o (yielded ops a.tmps) = true)
 (hrun : ∀ w, U w → growUpon P v w ((execOp a.eval o).run P w)) (h : Oper.quiet P ⟨d, .move (.const v), 0, "", #[], none⟩ a (fun _ => True) (fun a' => wpGrow P ops U sp Q rest (k + 1) a' D)) : wpGrow P ops U sp Q (o :: rest) k a D := by
 show if _ then _ else _
 rw [if_pos hw]
 unfold growStep
 rw [if_neg (by simp [hs])]
 refine ⟨v, hrun, ?_⟩
 rw [hd]
 exact put_of_quiet w0 h
theorem wpGrow_bigSpine {Q : Act → World → Prop} {a : Act} {o : Oper} {rest : List Oper} {k : Nat} {D : World → Prop} (d : Option Tmp) (w0 : World) (hs : sp k = true) (hg : o.guard = none) (hd : o.dst = d) (p : Value → Prop) (D' : Value → World → Prop) (hp : ∃ v, p v) (hU : ∀ v w, D' v w → U w) (hsh : ∀ v, Shut (D' v))
 (hrun : ∀ w, D w → spineUpon P (fun v w' => p v ∧ D' v w') ((execOp a.eval o).run P w)) (h : ∀ v, p v → Oper.quiet P ⟨d, .move (.const v), 0, "", #[], none⟩ a (fun _ => True) (fun a' => wpGrow P ops U sp Q rest (k + 1) a' (D' v))) : wpGrow P ops U sp Q (o :: rest) k a D := by
 show if _ then _ else _
 have hw : Region.wanted o (yielded ops a.tmps) = true := by unfold Region.wanted; rw [hg]
 rw [if_pos hw]
 unfold growStep
 rw [if_pos hs]
 refine ⟨p, D', ⟨hp, hU, hrun⟩, hsh, fun v hv => ?_⟩
 rw [hd]
 exact put_of_quiet w0 (h v hv)
theorem wpGrow_bigStore {Q : Act → World → Prop} {a : Act} {o : Oper} {rest : List Oper} {k : Nat} {D : World → Prop} (hs : sp k = true) (hg : o.guard = none) (hd : o.dst = none) (D' : World → Prop) (hU : ∀ w, D' w → U w) (hsh : Shut D')
 (hrun : ∀ w, D w → spineUpon P (fun _ w' => D' w') ((execOp a.eval o).run P w)) (h : wpGrow P ops U sp Q rest (k + 1) a D') : wpGrow P ops U sp Q (o :: rest) k a D := by
 show if _ then _ else _
 have hw : Region.wanted o (yielded ops a.tmps) = true := by unfold Region.wanted; rw [hg]
 rw [if_pos hw]
 unfold growStep
 rw [if_pos hs]
 refine ⟨fun _ => True, fun _ => D', ⟨⟨undef, trivial⟩, fun _ => hU, fun w hw => ?_⟩, fun _ => hsh, fun v _ => ?_⟩
 ·have := hrun w hw
  revert this
  cases (execOp a.eval o).run P w <;> simp [spineUpon]
 ·rw [hd]
  exact h
end
end Go.Proofs.YtnabhdfodckpdacGreat

/-
  The contracts of slices.Clone, slices.Grow and slices.Concat at lists of bytes.
-/
namespace Go.Proofs.YtnabhdfodckpdacGreat
set_option maxRecDepth 20000
open Go.RowKit
abbrev zeroCh : Value := .agg #[.int .u8 0, .int .i64 0, .int .i64 0, .int .i64 0, .int .i64 0, .int .i64 0, .int .i64 0]
theorem Tryz.infoChar : (Tryz.prog.info? 95).map (fun i => (i.zero, i.size, i.bytes)) = some (some zeroCh, 7, 56) := by kernel_rfl
theorem Lst.src {w : World} {v : Value} {l : List Ch} (h : Lst w v l) :
 (∃ cap, v = .slice none 0 cap ∧ l = []) ∨ ∃ ad cap, v = .slice (some ad) l.length cap ∧ l.length ≤ cap ∧ (∀ j u, (cells7 l)[j]? = some u → w.cell? (ad.add j) = some u) := by
 obtain ⟨a, len, cap, rfl, rfl, h2, h3⟩ := h
 cases a with
 | none =>
  rcases h3 with h3 | ⟨b, off, h3, _⟩
  ·exact .inl ⟨cap, by rw [h3], List.length_eq_zero_iff.1 h3⟩
  ·cases h3
 | some ad =>
  refine .inr ⟨ad, cap, rfl, h2, ?_⟩
  rcases h3 with h3 | ⟨b, off, h3, hr⟩
  ·obtain rfl : l = [] := List.length_eq_zero_iff.1 h3
   intro j u hu
   simp [cells7] at hu
  ·cases h3
   exact src_cells l off hr.at_
set_option maxHeartbeats 400000 in
theorem clone_lst {w : World} {v : Value} {l : List Ch} (h : Lst w v l) (hl : l.length ≤ 100000) :
 Calls Tryz.prog 56 #[v] w fun e w' => ∃ v', e = .returned v' ∧ Own w' w.heap.size v' l ∧ Below w.heap.size w w' := by
 obtain ⟨i0, hi, hz0, hz1, hz2⟩ := info_parts Tryz.infoChar
 have q22 : ∀ (w : World) (a : Option Addr) (n c n' c' : Nat), (binOp .eql 44 (.slice a n c) (.slice none n' c')).run Tryz.prog w = .ok (.bool a.isNone) w := fun w a n c n' c' => Lib.run_eql_slice_nil w _ _ a n c n' c' Tryz.underlying44
 rcases h.src with ⟨cap, rfl, rfl⟩ | ⟨ad, cap, rfl, hc, hs⟩
 ·go_enter Tryz.func56, Tryz.ntmps56
  go_wp2
  go_ret
  exact ⟨_, rfl, own_nil _ _, Below.refl _ _⟩
 ·have HS : Hid (∀ j u, (cells7 l)[j]? = some u → w.cell? (ad.add j) = some u) := hs
  have HL : Hid _ := cells7_len l
  have HO : Hid _ := cells7_one l
  clear hs h
  generalize hn : l.length = n at *
  go_enter Tryz.func56, Tryz.ntmps56
  go_wp2_with (at_builtin; refine wpList_append_own _ rfl (.tmp 5) (.tmp 6) 44 rfl w.heap.size 95 i0 zeroCh 7 56 Tryz.underlying44 hi hz0 hz1 hz2 rfl (by decide) _ _ _ rfl (World.ownsRow_made w #[] 0 (Nat.le_refl _) (Nat.zero_le _) rfl) ad n cap (cells7 l) rfl ?c0 ?c1 ?c2 ?c3 ?c4 ?c5 ?_)
  case c0 => rw [HL.out]
  case c1 =>
   intro j u hj
   exact Lib.cell?_alloc_some _ (HS.out j u hj)
  case c2 => exact HO.out
  case c3 => unfold maxLen; omega
  case c4 => omega
  case c5 => simp
  ·intro v' w1 hown hgrow _
   have HW : Hid _ := hown
   have HB : Hid (Below w.heap.size w w1) := ((Below.refl _ w).alloc (Nat.le_refl _) _).grown hgrow (by simp) (by intro k hk; simp [Value.ownBlock] at hk; omega)
   clear hown hgrow
   go_wp2
   go_ret
   refine ⟨v', rfl, ?_, HB.out⟩
   have := HW.out
   unfold Own
   rw [hn]
   exact this
set_option maxHeartbeats 400000 in
theorem grow_nil (n : Nat) (hn : n ≤ 100000) (w : World) :
 Calls Tryz.prog 130 #[.slice none 0 0, .int .i64 n] w fun e w' => ∃ v, e = .returned v ∧ Own w' w.heap.size v [] ∧ Below w.heap.size w w' := by
 by_cases h0 : n = 0
 ·subst h0
  go_enter Tryz.func130, Tryz.ntmps130
  go_wp2
  go_ret
  exact ⟨_, rfl, own_nil _ _, Below.refl _ _⟩
 ·have hp : 0 < n := by omega
  have e56 : Tryz.t95.bytes = 56 := rfl
  have hx : ¬ 281474976710656 < Builtin.nextslicecap n 0 * Tryz.t95.bytes := by rw [e56, nextslicecap_zero hp]; omega
  have hx7 : ¬ n * 7 = 0 := by omega
  have hx8 : (n : Int) * (Tryz.t95.bytes : Int) ≤ 281474976710656 := by rw [e56]; omega
  have hx9 : (n : Int) ≤ 9223372036854775807 := by omega
  go_enter Tryz.func130, Tryz.ntmps130
  go_wp2
  go_ret
  have g1 := grownCap_ge w n 0 95
  have g2 := grownCap_le_maxLen w n 0 95 (by unfold maxLen; omega)
  unfold grownCap at g1 g2
  refine ⟨_, rfl, ⟨rfl, .inr ⟨w.heap.size, _, _, rfl, Nat.le_refl _, heap_alloc_new w _, Nat.zero_le _, g2, ?_, by simp [cells7]⟩⟩, ((Below.refl _ _).alloc (Nat.le_refl _) _).drew⟩
  rw [Array.size_append, size_zeroCells, size_zeroCells]
  show n * 7 + _ * 7 = _ * 7
  rw [← Nat.add_mul]
  congr 1
  omega
structure Three (w : World) (b : Nat) (va vb vc : Value) (a bl c : List Ch) : Prop where
 lt : b < w.heap.size
 c0 : w.cell? ⟨b, 0, none⟩ = some va
 c1 : w.cell? ⟨b, 1, none⟩ = some vb
 c2 : w.cell? ⟨b, 2, none⟩ = some vc
 la : Lst w va a
 lb : Lst w vb bl
 lc : Lst w vc c
theorem Three.below {w w' : World} {b : Nat} {va vb vc : Value} {a bl c : List Ch} (h : Three w b va vb vc a bl c) (hb : Below w.heap.size w w') : Three w' b va vb vc a bl c := by
 obtain ⟨hc, _⟩ := bcell hb
 exact ⟨by have := hb.size; have := h.lt; omega, by rw [hc _ _ h.lt]; exact h.c0, by rw [hc _ _ h.lt]; exact h.c1, by rw [hc _ _ h.lt]; exact h.c2, h.la.below hb, h.lb.below hb, h.lc.below hb⟩
theorem run_append_none (w : World) (base : Nat) (t ty e : TypeId) (i : TypeInfo) (size c : Nat) (ht : Tryz.prog.underlying t = some (.slice e)) (hi : Tryz.prog.info? e = some i)
 (v : Value) (n : Nat) (xs : List Value) (hown : w.ownsRow base e size v n xs) :
 (Builtin.append_ #[t, t] ty #[v, .slice none 0 c]).run Tryz.prog w = .ok v w := by
 rcases hown.2 with ⟨rfl, rfl⟩ | ⟨g, cap, cur, rfl, _, _, hnc, _⟩
 ·simp [Builtin.append_, run_underlying ht, sizeOf, typeInfo, hi, Builtin.lenOf, Builtin.firstCells]
 ·simp [Builtin.append_, run_underlying ht, sizeOf, typeInfo, hi, Builtin.lenOf, Builtin.firstCells, hnc, storeCells]
theorem grown_refl (w : World) (row : Option Nat) : w.grownBy w row := ⟨rfl, rfl, rfl, Nat.le_refl _, fun _ _ _ => rfl⟩
theorem append_lst {ops : Array Oper} {rest : List Oper} {o : Oper} {act : Act} {Q : Exit → Act → World → Prop} (w : World) (hgd : o.guard = none) (s x : Operand)
 (ho : o.op = .call { callee := .builtin .append, args := #[s, x], argTypes := #[44, 44] }) (base : Nat) {v u : Value} {a b : List Ch} (hs : act.eval s = v) (hx : act.eval x = u) (hv : Own w base v a) (hu : Lst w u b) (hl : a.length + b.length ≤ 100000) (hbase : base ≤ w.heap.size)
 (h : ∀ v' w', Own w' base v' (a ++ b) → w.grownBy w' v.ownBlock → wpList Tryz.prog ops Q rest (act.put o.dst v') w') : wpList Tryz.prog ops Q (o :: rest) act w := by
 obtain ⟨i0, hi, hz0, hz1, hz2⟩ := info_parts Tryz.infoChar
 rcases hu.src with ⟨cap, rfl, rfl⟩ | ⟨ad, cap, rfl, hc, hsrc⟩
 ·refine wpList_plain hgd fun K hK => ?_
  have hrun := run_append_none w base 44 o.type 95 i0 7 cap Tryz.underlying44 hi v a.length (cells7 a) hv
  have hh := h v w (by rw [List.append_nil]; exact hv) (grown_refl w _)
  unfold Oper.wp
  simp [execOp, ho, resolve, invoke, builtin, hs, hx, hrun, Result.andThen]
  exact hK _ _ hh
 ·refine wpList_append_own w hgd s x 44 ho base 95 i0 zeroCh 7 56 Tryz.underlying44 hi hz0 hz1 hz2 rfl (by decide) v a.length (cells7 a) hs hv ad b.length cap (cells7 b) hx (cells7_len b) hsrc (cells7_one b) (by unfold maxLen; omega) (by omega) hbase ?_
  intro v' w' ho hg _
  refine h v' w' ?_ hg
  unfold Own
  rw [List.length_append, cells7_app]
  exact ho
def sum3 (a b c : List Ch) : Nat → Nat
 | 0 => 0
 | 1 => a.length
 | 2 => a.length + b.length
 | _ => a.length + b.length + c.length
def cat3 (a b c : List Ch) : Nat → List Ch
 | 0 => []
 | 1 => a
 | 2 => a ++ b
 | _ => a ++ b ++ c
theorem Three.nth {w : World} {g : Nat} {va vb vc : Value} {a b c : List Ch} (h : Three w g va vb vc a b c) {k : Nat} (hk : k < 3) :
 ∃ v l, w.cell? ⟨g, k, none⟩ = some v ∧ Lst w v l ∧ sum3 a b c (k + 1) = sum3 a b c k + l.length ∧ cat3 a b c (k + 1) = cat3 a b c k ++ l := by
 rcases (show k = 0 ∨ k = 1 ∨ k = 2 by omega) with rfl | rfl | rfl
 ·exact ⟨va, a, h.c0, h.la, by simp [sum3], by simp [cat3]⟩
 ·exact ⟨vb, b, h.c1, h.lb, rfl, rfl⟩
 ·exact ⟨vc, c, h.c2, h.lc, rfl, rfl⟩
theorem sum3_le (a b c : List Ch) (k : Nat) : sum3 a b c k ≤ a.length + b.length + c.length := by
 unfold sum3
 split <;> omega
theorem cat3_len (a b c : List Ch) (k : Nat) : (cat3 a b c k).length = sum3 a b c k := by
 unfold cat3 sum3
 split <;> simp [Nat.add_assoc]
set_option maxHeartbeats 800000 in
theorem concat_three (g : Nat) (va vb vc : Value) (a b c : List Ch) (w : World) (h : Three w g va vb vc a b c) (hl : a.length + b.length + c.length ≤ 100000) :
 Calls Tryz.prog 101 #[.slice (some ⟨g, 0, none⟩) 3 3] w fun e w' => ∃ v, e = .returned v ∧ Own w' w.heap.size v (a ++ b ++ c) ∧ Below w.heap.size w w' := by
 have HT : Hid _ := h
 have hg := h.lt
 have HS : Hid _ := sum3_le a b c
 have HC : Hid _ := cat3_len a b c
 clear h
 go_enter Tryz.func101, Tryz.ntmps101
 go_wp2
 go_loop [3, 11] (fun n i => ∃ k : Nat, k ≤ 3 ∧ i = .int .i64 k ∧ n = .int .i64 (sum3 a b c k)) (fun _ i => 3 - (intOf i).toNat)
 case atStart => exact ⟨0, by omega, rfl, rfl⟩
 case round =>
  obtain ⟨k, hk, rfl, rfl⟩ := hrel
  by_cases hlt : k < 3
  ·obtain ⟨v, l, hv, hL, hs, _⟩ := HT.out.nth hlt
   have h1 := HS.out k
   have h2 := HS.out (k + 1)
   have HN : Hid _ := hs
   obtain ⟨ad, cap, rfl, _⟩ := hL.len
   generalize sum3 a b c k = n at *
   generalize l.length = m at *
   clear hL
   rw [hs] at h2
   clear hs
   go_wp2
   go_round
   case rel => exact ⟨k + 1, by omega, by go_num, by rw [HN.out]; go_num⟩
   case measure => simp [intOf]; omega
  ·obtain rfl : k = 3 := by omega
   have h3 := HS.out 3
   generalize hn : sum3 a b c 3 = n at *
   go_wp2_with fail
   refine (grow_nil n (by omega) _).mono ?_
   rintro e w1 ⟨v0, rfl, hown, hb⟩
   have HO : Hid _ := hown
   have HB : Hid _ := hb
   clear hown hb
   go_wp2
   go_loopw [6, 27] (fun v i wr => ∃ k : Nat, k ≤ 3 ∧ i = .int .i64 k ∧ Hid (Own wr w.heap.size v (cat3 a b c k)) ∧ Hid (Below w.heap.size w wr)) (fun _ i _ => 3 - (intOf i).toNat)
   case atStart => exact ⟨0, by omega, rfl, HO, HB⟩
   case round =>
    obtain ⟨k, hk, rfl, HOk, HBk⟩ := hrel
    by_cases hlt : k < 3
    ·obtain ⟨u, l, hu, hL, hs, hcat⟩ := (HT.out.below HBk.out).nth hlt
     have h1 := HS.out (k + 1)
     have hck := HC.out k
     have HN : Hid _ := hcat
     have HL : Hid _ := hL
     obtain ⟨ad, cap, rfl, _⟩ := hL.len
     clear hL hcat
     rw [hs] at h1
     go_wp2_with (at_builtin; refine append_lst _ rfl (.tmp 31) (.tmp 32) rfl w.heap.size rfl rfl HOk.out HL.out ?c0 ?c1 ?_)
     case c0 => rw [hck]; omega
     case c1 => exact HBk.out.size
     ·intro v' w2 hown' hgrow
      have HO2 : Hid (Own w2 w.heap.size v' (cat3 a b c (k + 1))) := by show Own _ _ _ _; rw [HN.out]; exact hown'
      have HB2 : Hid (Below w.heap.size w w2) := HBk.out.grown hgrow HBk.out.size (fun j hj => (World.ownsRow.lt HOk.out j hj).1)
      clear hown' hgrow
      go_wp2
      go_roundw
      case rel => exact ⟨k + 1, by omega, by go_num, HO2, HB2⟩
      case measure => simp [intOf]; omega
    ·obtain rfl : k = 3 := by omega
     go_wp2
     go_ret
     exact ⟨_, rfl, HOk.out, HBk.out⟩
end Go.Proofs.YtnabhdfodckpdacGreat
