/-
  Lists of deeds in memory that the call owns. No walk.
-/
import Derived.Test.YtfjjjbohflobnabFAll
import Derived.Test.YtfjjjbohflobnabFMeets
namespace Go.Proofs.Ytfjjjbohflobnab
open Go.RowKit

def ddCells (x : Dd) : List Value := [.int .i64 x.kind, .int .i64 x.by_, .int .i64 x.no, .int .i64 x.seen, .int .i64 x.at_, .int .i64 x.many, .string x.text]

def cellsD : List Dd → List Value
  | [] => []
  | x :: r => ddCells x ++ cellsD r

theorem cellsD_len : ∀ l : List Dd, (cellsD l).length = l.length * 7
  | [] => rfl
  | x :: r => by
    rw [cellsD, List.length_append, cellsD_len r, List.length_cons]
    show 7 + _ = _
    omega

theorem cellsD_app : ∀ a b : List Dd, cellsD (a ++ b) = cellsD a ++ cellsD b
  | [], b => rfl
  | x :: r, b => by rw [List.cons_append, cellsD, cellsD_app r b, cellsD, List.append_assoc]

theorem cellsD_one : ∀ (l : List Dd) (u : Value), u ∈ cellsD l → u.oneCell' = true
  | [], u, h => by simp [cellsD] at h
  | x :: r, u, h => by
    rw [cellsD, List.mem_append] at h
    rcases h with h | h
    · simp [ddCells] at h
      rcases h with rfl | rfl | rfl | rfl | rfl | rfl | rfl <;> rfl
    · exact cellsD_one r u h

theorem cellsD_get : ∀ (l : List Dd) (i r : Nat) (hi : i < l.length), r < 7 → (cellsD l)[i * 7 + r]? = (ddCells l[i])[r]?
  | [], i, r, hi, _ => absurd hi (Nat.not_lt_zero _)
  | x :: l, 0, r, _, hr => by
    rw [cellsD, Nat.zero_mul, Nat.zero_add, List.getElem?_append_left (by exact hr)]
    rfl
  | x :: l, i + 1, r, hi, hr => by
    rw [cellsD, List.getElem?_append_right (by show 7 ≤ _; omega)]
    show (cellsD l)[(i + 1) * 7 + r - 7]? = _
    rw [show (i + 1) * 7 + r - 7 = i * 7 + r by omega, cellsD_get l i r (by simpa using hi) hr]
    rfl

/-- A list of deeds that the call owns. -/
def OwnD (w : World) (base : Nat) (v : Value) (l : List Dd) : Prop := w.ownsRow base 27 7 v l.length (cellsD l)

theorem ownD_nil (w : World) (base : Nat) : OwnD w base (.slice none 0 0) [] := World.ownsRow_nil _ _ _ _

theorem OwnD.dlst {w : World} {base : Nat} {v : Value} {l : List Dd} (h : OwnD w base v l) : DLst w v l := by
  have h' := h
  obtain ⟨_, h2⟩ := h
  rcases h2 with ⟨rfl, hn⟩ | ⟨g, cap, cur, rfl, hb, hg, hnc, _⟩
  · exact ⟨none, 0, 0, rfl, hn, Nat.le_refl _, .inl rfl⟩
  · have hlt := (Array.getElem?_eq_some_iff.1 hg).1
    refine ⟨_, _, _, rfl, rfl, hnc, .inr ⟨g, 0, rfl, ⟨hlt, fun i hi => ?_⟩⟩⟩
    have key : ∀ r, r < 7 → w.cell? ⟨g, 0 + i * 7 + r, none⟩ = (ddCells l[i])[r]? := fun r hr => by
      rw [Nat.zero_add, World.ownsRow.cellAt h' (i * 7 + r) (by omega), cellsD_get l i r hi hr]
    exact ⟨hlt, key 0 (by omega), key 1 (by omega), key 2 (by omega), key 3 (by omega), key 4 (by omega), key 5 (by omega), key 6 (by omega)⟩

theorem OwnD.below {w w' : World} {base : Nat} {v : Value} {l : List Dd} (h : OwnD w base v l) (hb : Below w.heap.size w w') : OwnD w' base v l := by
  exact World.ownsRow.kept (row := none) h ⟨hb.os, hb.tape, hb.output, hb.size, fun k hk _ => hb.block k hk⟩ (by cases h' : v.ownBlock <;> simp)

abbrev zeroDdV : Value := .agg #[.int .i64 0, .int .i64 0, .int .i64 0, .int .i64 0, .int .i64 0, .int .i64 0, .string ⟨#[]⟩]

theorem Try.infoDeed : (Try.prog.info? 27).map (fun i => (i.zero, i.size, i.bytes)) = some (some zeroDdV, 7, 64) := by kernel_rfl

/-- append of deeds, that lie in a block, to a list that the call owns. -/
theorem append_deeds {ops : Array Oper} {rest : List Oper} {o : Oper} {act : Act} {Q : Exit → Act → World → Prop} (w : World) (hgd : o.guard = none) (s x : Operand)
    (ho : o.op = .call { callee := .builtin .append, args := #[s, x], argTypes := #[22, 22] }) (base g cap : Nat) {v : Value} {a b : List Dd} (hs : act.eval s = v) (hx : act.eval x = .slice (some ⟨g, 0, none⟩) b.length cap) (hv : OwnD w base v a)
    (hsrc : ∀ j u, (cellsD b)[j]? = some u → w.cell? ((⟨g, 0, none⟩ : Addr).add j) = some u) (hl : a.length + b.length ≤ 100000) (hbase : base ≤ w.heap.size)
    (h : ∀ v' w', OwnD w' base v' (a ++ b) → w.grownBy w' v.ownBlock → wpList Try.prog ops Q rest (act.put o.dst v') w') : wpList Try.prog ops Q (o :: rest) act w := by
  obtain ⟨i0, hi, hz0, hz1, hz2⟩ := info_parts Try.infoDeed
  refine wpList_append_own w hgd s x 22 ho base 27 i0 zeroDdV 7 64 Try.underlying22 hi hz0 hz1 hz2 rfl (by decide) v a.length (cellsD a) hs hv ⟨g, 0, none⟩ b.length cap (cellsD b) hx (cellsD_len b) hsrc (cellsD_one b) (by unfold maxLen; omega) (by omega) hbase ?_
  intro v' w' ho hg _
  refine h v' w' ?_ hg
  unfold OwnD
  rw [List.length_append, cellsD_app]
  exact ho

/-- Deeds that lie in a new block, as a source of cells. -/
theorem src_new (w : World) (b : List Dd) (cs : Array Value) (h : cs.toList = cellsD b) : ∀ j u, (cellsD b)[j]? = some u → (w.alloc (.cells cs 27)).cell? ((⟨w.heap.size, 0, none⟩ : Addr).add j) = some u := by
  intro j u hu
  rw [addr_add, Nat.zero_add]
  rw [← h] at hu
  have hu' : cs[j]? = some u := by simpa using hu
  rw [cell_of_row (w.alloc (.cells cs 27)) w.heap.size j cs 27 (0, 0) (heap_alloc_new w _)]
  exact hu'

end Go.Proofs.Ytfjjjbohflobnab
