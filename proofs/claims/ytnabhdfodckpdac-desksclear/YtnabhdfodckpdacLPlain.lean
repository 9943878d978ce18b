/-
  Plain mathematics: where the old bytes and the new ones stand behind a deed; and two texts at the same place, neither of whose writers knew of the other one. No walk.
-/
import Derived.Test.YtnabhdfodckpdacFMem
import Derived.Test.YtnabhdfodckpdacFAll
namespace Go.Proofs.Ytnabhdfodckpdac

/-! Nothing is lost, and all keeps its order. -/

theorem doL_new {l : List Ch} {d : Dd} {number : Int} (hk : d.kind = 1) (hp : placeL l d ≤ l.length) : ((doL l d number).drop (placeL l d)).take d.text.size = newL d number := by
  rw [doL, if_pos hk, List.drop_append_of_le_length (by rw [List.length_take]; omega), List.drop_eq_nil_of_le (by rw [List.length_take]; omega), List.nil_append, List.take_append_of_le_length (by rw [newL_len]; exact Nat.le_refl _), List.take_of_length_le (by rw [newL_len]; exact Nat.le_refl _)]

theorem doL_low {l : List Ch} {d : Dd} {number : Int} (hk : d.kind = 1) (hp : placeL l d ≤ l.length) {i : Nat} (hi : i < placeL l d) : (doL l d number)[i]? = l[i]? := by
  rw [doL, if_pos hk, List.getElem?_append_left (by rw [List.length_take]; omega), List.getElem?_take_of_lt hi]

theorem doL_high {l : List Ch} {d : Dd} {number : Int} (hk : d.kind = 1) (hp : placeL l d ≤ l.length) {i : Nat} (hi : placeL l d ≤ i) : (doL l d number)[i + d.text.size]? = l[i]? := by
  have e1 : (l.take (placeL l d)).length = placeL l d := by rw [List.length_take]; omega
  rw [doL, if_pos hk, List.getElem?_append_right (by omega), e1, List.getElem?_append_right (by rw [newL_len]; omega), newL_len, List.getElem?_drop]
  congr 1
  omega

/-! Two texts at the same place. -/

abbrev bytesN (l : List UInt8) : List Int := l.map fun b => (b.toNat : Int)

/-- The j-th deed that puts in a text, twenty bytes at a time. -/
def chunkD (base : List UInt8) (j : Nat) : Dd := ⟨1, 0, (j : Int) + 1, j, 20 * j, 0, ⟨((base.drop (20 * j)).take 20).toArray⟩⟩

theorem nums_chunk (base : List UInt8) (j : Nat) : nums (chunkD base j).text = bytesN ((base.drop (20 * j)).take 20) := by
  simp [nums, chunkD, bytesN]

/-- How deeds end, done one behind the other from the j-th on: well, with that text, or with the code that Check has of the deed at which it ends. -/
def Ends (target : List Int) (j : Nat) (ds : List Dd) (r : List Ch × Int × Nat) : Prop :=
  (r.2.1 = 0 ∧ vw r.1 (openN - 1) (-1) = target ∧ Plain 200 r.1) ∨ (r.2.1 ≠ 0 ∧ r.1 = [] ∧ ∃ t : Nat, r.2.2 = j + t ∧ ∃ d, ds[t]? = some d ∧ checkC d = r.2.1)

theorem Ends.later {target : List Int} {j : Nat} {d : Dd} {ds : List Dd} {r : List Ch × Int × Nat} (h : Ends target (j + 1) ds r) : Ends target j (d :: ds) r := by
  rcases h with h | ⟨h1, h2, t, ht, e, he, hc⟩
  · exact .inl h
  · exact .inr ⟨h1, h2, t + 1, by omega, e, by simpa using he, hc⟩

theorem all_bad {target : List Int} {l : List Ch} {j : Nat} {d : Dd} {ds : List Dd} (h : checkC d ≠ 0) : Ends target j (d :: ds) (allL l j (d :: ds)) := by
  have e : doC l d (j + 1) = checkC d := by
    rw [doC, mayC, if_pos h, if_pos h]
  rw [allL, e, if_pos h]
  exact .inr ⟨h, rfl, 0, rfl, d, rfl, rfl⟩

theorem all_good {l : List Ch} {j : Nat} {d : Dd} {ds : List Dd} (hc : checkC d = 0) (hn : d.at_ + d.many ≤ cnt l d.seen d.by_) (hl : l.length + d.text.size ≤ 200) : allL l j (d :: ds) = allL (doL l d (j + 1)) (j + 1) ds := by
  have e : doC l d (j + 1) = 0 := by
    have hm : mayC l d = 0 := by
      rw [mayC, if_neg (fun h => h hc), if_neg (by omega), if_neg (by omega)]
    rw [doC, if_neg (fun h => h hm), if_neg (by omega)]
  rw [allL, e, if_neg (by simp)]

theorem plain_app {n : Int} {a b : List Ch} (ha : Plain n a) (hb : Plain n b) : Plain n (a ++ b) := by
  intro x hx
  rcases List.mem_append.1 hx with hx | hx
  · exact ha x hx
  · exact hb x hx

theorem plain_le {n m : Int} {a : List Ch} (h : Plain n a) (hm : n ≤ m) : Plain m a := fun x hx => by
  obtain ⟨h1, h2, h3⟩ := h x hx
  exact ⟨by omega, h2, h3⟩

/-- The last two: both behind k bytes of a text that both have seen. -/
theorem meets_two {l : List Ch} {n k : Nat} {da db : Dd} (hpl : Plain n l) (hk : k ≤ l.length) (hn : n ≤ 100) (hl : l.length + da.text.size + db.text.size ≤ 100)
    (a1 : da.kind = 1) (a2 : da.by_ = 1) (a3 : da.seen = n) (a4 : da.at_ = k) (a5 : da.many = 0) (b1 : db.kind = 1) (b2 : db.by_ = 2) (b3 : db.seen = n) (b4 : db.at_ = k) (b5 : db.many = 0) :
    Ends ((l.map (·.c)).take k ++ (nums db.text ++ (nums da.text ++ (l.map (·.c)).drop k))) n [da, db] (allL l n [da, db]) := by
  by_cases ca : checkC da = 0
  · have hseeA : ∀ x ∈ l, seesC da.seen da.by_ x = true := by rw [a3]; exact plain_sees hpl (Int.le_refl _)
    rw [all_good ca (by rw [a4, a5, cnt_all hseeA]; omega) (by omega)]
    have hsplit : l = l.take k ++ l.drop k := (List.take_append_drop k l).symm
    have hkl : (l.take k).length = k := by rw [List.length_take]; omega
    have hopen : ∀ m : Int, m ≤ 1000 → ∀ y : List Ch, Plain m y → ∀ x ∈ y, x.inn ≠ openN := by
      intro m hm y hy x hx e
      have := (hy x hx).1
      unfold openN at e
      omega
    have e1 : doL l da ((n : Int) + 1) = l.take k ++ (newL da (n + 1) ++ l.drop k) := by
      have := put_plain (p := l.take k) (r := l.drop k) (d := da) (number := (n : Int) + 1) a1 (by rw [a4, hkl]) (fun x hx => hseeA x (List.mem_of_mem_take hx)) (hopen n (by omega) _ (fun x hx => hpl x (List.mem_of_mem_drop hx)))
      rwa [← hsplit] at this
    have hpt : Plain n (l.take k) := fun x hx => hpl x (List.mem_of_mem_take hx)
    have hpd : Plain n (l.drop k) := fun x hx => hpl x (List.mem_of_mem_drop hx)
    by_cases cb : checkC db = 0
    · refine Ends.later ?_
      have hcb : cnt (doL l da ((n : Int) + 1)) db.seen db.by_ = l.length := by
        rw [← vw_len, doL_far (number := (n : Int) + 1) (by rw [a2]; decide) (by rw [a2, b2]; decide) (by rw [b3]; omega), vw_len, b3, cnt_all (plain_sees hpl (Int.le_refl _))]
      rw [all_good cb (by rw [b4, b5, hcb]; omega) (by rw [doL_len (fun h => absurd a1 h)]; omega)]
      have e2 : doL (doL l da ((n : Int) + 1)) db (((n + 1 : Nat) : Int) + 1) = l.take k ++ (newL db (((n + 1 : Nat) : Int) + 1) ++ (newL da (n + 1) ++ l.drop k)) := by
        rw [e1]
        refine put_plain b1 (by rw [b4, hkl]) (fun x hx => ?_) (hopen (n + 1) (by omega) _ (plain_app (newL_plain da _) (plain_le hpd (by omega))))
        rw [b3]
        exact plain_sees hpt (Int.le_refl _) x hx
      rw [e2]
      left
      have hall : Plain (n + 2) (l.take k ++ (newL db (((n + 1 : Nat) : Int) + 1) ++ (newL da (n + 1) ++ l.drop k))) :=
        plain_app (plain_le hpt (by omega)) (plain_app (plain_le (newL_plain db _) (by omega)) (plain_app (plain_le (newL_plain da _) (by omega)) (plain_le hpd (by omega))))
      refine ⟨rfl, ?_, plain_le hall (by omega)⟩
      show vw (l.take k ++ (newL db (((n + 1 : Nat) : Int) + 1) ++ (newL da (n + 1) ++ l.drop k))) (openN - 1) (-1) = _
      rw [vw_all (plain_sees hall (by unfold openN; omega)), List.map_append, List.map_append, List.map_append, newL_cs, newL_cs, List.map_take, List.map_drop]
    · exact Ends.later (all_bad cb)
  · exact all_bad ca

/-- ALL of it: the text by chunks, and the two. -/
theorem meets_all {base : List UInt8} {k : Nat} {da db : Dd} {n : Nat} (hb : base.length ≤ 20 * n) (hk : k ≤ base.length) (hl : base.length + da.text.size + db.text.size ≤ 100) (hn : n ≤ 100) (hlast : 20 * n < base.length + 20)
    (a1 : da.kind = 1) (a2 : da.by_ = 1) (a3 : da.seen = n) (a4 : da.at_ = k) (a5 : da.many = 0) (b1 : db.kind = 1) (b2 : db.by_ = 2) (b3 : db.seen = n) (b4 : db.at_ = k) (b5 : db.many = 0) :
    ∀ (m j : Nat) (l : List Ch), j + m = n → Plain j l → l.map (·.c) = bytesN (base.take (20 * j)) →
      Ends (bytesN (base.take k) ++ (nums db.text ++ (nums da.text ++ bytesN (base.drop k)))) j ((List.range' j m).map (chunkD base) ++ [da, db]) (allL l j ((List.range' j m).map (chunkD base) ++ [da, db]))
  | 0, j, l, hj, hp, hc => by
    obtain rfl : j = n := by omega
    have hcl : l.length = base.length := by
      have := congrArg List.length hc
      simp at this
      omega
    have hcs : l.map (·.c) = bytesN base := by rw [hc, List.take_of_length_le hb]
    have := meets_two (l := l) (n := j) (k := k) hp (by omega) hn (by omega) a1 a2 a3 a4 a5 b1 b2 b3 b4 b5
    rw [hcs] at this
    simpa [bytesN, List.map_take, List.map_drop] using this
  | m + 1, j, l, hj, hp, hc => by
    rw [List.range'_succ, List.map_cons, List.cons_append]
    have hlt : 20 * j < base.length := by omega
    have hcl : l.length = 20 * j := by
      have := congrArg List.length hc
      simp at this
      omega
    have hts : (chunkD base j).text.size ≤ base.length - 20 * j := by
      show (((base.drop (20 * j)).take 20).toArray).size ≤ _
      rw [List.size_toArray, List.length_take, List.length_drop]
      omega
    by_cases hck : checkC (chunkD base j) = 0
    · have hsee : ∀ x ∈ l, seesC (chunkD base j).seen (chunkD base j).by_ x = true := plain_sees hp (Int.le_refl _)
      rw [all_good hck (by rw [cnt_all hsee]; show 20 * (j : Int) + 0 ≤ _; omega) (by omega)]
      refine Ends.later ?_
      refine meets_all hb hk hl hn hlast a1 a2 a3 a4 a5 b1 b2 b3 b4 b5 m (j + 1) _ (by omega) ?_ ?_
      · have e := put_plain (p := l) (r := []) (d := chunkD base j) (number := (j : Int) + 1) rfl (by show 20 * (j : Int) = _; omega) hsee (fun x hx => by simp at hx)
        rw [List.append_nil, List.append_nil] at e
        rw [e]
        exact plain_app (plain_le hp (by omega)) (plain_le (newL_plain _ _) (by omega))
      · have e := put_plain (p := l) (r := []) (d := chunkD base j) (number := (j : Int) + 1) rfl (by show 20 * (j : Int) = _; omega) hsee (fun x hx => by simp at hx)
        rw [List.append_nil, List.append_nil] at e
        rw [e, List.map_append, hc, newL_cs, nums_chunk, show 20 * (j + 1) = 20 * j + 20 by omega, List.take_add]
        simp [bytesN]
    · exact all_bad hck

end Go.Proofs.Ytnabhdfodckpdac

/-
  Lists of deeds in memory that the call owns. No walk.
-/
namespace Go.Proofs.Ytnabhdfodckpdac
open Go.RowKit

def ddCells (x : Dd) : List Value := [.int .i64 x.kind, .int .i64 x.by_, .int .i64 x.no, .int .i64 x.seen, .int .i64 x.at_, .int .i64 x.many, .string x.text]

def cellsD : List Dd → List Value
  | [] => []
  | x :: r => ddCells x ++ cellsD r

theorem cellsD_len : ∀ l : List Dd, (cellsD l).length = l.length * 7
  | [] => rfl
  | x :: r => by
    rw [cellsD, List.length_append, cellsD_len r, List.length_cons]
    show 7 + _ = _
    omega

theorem cellsD_app : ∀ a b : List Dd, cellsD (a ++ b) = cellsD a ++ cellsD b
  | [], b => rfl
  | x :: r, b => by rw [List.cons_append, cellsD, cellsD_app r b, cellsD, List.append_assoc]

theorem cellsD_one : ∀ (l : List Dd) (u : Value), u ∈ cellsD l → u.oneCell' = true
  | [], u, h => by simp [cellsD] at h
  | x :: r, u, h => by
    rw [cellsD, List.mem_append] at h
    rcases h with h | h
    · simp [ddCells] at h
      rcases h with rfl | rfl | rfl | rfl | rfl | rfl | rfl <;> rfl
    · exact cellsD_one r u h

theorem cellsD_get : ∀ (l : List Dd) (i r : Nat) (hi : i < l.length), r < 7 → (cellsD l)[i * 7 + r]? = (ddCells l[i])[r]?
  | [], i, r, hi, _ => absurd hi (Nat.not_lt_zero _)
  | x :: l, 0, r, _, hr => by
    rw [cellsD, Nat.zero_mul, Nat.zero_add, List.getElem?_append_left (by exact hr)]
    rfl
  | x :: l, i + 1, r, hi, hr => by
    rw [cellsD, List.getElem?_append_right (by show 7 ≤ _; omega)]
    show (cellsD l)[(i + 1) * 7 + r - 7]? = _
    rw [show (i + 1) * 7 + r - 7 = i * 7 + r by omega, cellsD_get l i r (by simpa using hi) hr]
    rfl

/-- A list of deeds that the call owns. -/
def OwnD (w : World) (base : Nat) (v : Value) (l : List Dd) : Prop := w.ownsRow base 39 7 v l.length (cellsD l)

theorem ownD_nil (w : World) (base : Nat) : OwnD w base (.slice none 0 0) [] := World.ownsRow_nil _ _ _ _

theorem OwnD.dlst {w : World} {base : Nat} {v : Value} {l : List Dd} (h : OwnD w base v l) : DLst w v l := by
  have h' := h
  obtain ⟨_, h2⟩ := h
  rcases h2 with ⟨rfl, hn⟩ | ⟨g, cap, cur, rfl, hb, hg, hnc, _⟩
  · exact ⟨none, 0, 0, rfl, hn, Nat.le_refl _, .inl rfl⟩
  · have hlt := (Array.getElem?_eq_some_iff.1 hg).1
    refine ⟨_, _, _, rfl, rfl, hnc, .inr ⟨g, 0, rfl, ⟨hlt, fun i hi => ?_⟩⟩⟩
    have key : ∀ r, r < 7 → w.cell? ⟨g, 0 + i * 7 + r, none⟩ = (ddCells l[i])[r]? := fun r hr => by
      rw [Nat.zero_add, World.ownsRow.cellAt h' (i * 7 + r) (by omega), cellsD_get l i r hi hr]
    exact ⟨hlt, key 0 (by omega), key 1 (by omega), key 2 (by omega), key 3 (by omega), key 4 (by omega), key 5 (by omega), key 6 (by omega)⟩

theorem OwnD.below {w w' : World} {base : Nat} {v : Value} {l : List Dd} (h : OwnD w base v l) (hb : Below w.heap.size w w') : OwnD w' base v l := by
  exact World.ownsRow.kept (row := none) h ⟨hb.os, hb.tape, hb.output, hb.size, fun k hk _ => hb.block k hk⟩ (by cases h' : v.ownBlock <;> simp)

abbrev zeroDdV : Value := .agg #[.int .i64 0, .int .i64 0, .int .i64 0, .int .i64 0, .int .i64 0, .int .i64 0, .string ⟨#[]⟩]

theorem Try.infoDeed : (Try.prog.info? 39).map (fun i => (i.zero, i.size, i.bytes)) = some (some zeroDdV, 7, 64) := by kernel_rfl

/-- append of deeds, that lie in a block, to a list that the call owns. -/
theorem append_deeds {ops : Array Oper} {rest : List Oper} {o : Oper} {act : Act} {Q : Exit → Act → World → Prop} (w : World) (hgd : o.guard = none) (s x : Operand)
    (ho : o.op = .call { callee := .builtin .append, args := #[s, x], argTypes := #[29, 29] }) (base g cap : Nat) {v : Value} {a b : List Dd} (hs : act.eval s = v) (hx : act.eval x = .slice (some ⟨g, 0, none⟩) b.length cap) (hv : OwnD w base v a)
    (hsrc : ∀ j u, (cellsD b)[j]? = some u → w.cell? ((⟨g, 0, none⟩ : Addr).add j) = some u) (hl : a.length + b.length ≤ 100000) (hbase : base ≤ w.heap.size)
    (h : ∀ v' w', OwnD w' base v' (a ++ b) → w.grownBy w' v.ownBlock → wpList Try.prog ops Q rest (act.put o.dst v') w') : wpList Try.prog ops Q (o :: rest) act w := by
  obtain ⟨i0, hi, hz0, hz1, hz2⟩ := info_parts Try.infoDeed
  refine wpList_append_own w hgd s x 29 ho base 39 i0 zeroDdV 7 64 Try.underlying29 hi hz0 hz1 hz2 rfl (by decide) v a.length (cellsD a) hs hv ⟨g, 0, none⟩ b.length cap (cellsD b) hx (cellsD_len b) hsrc (cellsD_one b) (by unfold maxLen; omega) (by omega) hbase ?_
  intro v' w' ho hg _
  refine h v' w' ?_ hg
  unfold OwnD
  rw [List.length_append, cellsD_app]
  exact ho

/-- Deeds that lie in a new block, as a source of cells. -/
theorem src_new (w : World) (b : List Dd) (cs : Array Value) (h : cs.toList = cellsD b) : ∀ j u, (cellsD b)[j]? = some u → (w.alloc (.cells cs 39)).cell? ((⟨w.heap.size, 0, none⟩ : Addr).add j) = some u := by
  intro j u hu
  rw [addr_add, Nat.zero_add]
  rw [← h] at hu
  have hu' : cs[j]? = some u := by simpa using hu
  rw [cell_of_row (w.alloc (.cells cs 39)) w.heap.size j cs 39 (0, 0) (heap_alloc_new w _)]
  exact hu'

end Go.Proofs.Ytnabhdfodckpdac

/-
  Plain mathematics of the law FoldLists: deeds in their order, each writer's numbered from 1 on, make a list that may be. No walk.
-/
namespace Go.Proofs.Ytnabhdfodckpdac
open Go.RowKit

def upd (last : Int → Int) (d : Dd) : Int → Int := fun w => if w = d.by_ then d.no else last w
def lastAt (l : List Dd) : Int → Int := l.foldl upd (fun _ => 0)
def nAt (l : List Dd) : Nat := l.foldl (fun n d => n + d.text.size) 0

theorem lastAt_snoc (l : List Dd) (d : Dd) : lastAt (l ++ [d]) = upd (lastAt l) d := by simp [lastAt]
theorem nAt_snoc (l : List Dd) (d : Dd) : nAt (l ++ [d]) = nAt l + d.text.size := by simp [nAt]

/-- The i-th deed stands where it may. -/
def okAt (ds : List Dd) (i : Nat) : Prop := ∀ d, ds[i]? = some d → wrB d.by_ = true ∧ d.no = lastAt (ds.take i) d.by_ + 1 ∧ d.seen ≤ i

theorem take_snocD (l : List Dd) (k : Nat) (h : k < l.length) : l.take (k + 1) = l.take k ++ [l[k]] := List.take_succ_eq_append_getElem h

theorem last_bound {ds : List Dd} : ∀ (k : Nat), k ≤ ds.length → (∀ i, i < k → okAt ds i) → ∀ w, 0 ≤ lastAt (ds.take k) w ∧ lastAt (ds.take k) w ≤ k
  | 0, _, _, w => by simp [lastAt]
  | k + 1, hk, h, w => by
    have ih := last_bound k (by omega) (fun i hi => h i (by omega))
    obtain ⟨_, h2, _⟩ := h k (by omega) ds[k] (List.getElem?_eq_getElem (by omega))
    rw [take_snocD ds k (by omega), lastAt_snoc, upd]
    have i1 := ih w
    have i2 := ih ds[k].by_
    split <;> omega

theorem made_all : ∀ (suf pre : List Dd) (l : List Ch), (∀ i, i < (pre ++ suf).length → okAt (pre ++ suf) i) → (pre ++ suf).length ≤ 1000 → Made (lastAt pre) pre.length l → l.length = nAt pre → l.length ≤ 200 → (allL l pre.length suf).2.1 = 0 →
    Made (lastAt (pre ++ suf)) (pre ++ suf).length (allL l pre.length suf).1 ∧ (allL l pre.length suf).1.length = nAt (pre ++ suf) ∧ (allL l pre.length suf).1.length ≤ 200
  | [], pre, l, _, _, hm, hn, hl, _ => by
    rw [List.append_nil]
    exact ⟨hm, hn, hl⟩
  | d :: r, pre, l, hok, hlen, hm, hn, hl, hz => by
    have e : pre ++ d :: r = (pre ++ [d]) ++ r := by simp
    have hpl : (pre ++ [d]).length = pre.length + 1 := by simp
    rw [allL] at hz ⊢
    by_cases hc : doC l d ((pre.length : Int) + 1) = 0
    · rw [if_neg (fun h => h hc)] at hz ⊢
      obtain ⟨h1, h2, h3, h4⟩ := doC_zero hc
      obtain ⟨_, hno, _⟩ := hok pre.length (by simp) d (by simp)
      rw [List.take_left] at hno
      have hsm := doL_len (l := l) (d := d) (number := (pre.length : Int) + 1) (fun hk => (check_parts h1).2.2.2.2.2.2.2.2.2.2.2 hk)
      have hm' : Made (lastAt (pre ++ [d])) (pre.length + 1) (doL l d ((pre.length : Int) + 1)) := by
        rw [lastAt_snoc]
        by_cases hk : d.kind = 1
        · exact made_put hm h1 hk hno
        · exact made_take hm h1 hk hno (by simp at hlen; omega)
      have ih := made_all r (pre ++ [d]) (doL l d ((pre.length : Int) + 1)) (by rw [← e]; exact hok) (by rw [← e]; exact hlen) (by rw [hpl]; exact hm') (by rw [nAt_snoc, hsm, hn]) (by rw [hsm]; exact h3) (by rw [hpl]; exact hz)
      rw [hpl] at ih
      rw [e]
      exact ih
    · rw [if_pos hc] at hz
      exact absurd hz hc

theorem made_nil : Made (fun _ => 0) 0 [] := by
  refine ⟨?_, ?_, ?_, ?_, ?_, ?_, List.Pairwise.nil⟩ <;> intro x hx <;> simp at hx

/-- WHAT DEEDS MAKE IS A LIST. -/
theorem lists_made {ds : List Dd} (hok : ∀ i, i < ds.length → okAt ds i) (hl : ds.length ≤ 1000) (hz : (allL [] 0 ds).2.1 = 0) {r : Int} (hr : CheckIs (allL [] 0 ds).1 ds.length r) : r = 0 ∧ (allL [] 0 ds).1.length = nAt ds := by
  obtain ⟨h1, h2, h3⟩ := made_all ds [] [] hok hl made_nil rfl (Nat.zero_le _) hz
  exact ⟨made_check h1 h3 hr, h2⟩

theorem lists_fault : ∀ {ds : List Dd} {l : List Ch} {i : Nat}, (allL l i ds).2.1 ≠ 0 → (allL l i ds).1 = []
  | [], l, i, h => by simp [allL] at h
  | d :: r, l, i, h => by
    rw [allL] at h ⊢
    by_cases hc : doC l d ((i : Int) + 1) = 0
    · rw [if_neg (fun e => e hc)] at h ⊢
      exact lists_fault h
    · rw [if_pos hc]

theorem small_all : ∀ {ds : List Dd} {l : List Ch} {i : Nat}, Small l → (allL l i ds).1.length ≤ 200
  | [], l, i, h => h.len
  | d :: r, l, i, h => by
    rw [allL]
    by_cases hc : doC l d ((i : Int) + 1) = 0
    · rw [if_neg (fun e => e hc)]
      exact small_all (small_do h.fits hc)
    · rw [if_pos hc]
      exact Nat.zero_le _

theorem nAt_le : ∀ (l : List Dd) (n : Nat), (∀ d ∈ l, d.text.size ≤ 100) → l.foldl (fun n d => n + d.text.size) n ≤ n + l.length * 100
  | [], n, _ => by simp
  | d :: r, n, h => by
    rw [List.foldl_cons, List.length_cons]
    have h1 := nAt_le r (n + d.text.size) (fun x hx => h x (by simp [hx]))
    have h2 := h d (by simp)
    omega

end Go.Proofs.Ytnabhdfodckpdac

/-
  Plain mathematics of a log: who is there, what each has said, the deeds, and what never happens. No walk.
-/
namespace Go.Proofs.Ytnabhdfodckpdac
open Go.RowKit

def setF {α : Type} (f : Int → α) (w : Int) (x : α) : Int → α := fun v => if v = w then x else f v

theorem setF_same {α : Type} (f : Int → α) (w : Int) (x : α) : setF f w x w = x := if_pos rfl
theorem setF_other {α : Type} (f : Int → α) {w v : Int} (x : α) (h : v ≠ w) : setF f w x v = f v := if_neg h

/-- A log. -/
structure Bk where
  ds : List Dd
  here : Int → Bool
  last : Int → Int
  said : Int → Int

def Bk.empty : Bk := ⟨[], fun _ => false, fun _ => 0, fun _ => 0⟩
def Bk.len (b : Bk) : Int := b.ds.length
def Bk.isHere (b : Bk) (w : Int) : Bool := wrB w && b.here w
def Bk.chars (b : Bk) : List Ch := (allL [] 0 b.ds).1

def joinC (b : Bk) (w : Int) : Int := if wrB w = false then 1 else if b.here w = true then 6 else 0
def joinB (b : Bk) (w : Int) : Bk := if joinC b w = 0 then ⟨b.ds, setF b.here w true, b.last, setF b.said w b.len⟩ else b
def joinN (b : Bk) (w : Int) : Int := if joinC b w = 0 then b.last w + 1 else 0

def leaveC (b : Bk) (w : Int) : Int := if b.isHere w = true then 0 else 5
def leaveB (b : Bk) (w : Int) : Bk := if leaveC b w = 0 then ⟨b.ds, setF b.here w false, b.last, b.said⟩ else b

def comesC (b : Bk) (d : Dd) : Int :=
  if b.isHere d.by_ = false then 5 else if d.no ≠ b.last d.by_ + 1 then 7 else if d.seen < b.said d.by_ ∨ b.len < d.seen then 8 else if 120 ≤ b.len then 9 else doC b.chars d (b.len + 1)
def comesB (b : Bk) (d : Dd) : Bk := if comesC b d = 0 then ⟨b.ds ++ [d], b.here, setF b.last d.by_ d.no, setF b.said d.by_ d.seen⟩ else b
def comesN (b : Bk) (d : Dd) : Int := if comesC b d = 0 then b.len + 1 else 0

def saysC (b : Bk) (w seen : Int) : Int := if b.isHere w = false then 5 else if seen < b.said w ∨ b.len < seen then 8 else 0
def saysB (b : Bk) (w seen : Int) : Bk := if saysC b w seen = 0 then ⟨b.ds, b.here, b.last, setF b.said w seen⟩ else b

def leastStep (b : Bk) (n w : Int) : Int := if b.here w = true ∧ b.said w < n then b.said w else n
def leastL (b : Bk) : Int := leastStep b (leastStep b (leastStep b (leastStep b b.len 0) 1) 2) 3

/-- What each writer's last deed had seen. -/
def updS (f : Int → Int) (d : Dd) : Int → Int := setF f d.by_ d.seen
def seenAt (l : List Dd) : Int → Int := l.foldl updS (fun _ => 0)

theorem seenAt_snoc (l : List Dd) (d : Dd) : seenAt (l ++ [d]) = updS (seenAt l) d := by simp [seenAt]

structure Good (b : Bk) : Prop where
  all0 : (allL [] 0 b.ds).2.1 = 0
  small : b.ds.length ≤ 120
  ok : ∀ i, i < b.ds.length → okAt b.ds i
  mono : ∀ i d, b.ds[i]? = some d → seenAt (b.ds.take i) d.by_ ≤ d.seen
  last : ∀ w, b.last w = lastAt b.ds w
  saw : ∀ w, seenAt b.ds w ≤ b.said w
  said : ∀ w, 0 ≤ b.said w ∧ b.said w ≤ b.len

theorem good_empty : Good Bk.empty := by
  refine ⟨rfl, Nat.zero_le _, fun i hi => absurd hi (Nat.not_lt_zero _), fun i d h => ?_, fun w => rfl, fun w => Int.le_refl _, fun w => ⟨Int.le_refl _, Int.le_refl _⟩⟩
  simp [Bk.empty] at h

theorem allL_snoc {d : Dd} : ∀ (ds : List Dd) (l : List Ch) (i : Nat), (allL l i ds).2.1 = 0 → doC (allL l i ds).1 d (((i + ds.length : Nat) : Int) + 1) = 0 →
    allL l i (ds ++ [d]) = (doL (allL l i ds).1 d (((i + ds.length : Nat) : Int) + 1), 0, 0)
  | [], l, i, _, hc => by
    simp only [List.nil_append, List.length_nil, Nat.add_zero, allL] at hc ⊢
    rw [if_neg (fun h => h hc)]
  | e :: r, l, i, h, hc => by
    rw [List.cons_append, allL]
    rw [allL] at h hc
    by_cases he : doC l e ((i : Int) + 1) = 0
    · rw [if_neg (fun x => x he)] at h hc ⊢
      have hl : i + (e :: r).length = i + 1 + r.length := by simp; omega
      rw [hl] at hc ⊢
      rw [allL_snoc r _ (i + 1) h hc, allL, if_neg (fun x => x he)]
    · rw [if_pos he] at h
      exact absurd h he

theorem isHere_writer {b : Bk} {w : Int} (h : b.isHere w = true) : wrB w = true ∧ b.here w = true := by
  simpa [Bk.isHere] using h

theorem comes_parts {b : Bk} {d : Dd} (h : comesC b d = 0) : b.isHere d.by_ = true ∧ d.no = b.last d.by_ + 1 ∧ b.said d.by_ ≤ d.seen ∧ d.seen ≤ b.len ∧ b.len < 120 ∧ doC b.chars d (b.len + 1) = 0 := by
  unfold comesC at h
  cases hh : b.isHere d.by_
  · rw [if_pos hh] at h; cases h
  · rw [if_neg (by simp [hh])] at h
    by_cases h1 : d.no = b.last d.by_ + 1
    · rw [if_neg (fun e => e h1)] at h
      by_cases h2 : d.seen < b.said d.by_ ∨ b.len < d.seen
      · rw [if_pos h2] at h; cases h
      · rw [if_neg h2] at h
        by_cases h3 : 120 ≤ b.len
        · rw [if_pos h3] at h; cases h
        · rw [if_neg h3] at h
          exact ⟨rfl, h1, by omega, by omega, by omega, h⟩
    · rw [if_pos h1] at h; cases h

theorem good_join {b : Bk} (w : Int) (h : Good b) : Good (joinB b w) := by
  unfold joinB
  split
  · refine ⟨h.all0, h.small, h.ok, h.mono, h.last, fun v => ?_, fun v => ?_⟩
    · have h1 := h.saw v
      have h2 := h.said v
      show seenAt b.ds v ≤ setF b.said w b.len v
      by_cases e : v = w
      · rw [e, setF_same]; rw [e] at h1 h2; omega
      · rw [setF_other _ _ e]; exact h1
    · have h2 := h.said v
      show 0 ≤ setF b.said w b.len v ∧ setF b.said w b.len v ≤ b.len
      by_cases e : v = w
      · rw [e, setF_same]; rw [e] at h2; omega
      · rw [setF_other _ _ e]; exact h2
  · exact h

theorem good_leave {b : Bk} (w : Int) (h : Good b) : Good (leaveB b w) := by
  unfold leaveB
  split
  · exact ⟨h.all0, h.small, h.ok, h.mono, h.last, h.saw, h.said⟩
  · exact h

theorem good_says {b : Bk} (w seen : Int) (h : Good b) : Good (saysB b w seen) := by
  unfold saysB
  split
  · rename_i hc
    have hs : b.said w ≤ seen ∧ seen ≤ b.len := by
      unfold saysC at hc
      split at hc
      · cases hc
      · split at hc
        · cases hc
        · omega
    refine ⟨h.all0, h.small, h.ok, h.mono, h.last, fun v => ?_, fun v => ?_⟩
    · have h1 := h.saw v
      show seenAt b.ds v ≤ setF b.said w seen v
      by_cases e : v = w
      · rw [e, setF_same]; rw [e] at h1; omega
      · rw [setF_other _ _ e]; exact h1
    · have h2 := h.said v
      show 0 ≤ setF b.said w seen v ∧ setF b.said w seen v ≤ b.len
      by_cases e : v = w
      · rw [e, setF_same]; rw [e] at h2; omega
      · rw [setF_other _ _ e]; exact h2
  · exact h

theorem chars_comes {b : Bk} {d : Dd} (h : Good b) (hc : comesC b d = 0) : allL [] 0 (b.ds ++ [d]) = (doL b.chars d (b.len + 1), 0, 0) := by
  obtain ⟨_, _, _, _, _, h6⟩ := comes_parts hc
  have := allL_snoc (d := d) b.ds [] 0 h.all0 (by rw [Nat.zero_add]; exact h6)
  rw [Nat.zero_add] at this
  exact this

theorem good_comes {b : Bk} (d : Dd) (h : Good b) : Good (comesB b d) := by
  unfold comesB
  split
  · rename_i hc
    obtain ⟨h1, h2, h3, h4, h5, h6⟩ := comes_parts hc
    have hs0 := h.said d.by_
    have hlen : b.len = (b.ds.length : Int) := rfl
    refine ⟨?_, ?_, ?_, ?_, ?_, ?_, ?_⟩
    · show (allL [] 0 (b.ds ++ [d])).2.1 = 0
      rw [chars_comes h hc]
    · show (b.ds ++ [d]).length ≤ 120
      rw [List.length_append]
      show b.ds.length + 1 ≤ 120
      omega
    · intro i hi e he
      have hi' : i < b.ds.length + 1 := by simpa using hi
      by_cases hil : i < b.ds.length
      · have he' : b.ds[i]? = some e := by
          rw [← he]
          exact (List.getElem?_append_left hil).symm
        have := h.ok i hil e he'
        show wrB e.by_ = true ∧ e.no = lastAt ((b.ds ++ [d]).take i) e.by_ + 1 ∧ e.seen ≤ i
        rw [List.take_append_of_le_length (by omega)]
        exact this
      · obtain rfl : i = b.ds.length := by omega
        have he' : e = d := by
          have : (b.ds ++ [d])[b.ds.length]? = some e := he
          simpa using this.symm
        subst he'
        show wrB e.by_ = true ∧ e.no = lastAt ((b.ds ++ [e]).take b.ds.length) e.by_ + 1 ∧ e.seen ≤ (b.ds.length : Int)
        rw [List.take_left, ← h.last]
        exact ⟨(isHere_writer h1).1, h2, h4⟩
    · intro i e he
      have he0 : (b.ds ++ [d])[i]? = some e := he
      have hi : i < b.ds.length + 1 := by
        have := (List.getElem?_eq_some_iff.1 he0).1
        simpa using this
      show seenAt ((b.ds ++ [d]).take i) e.by_ ≤ e.seen
      by_cases hil : i < b.ds.length
      · rw [List.take_append_of_le_length (by omega)]
        exact h.mono i e (by rw [← he0]; exact (List.getElem?_append_left hil).symm)
      · obtain rfl : i = b.ds.length := by omega
        have he' : e = d := by simpa using he0.symm
        subst he'
        rw [List.take_left]
        have := h.saw e.by_
        omega
    · intro w
      show setF b.last d.by_ d.no w = lastAt (b.ds ++ [d]) w
      rw [lastAt_snoc]
      show (if w = d.by_ then d.no else b.last w) = if w = d.by_ then d.no else lastAt b.ds w
      rw [h.last w]
    · intro w
      show seenAt (b.ds ++ [d]) w ≤ setF b.said d.by_ d.seen w
      rw [seenAt_snoc, updS]
      by_cases e : w = d.by_
      · rw [e, setF_same, setF_same]; exact Int.le_refl _
      · rw [setF_other _ _ e, setF_other _ _ e]; exact h.saw w
    · intro w
      have hw := h.said w
      show 0 ≤ setF b.said d.by_ d.seen w ∧ setF b.said d.by_ d.seen w ≤ ((b.ds ++ [d]).length : Int)
      rw [List.length_append]
      show 0 ≤ setF b.said d.by_ d.seen w ∧ setF b.said d.by_ d.seen w ≤ ((b.ds.length + 1 : Nat) : Int)
      by_cases e : w = d.by_
      · rw [e, setF_same]; omega
      · rw [setF_other _ _ e]; omega
  · exact h

/-! What the least is. -/

theorem leastStep_le (b : Bk) (n w : Int) : leastStep b n w ≤ n := by unfold leastStep; split <;> omega
theorem leastStep_said {b : Bk} {n w : Int} (h : b.here w = true) : leastStep b n w ≤ b.said w := by
  unfold leastStep
  split
  · exact Int.le_refl _
  · rename_i hc
    by_cases h2 : b.said w < n
    · exact absurd ⟨h, h2⟩ hc
    · omega
theorem leastStep_ge {b : Bk} {n w m : Int} (h : m ≤ n) (hw : b.here w = true → m ≤ b.said w) : m ≤ leastStep b n w := by
  unfold leastStep
  split
  · rename_i hc; exact hw hc.1
  · exact h

theorem least_len (b : Bk) : leastL b ≤ b.len := by
  unfold leastL
  have h0 := leastStep_le b b.len 0
  have h1 := leastStep_le b (leastStep b b.len 0) 1
  have h2 := leastStep_le b (leastStep b (leastStep b b.len 0) 1) 2
  have h3 := leastStep_le b (leastStep b (leastStep b (leastStep b b.len 0) 1) 2) 3
  omega

theorem least_said {b : Bk} {w : Int} (hw : wrB w = true) (h : b.here w = true) : leastL b ≤ b.said w := by
  have hw' : 0 ≤ w ∧ w ≤ 3 := by simpa [wrB] using hw
  have h1 := leastStep_le b (leastStep b b.len 0) 1
  have h2 := leastStep_le b (leastStep b (leastStep b b.len 0) 1) 2
  have h3 := leastStep_le b (leastStep b (leastStep b (leastStep b b.len 0) 1) 2) 3
  unfold leastL
  rcases (show w = 0 ∨ w = 1 ∨ w = 2 ∨ w = 3 by omega) with rfl | rfl | rfl | rfl
  · have := leastStep_said (n := b.len) h; omega
  · have := leastStep_said (n := leastStep b b.len 0) h; omega
  · have := leastStep_said (n := leastStep b (leastStep b b.len 0) 1) h; omega
  · exact leastStep_said h

theorem least_ge {b : Bk} {m : Int} (h : m ≤ b.len) (hw : ∀ w, wrB w = true → b.here w = true → m ≤ b.said w) : m ≤ leastL b := by
  unfold leastL
  exact leastStep_ge (leastStep_ge (leastStep_ge (leastStep_ge h (hw 0 (by decide))) (hw 1 (by decide))) (hw 2 (by decide))) (hw 3 (by decide))

theorem least_join {b : Bk} (w : Int) : leastL b ≤ leastL (joinB b w) := by
  unfold joinB
  split
  · refine least_ge (least_len b) (fun v hv hh => ?_)
    show leastL b ≤ setF b.said w b.len v
    by_cases e : v = w
    · rw [e, setF_same]; exact least_len b
    · rw [setF_other _ _ e]
      have hh' : setF b.here w true v = true := hh
      rw [setF_other _ _ e] at hh'
      exact least_said hv hh'
  · exact Int.le_refl _

theorem least_leave {b : Bk} (w : Int) : leastL b ≤ leastL (leaveB b w) := by
  unfold leaveB
  split
  · refine least_ge (least_len b) (fun v hv hh => ?_)
    show leastL b ≤ b.said v
    have hh' : setF b.here w false v = true := hh
    by_cases e : v = w
    · rw [e, setF_same] at hh'; cases hh'
    · rw [setF_other _ _ e] at hh'
      exact least_said hv hh'
  · exact Int.le_refl _

theorem least_says {b : Bk} (w seen : Int) : leastL b ≤ leastL (saysB b w seen) := by
  unfold saysB
  split
  · rename_i hc
    have hs : b.isHere w = true ∧ b.said w ≤ seen := by
      unfold saysC at hc
      cases hh : b.isHere w
      · rw [if_pos hh] at hc; cases hc
      · rw [if_neg (by simp [hh])] at hc
        split at hc
        · cases hc
        · exact ⟨rfl, by omega⟩
    refine least_ge (least_len b) (fun v hv hh => ?_)
    show leastL b ≤ setF b.said w seen v
    by_cases e : v = w
    · rw [e, setF_same]
      have := least_said (isHere_writer hs.1).1 (isHere_writer hs.1).2
      omega
    · rw [setF_other _ _ e]
      exact least_said hv hh
  · exact Int.le_refl _

/-- NOBODY SPEAKS OF WHAT IS BELOW. -/
theorem comes_least {b : Bk} {d : Dd} (hc : comesC b d = 0) : leastL b ≤ d.seen := by
  obtain ⟨h1, _, h3, _⟩ := comes_parts hc
  have := least_said (isHere_writer h1).1 (isHere_writer h1).2
  omega

theorem least_comes {b : Bk} (d : Dd) : leastL b ≤ leastL (comesB b d) := by
  unfold comesB
  split
  · rename_i hc
    have hl := comes_least hc
    refine least_ge ?_ (fun v hv hh => ?_)
    · have := least_len b
      show leastL b ≤ ((b.ds ++ [d]).length : Int)
      rw [List.length_append]
      have e : b.len = (b.ds.length : Int) := rfl
      show leastL b ≤ ((b.ds.length + 1 : Nat) : Int)
      omega
    · show leastL b ≤ setF b.said d.by_ d.seen v
      by_cases e : v = d.by_
      · rw [e, setF_same]; exact hl
      · rw [setF_other _ _ e]
        exact least_said hv hh
  · exact Int.le_refl _

/-! Steps. -/

structure LStep where
  do_ : Int
  w : Int
  n : Int
  d : Dd
  right : Bool

/-- The deed of a step, its No and Seen as they may be, if that is asked. -/
def rightD (b : Bk) (x : LStep) : Dd :=
  if (x.right && wrB x.d.by_) = true then ⟨x.d.kind, x.d.by_, b.last x.d.by_ + 1, b.said x.d.by_ + (IntKind.u64.wrap x.d.seen).tmod (b.len - b.said x.d.by_ + 1), x.d.at_, x.d.many, x.d.text⟩ else x.d

def stepB (b : Bk) (x : LStep) : Bk :=
  if x.do_ = 0 then joinB b x.w else if x.do_ = 1 then leaveB b x.w else if x.do_ = 2 then comesB b (rightD b x) else if x.do_ = 3 then saysB b x.w x.n else b

theorem good_step {b : Bk} (x : LStep) (h : Good b) : Good (stepB b x) := by
  unfold stepB
  split
  · exact good_join _ h
  · split
    · exact good_leave _ h
    · split
      · exact good_comes _ h
      · split
        · exact good_says _ _ h
        · exact h

theorem least_step (b : Bk) (x : LStep) : leastL b ≤ leastL (stepB b x) := by
  unfold stepB
  split
  · exact least_join _
  · split
    · exact least_leave _
    · split
      · exact least_comes _
      · split
        · exact least_says _ _
        · exact Int.le_refl _

def runB (l : List LStep) : Bk := l.foldl stepB Bk.empty

theorem runB_snoc (l : List LStep) (x : LStep) : runB (l ++ [x]) = stepB (runB l) x := by simp [runB]

theorem good_run (l : List LStep) : Good (runB l) := by
  unfold runB
  have : ∀ (l : List LStep) (b : Bk), Good b → Good (l.foldl stepB b) := by
    intro l
    induction l with
    | nil => exact fun b h => h
    | cons x r ih => exact fun b h => ih _ (good_step x h)
  exact this l _ good_empty

/-- A step that makes the log longer adds one deed, that has seen no less than the least. -/
theorem longer_step {b : Bk} {x : LStep} (h : b.ds.length < (stepB b x).ds.length) : ∃ d, (stepB b x).ds = b.ds ++ [d] ∧ leastL b ≤ d.seen := by
  unfold stepB at h ⊢
  split at h
  · rename_i h0
    rw [if_pos h0]
    exfalso
    unfold joinB at h
    split at h <;> simp at h
  · rename_i h0
    rw [if_neg h0]
    split at h
    · exfalso
      unfold leaveB at h
      split at h <;> simp at h
    · rename_i h1
      rw [if_neg h1]
      split at h
      · rename_i h2
        rw [if_pos h2]
        unfold comesB at h ⊢
        split at h
        · rename_i hc
          rw [if_pos hc]
          exact ⟨_, rfl, comes_least hc⟩
        · omega
      · rename_i h2
        rw [if_neg h2]
        split at h
        · exfalso
          unfold saysB at h
          split at h <;> simp at h
        · omega

/-! A text that is not refused changes the log; what is refused changes nothing. -/

theorem join_no {b : Bk} {w : Int} (h : joinC b w ≠ 0) : joinB b w = b := by rw [joinB, if_neg h]
theorem leave_no {b : Bk} {w : Int} (h : leaveC b w ≠ 0) : leaveB b w = b := by rw [leaveB, if_neg h]
theorem comes_no {b : Bk} {d : Dd} (h : comesC b d ≠ 0) : comesB b d = b := by rw [comesB, if_neg h]
theorem says_no {b : Bk} {w seen : Int} (h : saysC b w seen ≠ 0) : saysB b w seen = b := by rw [saysB, if_neg h]

theorem small_chars {b : Bk} : b.chars.length ≤ 200 := small_all (sofar_start b.ds).1

theorem lastAt_bound {b : Bk} (h : Good b) (w : Int) : 0 ≤ b.last w ∧ b.last w ≤ b.len := by
  rw [h.last w]
  have := last_bound b.ds.length (Nat.le_refl _) h.ok w
  rw [List.take_length] at this
  exact this

end Go.Proofs.Ytnabhdfodckpdac
