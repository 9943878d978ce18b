/-
  Plain mathematics: where the old bytes and the new ones stand behind a deed; and two texts at the same place, neither of whose writers knew of the other one. No walk.
-/
import Derived.Test.YtfjjjbohflobnabFLists
namespace Go.Proofs.Ytfjjjbohflobnab

/-! Nothing is lost, and all keeps its order. -/

theorem doL_new {l : List Ch} {d : Dd} {number : Int} (hk : d.kind = 1) (hp : placeL l d ≤ l.length) : ((doL l d number).drop (placeL l d)).take d.text.size = newL d number := by
  rw [doL, if_pos hk, List.drop_append_of_le_length (by rw [List.length_take]; omega), List.drop_eq_nil_of_le (by rw [List.length_take]; omega), List.nil_append, List.take_append_of_le_length (by rw [newL_len]; exact Nat.le_refl _), List.take_of_length_le (by rw [newL_len]; exact Nat.le_refl _)]

theorem doL_low {l : List Ch} {d : Dd} {number : Int} (hk : d.kind = 1) (hp : placeL l d ≤ l.length) {i : Nat} (hi : i < placeL l d) : (doL l d number)[i]? = l[i]? := by
  rw [doL, if_pos hk, List.getElem?_append_left (by rw [List.length_take]; omega), List.getElem?_take_of_lt hi]

theorem doL_high {l : List Ch} {d : Dd} {number : Int} (hk : d.kind = 1) (hp : placeL l d ≤ l.length) {i : Nat} (hi : placeL l d ≤ i) : (doL l d number)[i + d.text.size]? = l[i]? := by
  have e1 : (l.take (placeL l d)).length = placeL l d := by rw [List.length_take]; omega
  rw [doL, if_pos hk, List.getElem?_append_right (by omega), e1, List.getElem?_append_right (by rw [newL_len]; omega), newL_len, List.getElem?_drop]
  congr 1
  omega

/-! Two texts at the same place. -/

abbrev bytesN (l : List UInt8) : List Int := l.map fun b => (b.toNat : Int)

/-- The j-th deed that puts in a text, twenty bytes at a time. -/
def chunkD (base : List UInt8) (j : Nat) : Dd := ⟨1, 0, (j : Int) + 1, j, 20 * j, 0, ⟨((base.drop (20 * j)).take 20).toArray⟩⟩

theorem nums_chunk (base : List UInt8) (j : Nat) : nums (chunkD base j).text = bytesN ((base.drop (20 * j)).take 20) := by
  simp [nums, chunkD, bytesN]

/-- How deeds end, done one behind the other from the j-th on: well, with that text, or with the code that Check has of the deed at which it ends. -/
def Ends (target : List Int) (j : Nat) (ds : List Dd) (r : List Ch × Int × Nat) : Prop :=
  (r.2.1 = 0 ∧ vw r.1 (openN - 1) (-1) = target ∧ Plain 200 r.1) ∨ (r.2.1 ≠ 0 ∧ r.1 = [] ∧ ∃ t : Nat, r.2.2 = j + t ∧ ∃ d, ds[t]? = some d ∧ checkC d = r.2.1)

theorem Ends.later {target : List Int} {j : Nat} {d : Dd} {ds : List Dd} {r : List Ch × Int × Nat} (h : Ends target (j + 1) ds r) : Ends target j (d :: ds) r := by
  rcases h with h | ⟨h1, h2, t, ht, e, he, hc⟩
  · exact .inl h
  · exact .inr ⟨h1, h2, t + 1, by omega, e, by simpa using he, hc⟩

theorem all_bad {target : List Int} {l : List Ch} {j : Nat} {d : Dd} {ds : List Dd} (h : checkC d ≠ 0) : Ends target j (d :: ds) (allL l j (d :: ds)) := by
  have e : doC l d (j + 1) = checkC d := by
    rw [doC, mayC, if_pos h, if_pos h]
  rw [allL, e, if_pos h]
  exact .inr ⟨h, rfl, 0, rfl, d, rfl, rfl⟩

theorem all_good {l : List Ch} {j : Nat} {d : Dd} {ds : List Dd} (hc : checkC d = 0) (hn : d.at_ + d.many ≤ cnt l d.seen d.by_) (hl : l.length + d.text.size ≤ 200) : allL l j (d :: ds) = allL (doL l d (j + 1)) (j + 1) ds := by
  have e : doC l d (j + 1) = 0 := by
    have hm : mayC l d = 0 := by
      rw [mayC, if_neg (fun h => h hc), if_neg (by omega), if_neg (by omega)]
    rw [doC, if_neg (fun h => h hm), if_neg (by omega)]
  rw [allL, e, if_neg (by simp)]

theorem plain_app {n : Int} {a b : List Ch} (ha : Plain n a) (hb : Plain n b) : Plain n (a ++ b) := by
  intro x hx
  rcases List.mem_append.1 hx with hx | hx
  · exact ha x hx
  · exact hb x hx

theorem plain_le {n m : Int} {a : List Ch} (h : Plain n a) (hm : n ≤ m) : Plain m a := fun x hx => by
  obtain ⟨h1, h2, h3⟩ := h x hx
  exact ⟨by omega, h2, h3⟩

/-- The last two: both behind k bytes of a text that both have seen. -/
theorem meets_two {l : List Ch} {n k : Nat} {da db : Dd} (hpl : Plain n l) (hk : k ≤ l.length) (hn : n ≤ 100) (hl : l.length + da.text.size + db.text.size ≤ 100)
    (a1 : da.kind = 1) (a2 : da.by_ = 1) (a3 : da.seen = n) (a4 : da.at_ = k) (a5 : da.many = 0) (b1 : db.kind = 1) (b2 : db.by_ = 2) (b3 : db.seen = n) (b4 : db.at_ = k) (b5 : db.many = 0) :
    Ends ((l.map (·.c)).take k ++ (nums db.text ++ (nums da.text ++ (l.map (·.c)).drop k))) n [da, db] (allL l n [da, db]) := by
  by_cases ca : checkC da = 0
  · have hseeA : ∀ x ∈ l, seesC da.seen da.by_ x = true := by rw [a3]; exact plain_sees hpl (Int.le_refl _)
    rw [all_good ca (by rw [a4, a5, cnt_all hseeA]; omega) (by omega)]
    have hsplit : l = l.take k ++ l.drop k := (List.take_append_drop k l).symm
    have hkl : (l.take k).length = k := by rw [List.length_take]; omega
    have hopen : ∀ m : Int, m ≤ 1000 → ∀ y : List Ch, Plain m y → ∀ x ∈ y, x.inn ≠ openN := by
      intro m hm y hy x hx e
      have := (hy x hx).1
      unfold openN at e
      omega
    have e1 : doL l da ((n : Int) + 1) = l.take k ++ (newL da (n + 1) ++ l.drop k) := by
      have := put_plain (p := l.take k) (r := l.drop k) (d := da) (number := (n : Int) + 1) a1 (by rw [a4, hkl]) (fun x hx => hseeA x (List.mem_of_mem_take hx)) (hopen n (by omega) _ (fun x hx => hpl x (List.mem_of_mem_drop hx)))
      rwa [← hsplit] at this
    have hpt : Plain n (l.take k) := fun x hx => hpl x (List.mem_of_mem_take hx)
    have hpd : Plain n (l.drop k) := fun x hx => hpl x (List.mem_of_mem_drop hx)
    by_cases cb : checkC db = 0
    · refine Ends.later ?_
      have hcb : cnt (doL l da ((n : Int) + 1)) db.seen db.by_ = l.length := by
        rw [← vw_len, doL_far (number := (n : Int) + 1) (by rw [a2]; decide) (by rw [a2, b2]; decide) (by rw [b3]; omega), vw_len, b3, cnt_all (plain_sees hpl (Int.le_refl _))]
      rw [all_good cb (by rw [b4, b5, hcb]; omega) (by rw [doL_len (fun h => absurd a1 h)]; omega)]
      have e2 : doL (doL l da ((n : Int) + 1)) db (((n + 1 : Nat) : Int) + 1) = l.take k ++ (newL db (((n + 1 : Nat) : Int) + 1) ++ (newL da (n + 1) ++ l.drop k)) := by
        rw [e1]
        refine put_plain b1 (by rw [b4, hkl]) (fun x hx => ?_) (hopen (n + 1) (by omega) _ (plain_app (newL_plain da _) (plain_le hpd (by omega))))
        rw [b3]
        exact plain_sees hpt (Int.le_refl _) x hx
      rw [e2]
      left
      have hall : Plain (n + 2) (l.take k ++ (newL db (((n + 1 : Nat) : Int) + 1) ++ (newL da (n + 1) ++ l.drop k))) :=
        plain_app (plain_le hpt (by omega)) (plain_app (plain_le (newL_plain db _) (by omega)) (plain_app (plain_le (newL_plain da _) (by omega)) (plain_le hpd (by omega))))
      refine ⟨rfl, ?_, plain_le hall (by omega)⟩
      show vw (l.take k ++ (newL db (((n + 1 : Nat) : Int) + 1) ++ (newL da (n + 1) ++ l.drop k))) (openN - 1) (-1) = _
      rw [vw_all (plain_sees hall (by unfold openN; omega)), List.map_append, List.map_append, List.map_append, newL_cs, newL_cs, List.map_take, List.map_drop]
    · exact Ends.later (all_bad cb)
  · exact all_bad ca

/-- ALL of it: the text by chunks, and the two. -/
theorem meets_all {base : List UInt8} {k : Nat} {da db : Dd} {n : Nat} (hb : base.length ≤ 20 * n) (hk : k ≤ base.length) (hl : base.length + da.text.size + db.text.size ≤ 100) (hn : n ≤ 100) (hlast : 20 * n < base.length + 20)
    (a1 : da.kind = 1) (a2 : da.by_ = 1) (a3 : da.seen = n) (a4 : da.at_ = k) (a5 : da.many = 0) (b1 : db.kind = 1) (b2 : db.by_ = 2) (b3 : db.seen = n) (b4 : db.at_ = k) (b5 : db.many = 0) :
    ∀ (m j : Nat) (l : List Ch), j + m = n → Plain j l → l.map (·.c) = bytesN (base.take (20 * j)) →
      Ends (bytesN (base.take k) ++ (nums db.text ++ (nums da.text ++ bytesN (base.drop k)))) j ((List.range' j m).map (chunkD base) ++ [da, db]) (allL l j ((List.range' j m).map (chunkD base) ++ [da, db]))
  | 0, j, l, hj, hp, hc => by
    obtain rfl : j = n := by omega
    have hcl : l.length = base.length := by
      have := congrArg List.length hc
      simp at this
      omega
    have hcs : l.map (·.c) = bytesN base := by rw [hc, List.take_of_length_le hb]
    have := meets_two (l := l) (n := j) (k := k) hp (by omega) hn (by omega) a1 a2 a3 a4 a5 b1 b2 b3 b4 b5
    rw [hcs] at this
    simpa [bytesN, List.map_take, List.map_drop] using this
  | m + 1, j, l, hj, hp, hc => by
    rw [List.range'_succ, List.map_cons, List.cons_append]
    have hlt : 20 * j < base.length := by omega
    have hcl : l.length = 20 * j := by
      have := congrArg List.length hc
      simp at this
      omega
    have hts : (chunkD base j).text.size ≤ base.length - 20 * j := by
      show (((base.drop (20 * j)).take 20).toArray).size ≤ _
      rw [List.size_toArray, List.length_take, List.length_drop]
      omega
    by_cases hck : checkC (chunkD base j) = 0
    · have hsee : ∀ x ∈ l, seesC (chunkD base j).seen (chunkD base j).by_ x = true := plain_sees hp (Int.le_refl _)
      rw [all_good hck (by rw [cnt_all hsee]; show 20 * (j : Int) + 0 ≤ _; omega) (by omega)]
      refine Ends.later ?_
      refine meets_all hb hk hl hn hlast a1 a2 a3 a4 a5 b1 b2 b3 b4 b5 m (j + 1) _ (by omega) ?_ ?_
      · have e := put_plain (p := l) (r := []) (d := chunkD base j) (number := (j : Int) + 1) rfl (by show 20 * (j : Int) = _; omega) hsee (fun x hx => by simp at hx)
        rw [List.append_nil, List.append_nil] at e
        rw [e]
        exact plain_app (plain_le hp (by omega)) (plain_le (newL_plain _ _) (by omega))
      · have e := put_plain (p := l) (r := []) (d := chunkD base j) (number := (j : Int) + 1) rfl (by show 20 * (j : Int) = _; omega) hsee (fun x hx => by simp at hx)
        rw [List.append_nil, List.append_nil] at e
        rw [e, List.map_append, hc, newL_cs, nums_chunk, show 20 * (j + 1) = 20 * j + 20 by omega, List.take_add]
        simp [bytesN]
    · exact all_bad hck

end Go.Proofs.Ytfjjjbohflobnab
