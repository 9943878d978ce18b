/-
  Plain mathematics of the law FoldLists: deeds in their order, each writer's numbered from 1 on, make a list that may be. No walk.
-/
import Derived.Test.YtfjjjbohflobnabFAll
namespace Go.Proofs.Ytfjjjbohflobnab
open Go.RowKit

def upd (last : Int → Int) (d : Dd) : Int → Int := fun w => if w = d.by_ then d.no else last w
def lastAt (l : List Dd) : Int → Int := l.foldl upd (fun _ => 0)
def nAt (l : List Dd) : Nat := l.foldl (fun n d => n + d.text.size) 0

theorem lastAt_snoc (l : List Dd) (d : Dd) : lastAt (l ++ [d]) = upd (lastAt l) d := by simp [lastAt]
theorem nAt_snoc (l : List Dd) (d : Dd) : nAt (l ++ [d]) = nAt l + d.text.size := by simp [nAt]

/-- The i-th deed stands where it may. -/
def okAt (ds : List Dd) (i : Nat) : Prop := ∀ d, ds[i]? = some d → wrB d.by_ = true ∧ d.no = lastAt (ds.take i) d.by_ + 1 ∧ d.seen ≤ i

theorem take_snocD (l : List Dd) (k : Nat) (h : k < l.length) : l.take (k + 1) = l.take k ++ [l[k]] := List.take_succ_eq_append_getElem h

theorem last_bound {ds : List Dd} : ∀ (k : Nat), k ≤ ds.length → (∀ i, i < k → okAt ds i) → ∀ w, 0 ≤ lastAt (ds.take k) w ∧ lastAt (ds.take k) w ≤ k
  | 0, _, _, w => by simp [lastAt]
  | k + 1, hk, h, w => by
    have ih := last_bound k (by omega) (fun i hi => h i (by omega))
    obtain ⟨_, h2, _⟩ := h k (by omega) ds[k] (List.getElem?_eq_getElem (by omega))
    rw [take_snocD ds k (by omega), lastAt_snoc, upd]
    have i1 := ih w
    have i2 := ih ds[k].by_
    split <;> omega

theorem made_all : ∀ (suf pre : List Dd) (l : List Ch), (∀ i, i < (pre ++ suf).length → okAt (pre ++ suf) i) → (pre ++ suf).length ≤ 1000 → Made (lastAt pre) pre.length l → l.length = nAt pre → l.length ≤ 200 → (allL l pre.length suf).2.1 = 0 →
    Made (lastAt (pre ++ suf)) (pre ++ suf).length (allL l pre.length suf).1 ∧ (allL l pre.length suf).1.length = nAt (pre ++ suf) ∧ (allL l pre.length suf).1.length ≤ 200
  | [], pre, l, _, _, hm, hn, hl, _ => by
    rw [List.append_nil]
    exact ⟨hm, hn, hl⟩
  | d :: r, pre, l, hok, hlen, hm, hn, hl, hz => by
    have e : pre ++ d :: r = (pre ++ [d]) ++ r := by simp
    have hpl : (pre ++ [d]).length = pre.length + 1 := by simp
    rw [allL] at hz ⊢
    by_cases hc : doC l d ((pre.length : Int) + 1) = 0
    · rw [if_neg (fun h => h hc)] at hz ⊢
      obtain ⟨h1, h2, h3, h4⟩ := doC_zero hc
      obtain ⟨_, hno, _⟩ := hok pre.length (by simp) d (by simp)
      rw [List.take_left] at hno
      have hsm := doL_len (l := l) (d := d) (number := (pre.length : Int) + 1) (fun hk => (check_parts h1).2.2.2.2.2.2.2.2.2.2.2 hk)
      have hm' : Made (lastAt (pre ++ [d])) (pre.length + 1) (doL l d ((pre.length : Int) + 1)) := by
        rw [lastAt_snoc]
        by_cases hk : d.kind = 1
        · exact made_put hm h1 hk hno
        · exact made_take hm h1 hk hno (by simp at hlen; omega)
      have ih := made_all r (pre ++ [d]) (doL l d ((pre.length : Int) + 1)) (by rw [← e]; exact hok) (by rw [← e]; exact hlen) (by rw [hpl]; exact hm') (by rw [nAt_snoc, hsm, hn]) (by rw [hsm]; exact h3) (by rw [hpl]; exact hz)
      rw [hpl] at ih
      rw [e]
      exact ih
    · rw [if_pos hc] at hz
      exact absurd hz hc

theorem made_nil : Made (fun _ => 0) 0 [] := by
  refine ⟨?_, ?_, ?_, ?_, ?_, ?_, List.Pairwise.nil⟩ <;> intro x hx <;> simp at hx

/-- WHAT DEEDS MAKE IS A LIST. -/
theorem lists_made {ds : List Dd} (hok : ∀ i, i < ds.length → okAt ds i) (hl : ds.length ≤ 1000) (hz : (allL [] 0 ds).2.1 = 0) {r : Int} (hr : CheckIs (allL [] 0 ds).1 ds.length r) : r = 0 ∧ (allL [] 0 ds).1.length = nAt ds := by
  obtain ⟨h1, h2, h3⟩ := made_all ds [] [] hok hl made_nil rfl (Nat.zero_le _) hz
  exact ⟨made_check h1 h3 hr, h2⟩

theorem lists_fault : ∀ {ds : List Dd} {l : List Ch} {i : Nat}, (allL l i ds).2.1 ≠ 0 → (allL l i ds).1 = []
  | [], l, i, h => by simp [allL] at h
  | d :: r, l, i, h => by
    rw [allL] at h ⊢
    by_cases hc : doC l d ((i : Int) + 1) = 0
    · rw [if_neg (fun e => e hc)] at h ⊢
      exact lists_fault h
    · rw [if_pos hc]

theorem small_all : ∀ {ds : List Dd} {l : List Ch} {i : Nat}, Small l → (allL l i ds).1.length ≤ 200
  | [], l, i, h => h.len
  | d :: r, l, i, h => by
    rw [allL]
    by_cases hc : doC l d ((i : Int) + 1) = 0
    · rw [if_neg (fun e => e hc)]
      exact small_all (small_do h.fits hc)
    · rw [if_pos hc]
      exact Nat.zero_le _

theorem nAt_le : ∀ (l : List Dd) (n : Nat), (∀ d ∈ l, d.text.size ≤ 100) → l.foldl (fun n d => n + d.text.size) n ≤ n + l.length * 100
  | [], n, _ => by simp
  | d :: r, n, h => by
    rw [List.foldl_cons, List.length_cons]
    have h1 := nAt_le r (n + d.text.size) (fun x hx => h x (by simp [hx]))
    have h2 := h d (by simp)
    omega

end Go.Proofs.Ytfjjjbohflobnab
