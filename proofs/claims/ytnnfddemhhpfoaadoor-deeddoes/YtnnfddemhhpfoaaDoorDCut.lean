/-
  Plain mathematics of a line: cut at its first blanks, and joined again; numerals there and back. No walk.
-/
import Derived.Test.YtnnfddemhhpfoaaDoorDParse
import Derived.Lib.AtoiTie
namespace Go.Proofs.YtnnfddemhhpfoaaDoor

abbrev bl (l : List UInt8) : ByteArray := ⟨l.toArray⟩

theorem bl_data (s : ByteArray) : bl s.data.toList = s := by cases s; simp
theorem data_bl (l : List UInt8) : (bl l).data.toList = l := by simp
theorem bl_inj {a b : List UInt8} (h : bl a = bl b) : a = b := by
  have := congrArg (fun s : ByteArray => s.data.toList) h
  simpa using this

/-- What stands ahead of the first blank, and behind it. -/
def cut1 : List UInt8 → Option (List UInt8 × List UInt8)
  | [] => none
  | b :: r => if b = 32 then some ([], r) else (cut1 r).map fun p => (b :: p.1, p.2)

def cutK : Nat → List UInt8 → List (List UInt8)
  | 0, s => [s]
  | k + 1, s => match cut1 s with | none => [s] | some p => p.1 :: cutK k p.2

theorem cut1_join : ∀ {s x y : List UInt8}, cut1 s = some (x, y) → s = x ++ 32 :: y
  | [], x, y, h => by cases h
  | b :: r, x, y, h => by
    rw [cut1] at h
    by_cases hb : b = 32
    · rw [if_pos hb] at h
      obtain ⟨rfl, rfl⟩ := Prod.mk.inj (Option.some.inj h)
      rw [hb]; rfl
    · rw [if_neg hb] at h
      cases hc : cut1 r with
      | none => rw [hc] at h; cases h
      | some p =>
        rw [hc] at h
        obtain ⟨rfl, rfl⟩ := Prod.mk.inj (Option.some.inj h)
        have := cut1_join (x := p.1) (y := p.2) hc
        rw [this]; rfl

theorem cut1_of : ∀ (x y : List UInt8), (∀ b ∈ x, b ≠ 32) → cut1 (x ++ 32 :: y) = some (x, y)
  | [], y, _ => by simp [cut1]
  | b :: x, y, h => by
    have hb : b ≠ 32 := h b (by simp)
    have := cut1_of x y (fun c hc => h c (by simp [hc]))
    rw [List.cons_append, cut1, if_neg hb, this]
    rfl

theorem cut1_free : ∀ {s x y : List UInt8}, cut1 s = some (x, y) → ∀ b ∈ x, b ≠ 32
  | [], x, y, h => by cases h
  | b :: r, x, y, h => by
    rw [cut1] at h
    by_cases hb : b = 32
    · rw [if_pos hb] at h
      obtain ⟨rfl, rfl⟩ := Prod.mk.inj (Option.some.inj h)
      simp
    · rw [if_neg hb] at h
      cases hc : cut1 r with
      | none => rw [hc] at h; cases h
      | some p =>
        rw [hc] at h
        obtain ⟨rfl, rfl⟩ := Prod.mk.inj (Option.some.inj h)
        intro c hc'
        rcases List.mem_cons.1 hc' with rfl | hm
        · exact hb
        · exact cut1_free (x := p.1) (y := p.2) hc c hm

theorem cut1_none : ∀ {s : List UInt8}, cut1 s = none → ∀ b ∈ s, b ≠ 32
  | [], _ => by simp
  | b :: r, h => by
    rw [cut1] at h
    by_cases hb : b = 32
    · rw [if_pos hb] at h; cases h
    · rw [if_neg hb] at h
      cases hc : cut1 r with
      | none =>
        intro c hc'
        rcases List.mem_cons.1 hc' with rfl | hm
        · exact hb
        · exact cut1_none hc c hm
      | some p => rw [hc] at h; cases h

theorem cut1_miss : ∀ {s : List UInt8}, (∀ b ∈ s, b ≠ 32) → cut1 s = none
  | [], _ => rfl
  | b :: r, h => by
    rw [cut1, if_neg (h b (by simp)), cut1_miss (fun c hc => h c (by simp [hc]))]
    rfl

theorem index_cut : ∀ (s : List UInt8), (cut1 s = none ∧ Lib.index s [32] = -1) ∨ (∃ x y, cut1 s = some (x, y) ∧ Lib.index s [32] = (x.length : Int))
  | [] => .inl ⟨rfl, by decide⟩
  | b :: r => by
    by_cases hb : b = 32
    · refine .inr ⟨[], r, by rw [cut1, if_pos hb], ?_⟩
      rw [hb]
      exact Lib.index_first (i := 0) (Nat.zero_le _) (by simp [Lib.occAt]) (fun _ h => absurd h (Nat.not_lt_zero _))
    · have hn : Lib.NoOcc (b :: r) [32] 1 := by
        intro j hj
        obtain rfl : j = 0 := by omega
        have : ((32 : UInt8) == b) = false := beq_eq_false_iff_ne.2 (fun e => hb e.symm)
        simp only [Lib.occAt, List.drop_zero, List.isPrefixOf, this, Bool.false_and]
      have hd := Lib.index_drop hn (by simp)
      rw [List.drop_one, List.tail_cons] at hd
      rcases index_cut r with ⟨h1, h2⟩ | ⟨x, y, h1, h2⟩
      · refine .inl ⟨by rw [cut1, if_neg hb, h1]; rfl, ?_⟩
        rw [hd, h2]; rfl
      · refine .inr ⟨b :: x, y, by rw [cut1, if_neg hb, h1]; rfl, ?_⟩
        rw [hd, h2, if_neg (by simp)]
        simp

theorem splitK_cut : ∀ (k : Nat) (s : List UInt8), Lib.splitK [32] 0 k s = cutK k s
  | 0, s => rfl
  | k + 1, s => by
    rw [Lib.splitK, cutK]
    rcases index_cut s with ⟨h1, h2⟩ | ⟨x, y, h1, h2⟩
    · rw [h1, h2]; rfl
    · have hj := cut1_join h1
      rw [h1, h2, if_neg (by simp)]
      show _ = x :: cutK k y
      have e1 : s.take ((x.length : Int).toNat + 0) = x := by rw [hj]; simp
      have e2 : s.drop ((x.length : Int).toNat + [(32 : UInt8)].length) = y := by
        rw [hj]
        simp
      rw [e1, e2, splitK_cut k y]

theorem cutK_more : ∀ (k j : Nat) (s : List UInt8), s.length ≤ k → cutK (k + j) s = cutK k s
  | 0, j, s, h => by
    have : s = [] := List.length_eq_zero_iff.1 (by omega)
    subst this
    cases j with
    | zero => rfl
    | succ j => rw [Nat.zero_add, cutK]; rfl
  | k + 1, j, s, h => by
    rw [show k + 1 + j = (k + j) + 1 by omega, cutK, cutK]
    cases hc : cut1 s with
    | none => rfl
    | some p =>
      have hj := cut1_join (x := p.1) (y := p.2) hc
      have : p.2.length ≤ k := by
        have := congrArg List.length hj
        simp at this
        omega
      simp only [cutK_more k j p.2 this]

/-- The words of a line, as bytes. -/
def wordsL (s : ByteArray) : List (List UInt8) := cutK 5 s.data.toList

theorem six_words (s : ByteArray) : sixOf s = (wordsL s).map bl := by
  have h := Lib.splitB_data spS 0 (min 6 (s.size + 1) - 1) s
  have e : cutK (min 6 (s.size + 1) - 1) s.data.toList = cutK 5 s.data.toList := by
    by_cases h5 : 5 ≤ s.size
    · rw [show min 6 (s.size + 1) - 1 = 5 by omega]
    · have := cutK_more s.size (5 - s.size) s.data.toList (by rw [size_list]; exact Nat.le_refl _)
      rw [show s.size + (5 - s.size) = 5 by omega] at this
      rw [show min 6 (s.size + 1) - 1 = s.size by omega, this]
  rw [show spS.data.toList = [32] from rfl, splitK_cut, e] at h
  have h2 : (sixOf s).map (fun x => bl x.data.toList) = (wordsL s).map bl := by
    rw [wordsL, ← h, List.map_map]; rfl
  rw [← h2]
  have h3 : (sixOf s).map (fun x => bl x.data.toList) = (sixOf s).map id := List.map_congr_left (fun x _ => bl_data x)
  rw [h3, List.map_id]

def joinL : List (List UInt8) → List UInt8
  | [] => []
  | [x] => x
  | x :: y :: r => x ++ 32 :: joinL (y :: r)

theorem cutK_ne : ∀ (k : Nat) (s : List UInt8), ∃ x r, cutK k s = x :: r
  | 0, s => ⟨s, [], rfl⟩
  | k + 1, s => by
    rw [cutK]
    cases cut1 s with
    | none => exact ⟨s, [], rfl⟩
    | some p => exact ⟨p.1, _, rfl⟩

theorem cutK_join : ∀ (k : Nat) (s : List UInt8), joinL (cutK k s) = s
  | 0, s => rfl
  | k + 1, s => by
    rw [cutK]
    cases hc : cut1 s with
    | none => rfl
    | some p =>
      obtain ⟨x, r, hx⟩ := cutK_ne k p.2
      have := cutK_join k p.2
      show joinL (p.1 :: cutK k p.2) = s
      rw [hx] at this ⊢
      rw [joinL, this, ← cut1_join (x := p.1) (y := p.2) hc]

theorem cutK_of : ∀ (l : List (List UInt8)) (y : List UInt8), (∀ x ∈ l, ∀ b ∈ x, b ≠ 32) → cutK l.length (joinL (l ++ [y])) = l ++ [y]
  | [], y, _ => rfl
  | x :: l, y, h => by
    have ih := cutK_of l y (fun z hz => h z (by simp [hz]))
    obtain ⟨z, r, hz⟩ : ∃ z r, l ++ [y] = z :: r := by
      cases l with
      | nil => exact ⟨y, [], rfl⟩
      | cons z r => exact ⟨z, r ++ [y], rfl⟩
    rw [List.cons_append, hz, joinL, List.length_cons, cutK, cut1_of x _ (h x (by simp))]
    show x :: cutK l.length (joinL (z :: r)) = _
    rw [← hz, ih]

theorem parse_words (s : ByteArray) : parseD s = ofSix ((wordsL s).map bl) := by rw [parseD, six_words]

/-! Numerals. -/

theorem digits_ok : ∀ (u : Nat), ∀ b ∈ Lib.decDigits u, 48 ≤ b.toNat ∧ b.toNat ≤ 57 := by
  intro u
  induction u using Nat.strongRecOn with
  | ind u ih =>
    intro b hb
    rw [Lib.decDigits] at hb
    split at hb
    · rename_i h
      rw [List.mem_singleton] at hb
      rw [hb, UInt8.toNat_ofNat']
      omega
    · rename_i h
      rw [List.mem_append] at hb
      rcases hb with hb | hb
      · exact ih (u / 10) (by omega) b hb
      · rw [List.mem_singleton] at hb
        rw [hb, UInt8.toNat_ofNat']
        omega

theorem itoa_ok (n : Int) : ∀ b ∈ Lib.itoa n, 45 ≤ b.toNat ∧ b.toNat ≤ 57 := by
  intro b hb
  unfold Lib.itoa at hb
  split at hb
  · rcases List.mem_cons.1 hb with rfl | hb
    · decide
    · have := digits_ok _ b hb; omega
  · have := digits_ok _ b hb; omega

theorem itoa_free (n : Int) : ∀ b ∈ Lib.itoa n, b ≠ 32 := by
  intro b hb e
  have := itoa_ok n b hb
  rw [e] at this
  have : (32 : UInt8).toNat = 32 := rfl
  omega

theorem decFrom_snoc : ∀ (l : List UInt8) (acc m d : Nat) (b : UInt8), Lib.decFrom acc l = some m → Lib.digitVal b = some d → Lib.decFrom acc (l ++ [b]) = some (m * 10 + d)
  | [], acc, m, d, b, h, hb => by
    cases h
    simp [Lib.decFrom, hb]
  | c :: l, acc, m, d, b, h, hb => by
    rw [Lib.decFrom] at h
    cases hc : Lib.digitVal c with
    | none => rw [hc] at h; cases h
    | some e =>
      rw [hc] at h
      have := decFrom_snoc l _ m d b h hb
      rw [List.cons_append, Lib.decFrom, hc]
      exact this

theorem digitVal_of (k : Nat) (h : k < 10) : Lib.digitVal (UInt8.ofNat (48 + k)) = some k := by
  have e : (UInt8.ofNat (48 + k)).toNat = 48 + k := by rw [UInt8.toNat_ofNat']; omega
  rw [Lib.digitVal, e, if_pos (by omega)]
  congr 1
  omega

theorem decFrom_digits : ∀ (u : Nat), Lib.decFrom 0 (Lib.decDigits u) = some u := by
  intro u
  induction u using Nat.strongRecOn with
  | ind u ih =>
    rw [Lib.decDigits]
    split
    · rename_i h
      have := decFrom_snoc [] 0 0 u _ rfl (digitVal_of u h)
      simpa using this
    · rename_i h
      have := decFrom_snoc _ 0 _ (u % 10) _ (ih (u / 10) (by omega)) (digitVal_of (u % 10) (by omega))
      rw [this]
      congr 1
      omega

theorem digits_ne (u : Nat) : Lib.decDigits u ≠ [] := by
  rw [Lib.decDigits]
  split <;> simp

theorem atoi_digits (u : Nat) : Lib.atoi (Lib.decDigits u) = some (u : Int) := by
  cases hd : Lib.decDigits u with
  | nil => exact absurd hd (digits_ne u)
  | cons b r =>
    have hb := digits_ok u b (by rw [hd]; simp)
    have h45 : (b == 45) = false := beq_eq_false_iff_ne.2 (fun e => by rw [e] at hb; exact absurd hb.1 (by decide))
    have h43 : (b == 43) = false := beq_eq_false_iff_ne.2 (fun e => by rw [e] at hb; exact absurd hb.1 (by decide))
    have := decFrom_digits u
    rw [hd] at this
    simp [Lib.atoi, h45, h43, Lib.decNat, this]

/-- A small number is read as it was told. -/
theorem num_back (n : Int) (h0 : 0 ≤ n) (h1 : n ≤ 1000) : num1 (strI n) = some n := by
  have hi : inI n := by unfold inI; omega
  have hl : (Lib.itoa n).length ≤ 18 := by
    rw [Lib.itoa, if_neg (by omega), Lib.decDigits_length]
    have := Lib.nDigits_unique
    rcases (show n.toNat < 10 ∨ (10 ≤ n.toNat ∧ n.toNat < 100) ∨ (100 ≤ n.toNat ∧ n.toNat < 1000) ∨ n.toNat = 1000 by omega) with h | h | h | h
    · rw [Lib.nDigits_small h]; omega
    · rw [this 1 _ h.1 h.2]; omega
    · rw [this 2 _ h.1 h.2]; omega
    · rw [this 3 _ (by omega) (by omega)]; omega
  have ha : Lib.atoiAll (strI n).data.toList = .ok n := by
    rw [show (strI n).data.toList = Lib.itoa n by simp [strI], Lib.atoiAll_short _ hl, Lib.itoa, if_neg (by omega), atoi_digits]
    show Lib.NumEnd.ok _ = _
    rw [Int.toNat_of_nonneg h0]
  have hn : numAll (strI n) = some n := by rw [numAll, ha]
  simp [num1, hn]

end Go.Proofs.YtnnfddemhhpfoaaDoor
