/-
  Plain mathematics of a line: cut at its first blanks, and joined again; numerals there and back. No walk.
-/
import Derived.Test.YtcbnnfeelhlapadGreatDoorDParse
import Derived.Lib.AtoiTie
import Derived.Test.YtcbnnfeelhlapadGreatDoorRAll
import Derived.BigRegion
import Derived.RegionTactic
import Derived.ChangeAlike
import Derived.Lib.Join
import Derived.Lib.TrimByte
import Derived.Lib.IndexMore
import Derived.Lib.IndexBytes
namespace Go.Proofs.YtcbnnfeelhlapadGreatDoor
abbrev bl (l : List UInt8) : ByteArray := ⟨l.toArray⟩
theorem bl_data (s : ByteArray) : bl s.data.toList = s := by cases s; simp
theorem data_bl (l : List UInt8) : (bl l).data.toList = l := by simp
theorem bl_inj {a b : List UInt8} (h : bl a = bl b) : a = b := by
 have := congrArg (fun s : ByteArray => s.data.toList) h
 simpa using this
def cut1 : List UInt8 → Option (List UInt8 × List UInt8)
 | [] => none
 | b :: r => if b = 32 then some ([], r) else (cut1 r).map fun p => (b :: p.1, p.2)
def cutK : Nat → List UInt8 → List (List UInt8)
 | 0, s => [s]
 | k + 1, s => match cut1 s with | none => [s] | some p => p.1 :: cutK k p.2
theorem cut1_join : ∀ {s x y : List UInt8}, cut1 s = some (x, y) → s = x ++ 32 :: y
 | [], x, y, h => by cases h
 | b :: r, x, y, h => by
  rw [cut1] at h
  by_cases hb : b = 32
  ·rw [if_pos hb] at h
   obtain ⟨rfl, rfl⟩ := Prod.mk.inj (Option.some.inj h)
   rw [hb]; rfl
  ·rw [if_neg hb] at h
   cases hc : cut1 r with
   | none => rw [hc] at h; cases h
   | some p =>
    rw [hc] at h
    obtain ⟨rfl, rfl⟩ := Prod.mk.inj (Option.some.inj h)
    have := cut1_join (x := p.1) (y := p.2) hc
    rw [this]; rfl
theorem cut1_none : ∀ {s : List UInt8}, cut1 s = none → ∀ b ∈ s, b ≠ 32
 | [], _ => by simp
 | b :: r, h => by
  rw [cut1] at h
  by_cases hb : b = 32
  ·rw [if_pos hb] at h; cases h
  ·rw [if_neg hb] at h
   cases hc : cut1 r with
   | none =>
    intro c hc'
    rcases List.mem_cons.1 hc' with rfl | hm
    ·exact hb
    ·exact cut1_none hc c hm
   | some p => rw [hc] at h; cases h
theorem cut1_miss : ∀ {s : List UInt8}, (∀ b ∈ s, b ≠ 32) → cut1 s = none
 | [], _ => rfl
 | b :: r, h => by
  rw [cut1, if_neg (h b (by simp)), cut1_miss (fun c hc => h c (by simp [hc]))]
  rfl
theorem index_cut : ∀ (s : List UInt8), (cut1 s = none ∧ Lib.index s [32] = -1) ∨ (∃ x y, cut1 s = some (x, y) ∧ Lib.index s [32] = (x.length : Int))
 | [] => .inl ⟨rfl, by decide⟩
 | b :: r => by
  by_cases hb : b = 32
  ·refine .inr ⟨[], r, by rw [cut1, if_pos hb], ?_⟩
   rw [hb]
   exact Lib.index_first (i := 0) (Nat.zero_le _) (by simp [Lib.occAt]) (fun _ h => absurd h (Nat.not_lt_zero _))
  ·have hn : Lib.NoOcc (b :: r) [32] 1 := by
    intro j hj
    obtain rfl : j = 0 := by omega
    have : ((32 : UInt8) == b) = false := beq_eq_false_iff_ne.2 (fun e => hb e.symm)
    simp only [Lib.occAt, List.drop_zero, List.isPrefixOf, this, Bool.false_and]
   have hd := Lib.index_drop hn (by simp)
   rw [List.drop_one, List.tail_cons] at hd
   rcases index_cut r with ⟨h1, h2⟩ | ⟨x, y, h1, h2⟩
   ·refine .inl ⟨by rw [cut1, if_neg hb, h1]; rfl, ?_⟩
    rw [hd, h2]; rfl
   ·refine .inr ⟨b :: x, y, by rw [cut1, if_neg hb, h1]; rfl, ?_⟩
    rw [hd, h2, if_neg (by simp)]
    simp
theorem splitK_cut : ∀ (k : Nat) (s : List UInt8), Lib.splitK [32] 0 k s = cutK k s
 | 0, s => rfl
 | k + 1, s => by
  rw [Lib.splitK, cutK]
  rcases index_cut s with ⟨h1, h2⟩ | ⟨x, y, h1, h2⟩
  ·rw [h1, h2]; rfl
  ·have hj := cut1_join h1
   rw [h1, h2, if_neg (by simp)]
   show _ = x :: cutK k y
   have e1 : s.take ((x.length : Int).toNat + 0) = x := by rw [hj]; simp
   have e2 : s.drop ((x.length : Int).toNat + [(32 : UInt8)].length) = y := by
    rw [hj]
    simp
   rw [e1, e2, splitK_cut k y]
theorem cutK_more : ∀ (k j : Nat) (s : List UInt8), s.length ≤ k → cutK (k + j) s = cutK k s
 | 0, j, s, h => by
  have : s = [] := List.length_eq_zero_iff.1 (by omega)
  subst this
  cases j with
  | zero => rfl
  | succ j => rw [Nat.zero_add, cutK]; rfl
 | k + 1, j, s, h => by
  rw [show k + 1 + j = (k + j) + 1 by omega, cutK, cutK]
  cases hc : cut1 s with
  | none => rfl
  | some p =>
   have hj := cut1_join (x := p.1) (y := p.2) hc
   have : p.2.length ≤ k := by
    have := congrArg List.length hj
    simp at this
    omega
   simp only [cutK_more k j p.2 this]
def joinL : List (List UInt8) → List UInt8
 | [] => []
 | [x] => x
 | x :: y :: r => x ++ 32 :: joinL (y :: r)
theorem cutK_ne : ∀ (k : Nat) (s : List UInt8), ∃ x r, cutK k s = x :: r
 | 0, s => ⟨s, [], rfl⟩
 | k + 1, s => by
  rw [cutK]
  cases cut1 s with
  | none => exact ⟨s, [], rfl⟩
  | some p => exact ⟨p.1, _, rfl⟩
theorem cutK_join : ∀ (k : Nat) (s : List UInt8), joinL (cutK k s) = s
 | 0, s => rfl
 | k + 1, s => by
  rw [cutK]
  cases hc : cut1 s with
  | none => rfl
  | some p =>
   obtain ⟨x, r, hx⟩ := cutK_ne k p.2
   have := cutK_join k p.2
   show joinL (p.1 :: cutK k p.2) = s
   rw [hx] at this ⊢
   rw [joinL, this, ← cut1_join (x := p.1) (y := p.2) hc]
theorem digits_ok : ∀ (u : Nat), ∀ b ∈ Lib.decDigits u, 48 ≤ b.toNat ∧ b.toNat ≤ 57 := by
 intro u
 induction u using Nat.strongRecOn with
 | ind u ih =>
  intro b hb
  rw [Lib.decDigits] at hb
  split at hb
  ·rename_i h
   rw [List.mem_singleton] at hb
   rw [hb, UInt8.toNat_ofNat']
   omega
  ·rename_i h
   rw [List.mem_append] at hb
   rcases hb with hb | hb
   ·exact ih (u / 10) (by omega) b hb
   ·rw [List.mem_singleton] at hb
    rw [hb, UInt8.toNat_ofNat']
    omega
theorem decFrom_snoc : ∀ (l : List UInt8) (acc m d : Nat) (b : UInt8), Lib.decFrom acc l = some m → Lib.digitVal b = some d → Lib.decFrom acc (l ++ [b]) = some (m * 10 + d)
 | [], acc, m, d, b, h, hb => by
  cases h
  simp [Lib.decFrom, hb]
 | c :: l, acc, m, d, b, h, hb => by
  rw [Lib.decFrom] at h
  cases hc : Lib.digitVal c with
  | none => rw [hc] at h; cases h
  | some e =>
   rw [hc] at h
   have := decFrom_snoc l _ m d b h hb
   rw [List.cons_append, Lib.decFrom, hc]
   exact this
theorem digitVal_of (k : Nat) (h : k < 10) : Lib.digitVal (UInt8.ofNat (48 + k)) = some k := by
 have e : (UInt8.ofNat (48 + k)).toNat = 48 + k := by rw [UInt8.toNat_ofNat']; omega
 rw [Lib.digitVal, e, if_pos (by omega)]
 congr 1
 omega
theorem decFrom_digits : ∀ (u : Nat), Lib.decFrom 0 (Lib.decDigits u) = some u := by
 intro u
 induction u using Nat.strongRecOn with
 | ind u ih =>
  rw [Lib.decDigits]
  split
  ·rename_i h
   have := decFrom_snoc [] 0 0 u _ rfl (digitVal_of u h)
   simpa using this
  ·rename_i h
   have := decFrom_snoc _ 0 _ (u % 10) _ (ih (u / 10) (by omega)) (digitVal_of (u % 10) (by omega))
   rw [this]
   congr 1
   omega
theorem digits_ne (u : Nat) : Lib.decDigits u ≠ [] := by
 rw [Lib.decDigits]
 split <;> simp
theorem atoi_digits (u : Nat) : Lib.atoi (Lib.decDigits u) = some (u : Int) := by
 cases hd : Lib.decDigits u with
 | nil => exact absurd hd (digits_ne u)
 | cons b r =>
  have hb := digits_ok u b (by rw [hd]; simp)
  have h45 : (b == 45) = false := beq_eq_false_iff_ne.2 (fun e => by rw [e] at hb; exact absurd hb.1 (by decide))
  have h43 : (b == 43) = false := beq_eq_false_iff_ne.2 (fun e => by rw [e] at hb; exact absurd hb.1 (by decide))
  have := decFrom_digits u
  rw [hd] at this
  simp [Lib.atoi, h45, h43, Lib.decNat, this]
theorem num_back (n : Int) (h0 : 0 ≤ n) (h1 : n ≤ 1000) : num1 (strI n) = some n := by
 have hi : inI n := by unfold inI; omega
 have hl : (Lib.itoa n).length ≤ 18 := by
  rw [Lib.itoa, if_neg (by omega), Lib.decDigits_length]
  have := Lib.nDigits_unique
  rcases (show n.toNat < 10 ∨ (10 ≤ n.toNat ∧ n.toNat < 100) ∨ (100 ≤ n.toNat ∧ n.toNat < 1000) ∨ n.toNat = 1000 by omega) with h | h | h | h
  ·rw [Lib.nDigits_small h]; omega
  ·rw [this 1 _ h.1 h.2]; omega
  ·rw [this 2 _ h.1 h.2]; omega
  ·rw [this 3 _ (by omega) (by omega)]; omega
 have ha : Lib.atoiAll (strI n).data.toList = .ok n := by
  rw [show (strI n).data.toList = Lib.itoa n by simp [strI], Lib.atoiAll_short _ hl, Lib.itoa, if_neg (by omega), atoi_digits]
  show Lib.NumEnd.ok _ = _
  rw [Int.toNat_of_nonneg h0]
 have hn : numAll (strI n) = some n := by rw [numAll, ha]
 simp [num1, hn]
end Go.Proofs.YtcbnnfeelhlapadGreatDoor

/-
  Plain mathematics of a deed's line: it is read as the deed; a line that is a deed is its line; what its bytes are. No walk.
-/
namespace Go.Proofs.YtcbnnfeelhlapadGreatDoor
theorem data_app (a b : ByteArray) : (a ++ b).data.toList = a.data.toList ++ b.data.toList := by simp
theorem strI_list (n : Int) : (strI n).data.toList = Lib.itoa n := by simp [strI]
theorem told4_list (a b c d : Int) : (toldB [a, b, c, d]).data.toList = 32 :: (Lib.itoa a ++ 32 :: (Lib.itoa b ++ 32 :: (Lib.itoa c ++ 32 :: Lib.itoa d))) := by
 simp only [toldB, List.foldl_cons, List.foldl_nil, data_app, strI_list]
 simp
theorem told5_list (a b c d e : Int) : (toldB [a, b, c, d, e]).data.toList = 32 :: (Lib.itoa a ++ 32 :: (Lib.itoa b ++ 32 :: (Lib.itoa c ++ 32 :: (Lib.itoa d ++ 32 :: Lib.itoa e)))) := by
 simp only [toldB, List.foldl_cons, List.foldl_nil, data_app, strI_list]
 simp
def putL (d : Dd) : List (List UInt8) := [[112, 117, 116], Lib.itoa d.by_, Lib.itoa d.no, Lib.itoa d.seen, Lib.itoa d.at_, d.text.data.toList]
def takeLD (d : Dd) : List (List UInt8) := [[116, 97, 107, 101], Lib.itoa d.by_, Lib.itoa d.no, Lib.itoa d.seen, Lib.itoa d.at_, Lib.itoa d.many]
theorem line_put_list {d : Dd} (h : d.kind = 1) : (lineB d).data.toList = joinL (putL d) := by
 rw [lineB, if_pos h]
 simp only [data_app, told4_list, putL, joinL]
 simp
theorem line_take_list {d : Dd} (h : d.kind ≠ 1) : (lineB d).data.toList = joinL (takeLD d) := by
 rw [lineB, if_neg h]
 simp only [data_app, told5_list, takeLD, joinL]
theorem line_size_le {d : Dd} (h : checkC d = 0) : (lineS d).size ≤ 200 := by
 have hI := inI_of h
 have hl : lineS d = lineB d := by rw [lineS, if_pos h]
 rw [hl, lineB]
 by_cases hk : d.kind = 1
 ·rw [if_pos hk, ByteArray.size_append, ByteArray.size_append, ByteArray.size_append]
  have h1 := told_size [d.by_, d.no, d.seen, d.at_] (four_in hI)
  have h2 := (printed_size (put_ok h hk).2).2
  have e1 : (⟨#[112, 117, 116]⟩ : ByteArray).size = 3 := rfl
  have e2 : (⟨#[32]⟩ : ByteArray).size = 1 := rfl
  simp only [List.length_cons, List.length_nil] at h1
  omega
 ·rw [if_neg hk, ByteArray.size_append]
  obtain ⟨_, _, m0, m1⟩ := take_ok h hk
  have h1 := told_size [d.by_, d.no, d.seen, d.at_, d.many] (five_in hI (by unfold inI; omega))
  have e1 : (⟨#[116, 97, 107, 101]⟩ : ByteArray).size = 4 := rfl
  simp only [List.length_cons, List.length_nil] at h1
  omega
theorem lineS_size (d : Dd) : (lineS d).size ≤ 200 := by
 by_cases h : checkC d = 0
 ·exact line_size_le h
 ·rw [lineS, if_neg h]
  exact Nat.zero_le _
end Go.Proofs.YtcbnnfeelhlapadGreatDoor

/-
  The contracts of the document's LineOf, word, number and DeedOf: they answer as Line and Parse do.
-/
namespace Go.Proofs.YtcbnnfeelhlapadGreatDoor
open Go.RowKit
end Go.Proofs.YtcbnnfeelhlapadGreatDoor

/-
  The contracts of the document's word and number.
-/
namespace Go.Proofs.YtcbnnfeelhlapadGreatDoor
open Go.RowKit
end Go.Proofs.YtcbnnfeelhlapadGreatDoor

/-
  What lines tell, as a function of a town and a line; lines one behind the other. No walk.
-/
namespace Go.Proofs.YtcbnnfeelhlapadGreatDoor
open Go Go.RowKit
def wordsFrom : List UInt8 → List UInt8 → List (List UInt8)
 | acc, [] => if acc = [] then [] else [acc]
 | acc, b :: r => if b = 32 then (if acc = [] then wordsFrom [] r else acc :: wordsFrom [] r) else wordsFrom (acc ++ [b]) r
def wordsOf (s : List UInt8) : List (List UInt8) := wordsFrom [] s
def putOf (s : List UInt8) : Option (Int × Int × List UInt8) := match cut1 s with
 | none => none
 | some (a, rest) => if a = [112, 117, 116] then (match cut1 rest with
  | none => none
  | some (b, more) => match cut1 more with
   | none => none
   | some (c, text) => match num1 (bl b) with
    | none => none
    | some w => match num1 (bl c) with
     | none => none
     | some at_ => some (w, at_, text)) else none
def okW : List UInt8 := [111, 107, 10]
def noW (c : Int) : List UInt8 := [110, 111, 32] ++ (Lib.itoa c ++ [10])
def whatW : List UInt8 := [119, 104, 97, 116, 10]
def endW : List UInt8 := [101, 110, 100, 10]
def bytesW (l : List Int) : List UInt8 := (strOfNums l).data.toList
def textW (l : List Int) : List UInt8 := [116, 101, 120, 116, 32] ++ (bytesW l ++ [10])
def lineW (d : Dd) : List UInt8 := (lineS d).data.toList ++ [10]
def linesW : List Dd → List UInt8
 | [] => []
 | d :: ds => lineW d ++ linesW ds
def numsW : List Int → List UInt8
 | [] => []
 | z :: zs => 32 :: (Lib.itoa z ++ numsW zs)
def byW (zs : List Int) : List UInt8 := [98, 121] ++ (numsW zs ++ [10])
def leastWd (a b : Int) : List UInt8 := [108, 101, 97, 115, 116, 32] ++ (Lib.itoa a ++ ([32] ++ (Lib.itoa b ++ [10])))
theorem linesW_snoc (d : Dd) : ∀ ds : List Dd, linesW (ds ++ [d]) = linesW ds ++ lineW d
 | [] => by simp [linesW]
 | e :: ds => by rw [List.cons_append, linesW, linesW_snoc d ds, linesW, List.append_assoc]
def stepK (t : Twn) (x : Tst) : List UInt8 × Twn := (if (tDo t x).1 = 0 then okW else noW (tDo t x).1, (tDo t x).2)
def seenW (t : Twn) (n : Int) : List UInt8 := match t.ws n with
 | some r => textW (vw r.list r.seen r.me)
 | none => noW 5
def openW (t : Twn) (n : Int) : List UInt8 := match t.ws n with
 | some r => linesW r.opens ++ endW
 | none => noW 5
def thenW (t : Twn) (n : Int) : List UInt8 := if inS t.b n = true then textW ((thS t.b n).map (·.c)) ++ byW ((thS t.b n).map (·.by_)) else noW 5
def cmdK (t : Twn) (k : List UInt8) (n : List Int) : List UInt8 × Twn :=
 if k = [116, 97, 107, 101] ∧ n.length = 3 then stepK t ⟨3, n.getD 0 0, n.getD 1 0, n.getD 2 0, ⟨#[]⟩⟩
 else if k = [106, 111, 105, 110] ∧ n.length = 1 then stepK t ⟨1, n.getD 0 0, 0, 0, ⟨#[]⟩⟩
 else if k = [115, 101, 110, 100] ∧ n.length = 1 then stepK t ⟨4, n.getD 0 0, 0, 0, ⟨#[]⟩⟩
 else if k = [104, 101, 97, 114] ∧ n.length = 1 then stepK t ⟨5, n.getD 0 0, 0, 0, ⟨#[]⟩⟩
 else if k = [99, 108, 101, 97, 114] ∧ n.length = 1 then stepK t ⟨6, n.getD 0 0, 0, 0, ⟨#[]⟩⟩
 else if k = [108, 101, 97, 118, 101] ∧ n.length = 1 then stepK t ⟨7, n.getD 0 0, 0, 0, ⟨#[]⟩⟩
 else if k = [116, 101, 120, 116] ∧ n.length = 1 then (seenW t (n.getD 0 0), t)
 else if k = [116, 101, 120, 116] ∧ n.length = 0 then (textW (textL t.b.chars), t)
 else if k = [111, 112, 101, 110] ∧ n.length = 1 then (openW t (n.getD 0 0), t)
 else if k = [108, 111, 103] ∧ n.length = 0 then (linesW t.b.ds ++ endW, t)
 else if k = [116, 104, 101, 110] ∧ n.length = 1 then (thenW t (n.getD 0 0), t)
 else if k = [115, 101, 116, 116, 108, 101] ∧ n.length = 0 then (okW, settleT t)
 else if k = [108, 101, 97, 115, 116] ∧ n.length = 0 then (leastWd (leastL t.b) t.b.len, t)
 else (whatW, t)
def wordsK (t : Twn) : List (List UInt8) → List UInt8 × Twn
 | [] => ([], t)
 | k :: r => match readL (r.map bl) with
  | none => (whatW, t)
  | some n => cmdK t k n
def lineK (t : Twn) (s : List UInt8) : List UInt8 × Twn := match putOf s with
 | some (w, at_, text) => stepK t ⟨2, w, at_, 0, bl text⟩
 | none => wordsK t (wordsOf s)
def doK : Twn → List (List UInt8) → List UInt8 × Twn
 | t, [] => ([], t)
 | t, s :: r => ((lineK t s).1 ++ (doK (lineK t s).2 r).1, (doK (lineK t s).2 r).2)
theorem doK_app : ∀ (a b : List (List UInt8)) (t : Twn), doK t (a ++ b) = ((doK t a).1 ++ (doK (doK t a).2 b).1, (doK (doK t a).2 b).2)
 | [], _, _ => rfl
 | s :: a, b, t => by
  show ((lineK t s).1 ++ (doK (lineK t s).2 (a ++ b)).1, (doK (lineK t s).2 (a ++ b)).2) = _
  rw [doK_app a b]
  simp [doK, List.append_assoc]
theorem doK_snoc (a : List (List UInt8)) (s : List UInt8) (t : Twn) : doK t (a ++ [s]) = ((doK t a).1 ++ (lineK (doK t a).2 s).1, (lineK (doK t a).2 s).2) := by
 rw [doK_app]
 simp [doK]
def hasNl (s : List UInt8) : Bool := s.any (· == 10)
def faultFrom : Nat → List (List UInt8) → Int × Int
 | _, [] => (0, 0)
 | i, s :: r => if hasNl s = true then (11, (i : Int)) else faultFrom (i + 1) r
def faultK (l : List (List UInt8)) : Int × Int := if 150 < l.length then (10, -1) else faultFrom 0 l
def Sm (c : Int) : Prop := 0 ≤ c ∧ c ≤ 20
theorem sm_check (d : Dd) : Sm (checkC d) := by
 unfold checkC putC takeC Sm
 repeat' split
 all_goals omega
theorem sm_may (l : List Ch) (d : Dd) : Sm (mayC l d) := by
 have h := sm_check d
 unfold mayC
 unfold Sm at *
 repeat' split
 all_goals omega
theorem sm_do (l : List Ch) (d : Dd) (n : Int) : Sm (doC l d n) := by
 have h := sm_may l d
 unfold doC
 unfold Sm at *
 repeat' split
 all_goals omega
theorem sm_comes (b : Bk) (d : Dd) : Sm (comesC b d) := by
 have h := sm_do b.chars d (b.len + 1)
 unfold comesC
 unfold Sm at *
 repeat' split
 all_goals omega
theorem sm_says (b : Bk) (w seen : Int) : Sm (saysC b w seen) := by
 unfold saysC Sm
 repeat' split
 all_goals omega
theorem sm_join (b : Bk) (w : Int) : Sm (joinC b w) := by
 unfold joinC Sm
 repeat' split
 all_goals omega
theorem sm_hear (w : Wr) (d : Dd) : Sm (hearC w d) := by
 have h := sm_do w.list d ((w.seen : Int) + 1)
 unfold hearC
 unfold Sm at *
 repeat' split
 all_goals omega
theorem sm_five : Sm 5 := by unfold Sm; omega
theorem sm_zero : Sm 0 := by unfold Sm; omega
theorem tDo_code (t : Twn) (x : Tst) : Sm (tDo t x).1 := by
 unfold tDo
 split
 ·show Sm 2
  unfold Sm; omega
 ·split
  ·exact sm_join _ _
  ·cases t.ws x.w with
   | none => exact sm_five
   | some r =>
    show Sm (if x.kind = 2 ∨ x.kind = 3 then ownT t x.w r x else if x.kind = 4 then sendT t x.w r else if x.kind = 5 then hearT t x.w r
     else if x.kind = 6 then (0, ⟨t.b, setF t.ws x.w (some (clearW r (leastFor t.b r.seen)))⟩) else (0, dropT t x.w)).1
    split
    ·exact sm_do _ _ _
    ·split
     ·unfold sendT
      cases r.opens[r.sent]? with
      | none => exact sm_five
      | some d => exact sm_comes _ _
     ·split
      ·unfold hearT
       cases t.b.ds[r.seen]? with
       | none => exact sm_five
       | some d =>
        show Sm (if hearC r d = 0 then (saysC t.b x.w (hearW r d).least, (⟨saysB t.b x.w (hearW r d).least, setF t.ws x.w (some (hearW r d))⟩ : Twn)) else (hearC r d, dropT t x.w)).1
        split
        ·exact sm_says _ _ _
        ·exact sm_hear _ _
      ·split
       ·exact sm_zero
       ·exact sm_zero
end Go.Proofs.YtcbnnfeelhlapadGreatDoor

/-
  Lists of strings in memory; the reference's Words and LinesFault.
-/
namespace Go.Proofs.YtcbnnfeelhlapadGreatDoor
open Go Go.RowKit
def StrLst (w : World) (v : Value) (ws : List ByteArray) : Prop :=
 ∃ (a : Option Addr) (len cap : Nat), v = .slice a len cap ∧ ws.length = len ∧ len ≤ cap ∧ (len = 0 ∨ ∃ b off, a = some ⟨b, off, none⟩ ∧ Strs w b off ws)
theorem StrLst.below {w w' : World} {v : Value} {ws : List ByteArray} (h : StrLst w v ws) (hb : Below w.heap.size w w') : StrLst w' v ws := by
 obtain ⟨a, len, cap, rfl, h1, h2, h3⟩ := h
 refine ⟨a, len, cap, rfl, h1, h2, ?_⟩
 rcases h3 with h3 | ⟨b, off, rfl, hr⟩
 ·exact .inl h3
 ·exact .inr ⟨b, off, rfl, hr.below hb⟩
theorem StrLst.len {w : World} {v : Value} {ws : List ByteArray} (h : StrLst w v ws) : ∃ a cap, v = .slice a ws.length cap ∧ ws.length ≤ cap := by
 obtain ⟨a, len, cap, rfl, rfl, h2, _⟩ := h
 exact ⟨a, cap, rfl, h2⟩
theorem StrLst.row {w : World} {a : Option Addr} {cap n : Nat} {ws : List ByteArray} (h : StrLst w (.slice a n cap) ws) (hp : 0 < n) : ∃ b off, a = some ⟨b, off, none⟩ ∧ Strs w b off ws := by
 obtain ⟨a', len, cap', he, h1, h2, h3⟩ := h
 simp only [Value.slice.injEq] at he
 obtain ⟨rfl, rfl, rfl⟩ := he
 rcases h3 with h3 | h3
 ·omega
 ·exact h3
def cellsS (ws : List ByteArray) : List Value := ws.map Value.string
def OwnS (w : World) (base : Nat) (v : Value) (ws : List ByteArray) : Prop := w.ownsRow base 9 1 v ws.length (cellsS ws)
theorem ownS_nil (w : World) (base : Nat) : OwnS w base (.slice none 0 0) [] := World.ownsRow_nil _ _ _ _
theorem OwnS.lst {w : World} {base : Nat} {v : Value} {ws : List ByteArray} (h : OwnS w base v ws) : StrLst w v ws := by
 have h' := h
 obtain ⟨_, h2⟩ := h
 rcases h2 with ⟨rfl, hn⟩ | ⟨g, cap, cur, rfl, hb, hg, hnc, _⟩
 ·exact ⟨none, 0, 0, rfl, hn, Nat.le_refl _, .inl rfl⟩
 ·refine ⟨_, _, _, rfl, rfl, hnc, .inr ⟨g, 0, rfl, (Array.getElem?_eq_some_iff.1 hg).1, fun i hi => ?_⟩⟩
  rw [Nat.zero_add, World.ownsRow.cellAt h' i (by omega)]
  unfold cellsS
  rw [List.getElem?_map, List.getElem?_eq_getElem hi]
  rfl
theorem OwnS.below {w w' : World} {base : Nat} {v : Value} {ws : List ByteArray} (h : OwnS w base v ws) (hb : Below w.heap.size w w') : OwnS w' base v ws := owns_below h hb
theorem infoStr : (Tryz.prog.info? 9).map (fun i => (i.zero, i.size, i.bytes)) = some (some (.string ⟨#[]⟩), 1, 16) := by kernel_rfl
theorem src_newS (w : World) (s : ByteArray) : ∀ j u, ([Value.string s])[j]? = some u → (w.alloc (.cells #[.string s] 9)).cell? ((⟨w.heap.size, 0, none⟩ : Addr).add j) = some u := by
 intro j u hj
 match j, hj with
 | 0, hj => simp at hj; subst hj; simp [Addr.add, go_sem]
theorem bl_app (a b : List UInt8) : bl a ++ bl b = bl (a ++ b) := by
 have := bl_data (bl a ++ bl b)
 rw [data_app, data_bl, data_bl] at this
 exact this.symm
theorem bl_size (a : List UInt8) : (bl a).size = a.length := by
 show a.toArray.size = _
 simp
structure WoI (w : World) (v : Value) (ws : List ByteArray) (wk : World) : Prop where
 below : Below w.heap.size w wk
 own : OwnS wk w.heap.size v ws
theorem WoI.after {w wk w' : World} {v : Value} {ws : List ByteArray} (h : WoI w v ws wk) (hb : Below wk.heap.size wk w') : WoI w v ws w' := ⟨bla h.below hb, h.own.below hb⟩
theorem WoI.grown {w wr w2 : World} {v v' : Value} {ws : List ByteArray} {z : ByteArray} (h : WoI w v ws wr) (ho : w2.ownsRow w.heap.size 9 1 v' (ws.length + 1) (cellsS ws ++ [.string z])) (hg : wr.grownBy w2 v.ownBlock) : WoI w v' (ws ++ [z]) w2 := by
 refine ⟨h.below.grown hg (by have := h.below.size; omega) (fun j hj => (World.ownsRow.lt h.own j hj).1), ?_⟩
 unfold OwnS cellsS
 rw [List.map_append, List.length_append]
 exact ho
theorem bl_ne {a : List UInt8} (h : a ≠ []) : bl a ≠ ⟨#[]⟩ := fun e => h (bl_inj (b := []) e)
end Go.Proofs.YtcbnnfeelhlapadGreatDoor

/-
  A world that holds what the library asks, since a world of some size.
-/
namespace Go.Proofs.YtcbnnfeelhlapadGreatDoor
open Go Go.RowKit
def Rdy (base : Nat) (w : World) : Prop := ∃ w0, w0.heap.size = base ∧ Ready w0 ∧ Below w0.heap.size w0 w
theorem Rdy.ready {base : Nat} {w : World} (h : Rdy base w) : Ready w := by
 obtain ⟨w0, _, h1, h2⟩ := h
 exact h1.below h2
theorem Rdy.kept {base : Nat} {w w' : World} {S : Nat → Prop} (h : Rdy base w) (hk : Kept S w w') (hS : ∀ k, S k → base ≤ k) : Rdy base w' := by
 obtain ⟨w0, rfl, h1, h2⟩ := h
 exact ⟨w0, rfl, h1, h2.trans (hk.below hS h2.size)⟩
theorem Rdy.after {base : Nat} {w w' : World} (h : Rdy base w) (hb : Below w.heap.size w w') : Rdy base w' := h.kept (S := fun _ => False) (.of_below hb) (fun _ e => e.elim)
end Go.Proofs.YtcbnnfeelhlapadGreatDoor

/-
  What the desk's own code makes of a line's words: cut one by one, at most five; a put by its four words; joined words. No walk.
-/
namespace Go.Proofs.YtcbnnfeelhlapadGreatDoor
open Go Go.RowKit
theorem words_blank (r : List UInt8) : wordsOf (32 :: r) = wordsOf r := by
 unfold wordsOf
 rw [wordsFrom, if_pos rfl, if_pos rfl]
theorem words_trim : ∀ s : List UInt8, wordsOf (Lib.trimLeftB s 32) = wordsOf s
 | [] => rfl
 | b :: r => by
  unfold Lib.trimLeftB
  rw [List.dropWhile_cons]
  by_cases hb : b = 32
  ·subst hb
   rw [if_pos (by rfl), words_blank]
   exact words_trim r
  ·rw [if_neg (by simpa using hb)]
theorem trim_head : ∀ s : List UInt8, Lib.trimLeftB s 32 = [] ∨ ∃ b r, Lib.trimLeftB s 32 = b :: r ∧ b ≠ 32
 | [] => .inl rfl
 | b :: r => by
  unfold Lib.trimLeftB
  rw [List.dropWhile_cons]
  by_cases hb : b = 32
  ·rw [if_pos (by simpa using hb)]
   exact trim_head r
  ·rw [if_neg (by simpa using hb)]
   exact .inr ⟨b, r, rfl, hb⟩
theorem trim_len : ∀ s : List UInt8, (Lib.trimLeftB s 32).length ≤ s.length
 | [] => Nat.le_refl _
 | b :: r => by
  unfold Lib.trimLeftB
  rw [List.dropWhile_cons]
  have := trim_len r
  unfold Lib.trimLeftB at this
  split
  ·simp; omega
  ·exact Nat.le_refl _
theorem wordsFrom_none : ∀ (s acc : List UInt8), cut1 s = none → acc ++ s ≠ [] → wordsFrom acc s = [acc ++ s]
 | [], acc, _, h => by
  rw [List.append_nil] at h ⊢
  rw [wordsFrom, if_neg h]
 | b :: r, acc, hc, h => by
  have hb : b ≠ 32 := cut1_none hc b (by simp)
  have hc' : cut1 r = none := cut1_miss (fun c hc2 => cut1_none hc c (by simp [hc2]))
  rw [wordsFrom, if_neg hb, wordsFrom_none r (acc ++ [b]) hc' (by simp)]
  simp
theorem wordsFrom_some : ∀ (s acc x y : List UInt8), cut1 s = some (x, y) → acc ++ x ≠ [] → wordsFrom acc s = (acc ++ x) :: wordsOf y
 | [], _, _, _, h, _ => by cases h
 | b :: r, acc, x, y, hc, h => by
  rw [cut1] at hc
  by_cases hb : b = 32
  ·rw [if_pos hb] at hc
   obtain ⟨rfl, rfl⟩ := Prod.mk.inj (Option.some.inj hc)
   rw [List.append_nil] at h ⊢
   rw [wordsFrom, if_pos hb, if_neg h]
   rfl
  ·rw [if_neg hb] at hc
   cases hr : cut1 r with
   | none => rw [hr] at hc; cases hc
   | some p =>
    rw [hr] at hc
    obtain ⟨rfl, rfl⟩ := Prod.mk.inj (Option.some.inj hc)
    rw [wordsFrom, if_neg hb, wordsFrom_some r (acc ++ [b]) p.1 p.2 hr (by simp)]
    simp
theorem cut_blank (s : List UInt8) : Lib.cut s [32] = match cut1 s with | some p => (p.1, p.2, true) | none => (s, [], false) := by
 unfold Lib.cut
 rcases index_cut s with ⟨h1, h2⟩ | ⟨x, y, h1, h2⟩
 ·rw [h1, h2, if_neg (by decide)]
 ·have hj := cut1_join h1
  rw [h1, h2, if_pos (by omega)]
  have e1 : s.take (x.length : Int).toNat = x := by rw [hj]; simp
  have e2 : s.drop ((x.length : Int).toNat + [(32 : UInt8)].length) = y := by rw [hj]; simp
  rw [e1, e2]
structure LwI (L : List UInt8) (done : List (List UInt8)) (rest : List UInt8) : Prop where
 go : done ++ wordsOf rest = wordsOf L
 hd : rest = [] ∨ ∃ b r, rest = b :: r ∧ b ≠ 32
 ld : done.length ≤ 5
 lr : rest.length ≤ L.length
theorem lwI_start (L : List UInt8) : LwI L [] (Lib.trimLeftB L 32) := ⟨words_trim L, trim_head L, Nat.zero_le _, trim_len L⟩
theorem LwI.next {L : List UInt8} {done : List (List UInt8)} {rest : List UInt8} (h : LwI L done rest) (hr : rest ≠ []) (hd : done.length ≤ 4) :
 LwI L (done ++ [(Lib.cut rest [32]).1]) (Lib.trimLeftB (Lib.cut rest [32]).2.1 32) ∧ (Lib.trimLeftB (Lib.cut rest [32]).2.1 32).length < rest.length ∧ (Lib.cut rest [32]).2.1.length ≤ rest.length ∧ (Lib.cut rest [32]).1.length ≤ rest.length := by
 obtain ⟨b, r, rfl, hb⟩ := h.hd.resolve_left hr
 have hgo := h.go
 have hlr := h.lr
 rw [cut_blank]
 cases hc : cut1 (b :: r) with
 | none =>
  have hw : wordsOf (b :: r) = [b :: r] := wordsFrom_none _ [] hc (by simp)
  refine ⟨⟨?_, .inl rfl, by simp; omega, by simp [Lib.trimLeftB]⟩, by simp [Lib.trimLeftB], by simp, by simp⟩
  rw [hw] at hgo
  show (done ++ [b :: r]) ++ wordsOf [] = _
  rw [← hgo]
  simp [wordsOf, wordsFrom]
 | some p =>
  have hx : p.1 ≠ [] := fun e => by
   have := cut1_join (x := p.1) (y := p.2) hc
   rw [e] at this
   exact hb (List.cons.inj this).1
  have hw : wordsOf (b :: r) = p.1 :: wordsOf p.2 := wordsFrom_some _ [] p.1 p.2 hc (by simpa using hx)
  have hl : p.1.length + p.2.length + 1 = (b :: r).length := by
   have := congrArg List.length (cut1_join (x := p.1) (y := p.2) hc)
   simp only [List.length_append, List.length_cons] at this ⊢
   omega
  have ht := trim_len p.2
  refine ⟨⟨?_, trim_head _, by simp; omega, ?_⟩, ?_, ?_, ?_⟩
  ·rw [hw] at hgo
   show (done ++ [p.1]) ++ wordsOf (Lib.trimLeftB p.2 32) = _
   rw [words_trim, List.append_assoc]
   exact hgo
  ·show (Lib.trimLeftB p.2 32).length ≤ _; omega
  ·show (Lib.trimLeftB p.2 32).length < _; omega
  ·show p.2.length ≤ _; omega
  ·show p.1.length ≤ _; omega
theorem LwI.ended {L : List UInt8} {done : List (List UInt8)} {rest : List UInt8} (h : LwI L done rest) (he : rest = [] ∨ 4 < done.length) : done = (wordsOf L).take 5 := by
 have hld := h.ld
 rcases he with rfl | he
 ·have := h.go
  rw [show wordsOf [] = [] from rfl, List.append_nil] at this
  rw [← this, List.take_of_length_le hld]
 ·rw [← h.go, List.take_append_of_le_length (by omega), List.take_of_length_le hld]
theorem wordF_len : ∀ (s acc : List UInt8), ∀ x ∈ wordsFrom acc s, x.length ≤ acc.length + s.length
 | [], acc, x, h => by
  rw [wordsFrom] at h
  split at h
  ·cases h
  ·rw [List.mem_singleton] at h; rw [h]; simp
 | b :: r, acc, x, h => by
  rw [wordsFrom] at h
  split at h
  ·split at h
   ·have := wordF_len r [] x h; simp at this ⊢; omega
   ·rcases List.mem_cons.1 h with rfl | h
    ·simp
    ·have := wordF_len r [] x h; simp at this ⊢; omega
  ·have := wordF_len r (acc ++ [b]) x h; simp at this ⊢; omega
theorem cmdK_what (t : Twn) (k : List UInt8) {n : List Int} (h0 : n.length ≠ 0) (h1 : n.length ≠ 1) (h3 : n.length ≠ 3) : cmdK t k n = (whatW, t) := by
 unfold cmdK
 rw [if_neg (fun e => h3 e.2), if_neg (fun e => h1 e.2), if_neg (fun e => h1 e.2), if_neg (fun e => h1 e.2), if_neg (fun e => h1 e.2), if_neg (fun e => h1 e.2), if_neg (fun e => h1 e.2), if_neg (fun e => h0 e.2), if_neg (fun e => h1 e.2), if_neg (fun e => h0 e.2), if_neg (fun e => h1 e.2), if_neg (fun e => h0 e.2), if_neg (fun e => h0 e.2)]
theorem wordsK_long (t : Twn) (k : List UInt8) (r : List (List UInt8)) (h : 4 ≤ r.length) : wordsK t (k :: r) = (whatW, t) := by
 rw [wordsK]
 cases hr : readL (r.map bl) with
 | none => rfl
 | some n =>
  have := readL_len _ _ hr
  rw [List.length_map] at this
  exact cmdK_what t k (by omega) (by omega) (by omega)
theorem wordsK_take (t : Twn) : ∀ l : List (List UInt8), wordsK t (l.take 5) = wordsK t l
 | [] => rfl
 | k :: r => by
  rw [List.take_succ_cons]
  by_cases h : r.length ≤ 4
  ·rw [List.take_of_length_le h]
  ·rw [wordsK_long t k r (by omega), wordsK_long t k (r.take 4) (by rw [List.length_take]; omega)]
def putFour (l : List (List UInt8)) : Option (Int × Int × List UInt8) := match l with
 | [a, b, c, text] => if a = [112, 117, 116] then (match readL [bl b, bl c] with | some [w, at_] => some (w, at_, text) | _ => none) else none
 | _ => none
theorem readL_two (x y : ByteArray) : readL [x, y] = match num1 x with | none => none | some a => (match num1 y with | none => none | some b => some [a, b]) := by
 cases h1 : num1 x with
 | none => simp [readL, h1]
 | some a =>
  cases h2 : num1 y with
  | none => simp [readL, h1, h2]
  | some b => simp [readL, h1, h2]
theorem putOf_cut (s : List UInt8) : putOf s = putFour (cutK 3 s) := by
 unfold putOf
 simp only [cutK]
 cases h1 : cut1 s with
 | none => rfl
 | some p =>
  obtain ⟨a, rest⟩ := p
  dsimp only
  cases h2 : cut1 rest with
  | none =>
   dsimp only
   split <;> rfl
  | some q =>
   obtain ⟨b, more⟩ := q
   dsimp only
   cases h3 : cut1 more with
   | none =>
    dsimp only
    split <;> rfl
   | some z =>
    obtain ⟨c, text⟩ := z
    dsimp only [putFour]
    rw [readL_two]
    by_cases ha : a = [112, 117, 116]
    ·rw [if_pos ha, if_pos ha]
     cases num1 (bl b) with
     | none => rfl
     | some w =>
      cases num1 (bl c) with
      | none => rfl
      | some at_ => rfl
    ·rw [if_neg ha, if_neg ha]
def fourOf (s : ByteArray) : List ByteArray := Lib.splitB spS 0 (min 4 (s.size + 1) - 1) s
theorem four_words (s : ByteArray) : fourOf s = (cutK 3 s.data.toList).map bl := by
 have h := Lib.splitB_data spS 0 (min 4 (s.size + 1) - 1) s
 have e : cutK (min 4 (s.size + 1) - 1) s.data.toList = cutK 3 s.data.toList := by
  by_cases h5 : 3 ≤ s.size
  ·rw [show min 4 (s.size + 1) - 1 = 3 by omega]
  ·have := cutK_more s.size (3 - s.size) s.data.toList (by rw [size_list]; exact Nat.le_refl _)
   rw [show s.size + (3 - s.size) = 3 by omega] at this
   rw [show min 4 (s.size + 1) - 1 = s.size by omega, this]
 rw [show spS.data.toList = [32] from rfl, splitK_cut, e] at h
 have h2 : (fourOf s).map (fun x => bl x.data.toList) = (cutK 3 s.data.toList).map bl := by
  rw [← h, List.map_map]; rfl
 rw [← h2]
 have h3 : (fourOf s).map (fun x => bl x.data.toList) = (fourOf s).map id := List.map_congr_left (fun x _ => bl_data x)
 rw [h3, List.map_id]
def jnB (ws : List (List UInt8)) : List UInt8 := Lib.join ws [32]
theorem tail_nums : ∀ zs : List Int, Lib.joinTail [32] (zs.map Lib.itoa) = numsW zs
 | [] => rfl
 | z :: zs => by
  have := tail_nums zs
  unfold Lib.joinTail at this ⊢
  rw [List.map_cons, List.map_cons, List.flatten_cons, this, numsW]
  simp
theorem join_nums (w : List UInt8) (zs : List Int) : jnB (w :: zs.map Lib.itoa) = w ++ numsW zs := by
 unfold jnB
 rw [Lib.join_cons, tail_nums]
theorem join_two (a b : List UInt8) : jnB [a, b] = a ++ 32 :: b := by
 unfold jnB
 rw [Lib.join_cons]
 simp [Lib.joinTail]
theorem text_join (l : List Int) : textW l = jnB [[116, 101, 120, 116], bytesW l] ++ [10] := by
 rw [join_two, textW]
 simp
theorem no_join (c : Int) : noW c = ([110, 111] ++ numsW [c]) ++ [10] := by
 simp [noW, numsW]
theorem leastW_join (a b : Int) : leastWd a b = ([108, 101, 97, 115, 116] ++ numsW [a, b]) ++ [10] := by
 simp [leastWd, numsW]
theorem by_join (zs : List Int) : byW zs = ([98, 121] ++ numsW zs) ++ [10] := by
 rw [byW, List.append_assoc]
theorem hasNl_index (s : List UInt8) : decide (0 ≤ Lib.indexByte s 10) = hasNl s := by
 induction s with
 | nil => rfl
 | cons b r ih =>
  rw [Lib.indexByte, hasNl, List.any_cons]
  by_cases hb : b = 10
  ·subst hb; rfl
  ·have h1 : (b == 10) = false := beq_eq_false_iff_ne.2 hb
   rw [h1, Bool.false_or]
   have h2 : ∀ l : List UInt8, -1 ≤ Lib.indexByte l 10 := by
    intro l
    induction l with
    | nil => decide
    | cons c l ih2 => rw [Lib.indexByte]; split; omega; split; omega; omega
   have h3 := h2 r
   rw [hasNl] at ih
   rw [← ih]
   simp only [Bool.false_eq_true, ↓reduceIte]
   by_cases h4 : Lib.indexByte r 10 = -1
   ·rw [h4]; rfl
   ·have : (Lib.indexByte r 10 == -1) = false := beq_eq_false_iff_ne.2 h4
    rw [this]
    simp only [Bool.false_eq_true, ↓reduceIte]
    congr 1
    apply propext
    omega
theorem fault_at : ∀ (l : List (List UInt8)) (i k : Nat) (h : k < l.length), (∀ (j : Nat) (hj : j < k), hasNl (l[j]'(by omega)) = false) → hasNl l[k] = true → faultFrom i l = (11, ((i + k : Nat) : Int))
 | s :: r, i, 0, _, _, h => by
  rw [faultFrom, if_pos (by simpa using h)]
  rfl
 | s :: r, i, k + 1, hk, hb, h => by
  have h0 := hb 0 (by omega)
  rw [faultFrom, if_neg (by simp at h0; simp [h0]), fault_at r (i + 1) k (by simpa using hk) (fun j hj => by have := hb (j + 1) (by omega); simpa using this) (by simpa using h)]
  congr 2
  omega
theorem fault_none : ∀ (l : List (List UInt8)) (i : Nat), (∀ s ∈ l, hasNl s = false) → faultFrom i l = (0, 0)
 | [], _, _ => rfl
 | s :: r, i, h => by
  rw [faultFrom, if_neg (by simp [h s (by simp)]), fault_none r (i + 1) (fun x hx => h x (by simp [hx]))]
end Go.Proofs.YtcbnnfeelhlapadGreatDoor
