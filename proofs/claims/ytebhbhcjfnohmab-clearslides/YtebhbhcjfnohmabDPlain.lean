/-
  Plain mathematics of a deed: what may be done, and its line. No walk.
-/
import Derived.Test.YtebhbhcjfnohmabPlain
namespace Go.Proofs.Ytebhbhcjfnohmab
open Go.RowKit

/-- A deed, as numbers and bytes. -/
structure Dd where
  kind : Int
  by_ : Int
  no : Int
  seen : Int
  at_ : Int
  many : Int
  text : ByteArray

abbrev ddV (d : Dd) : Value := .agg #[.int .i64 d.kind, .int .i64 d.by_, .int .i64 d.no, .int .i64 d.seen, .int .i64 d.at_, .int .i64 d.many, .string d.text]

def okChar (b : UInt8) : Bool := decide (32 ≤ b.toNat ∧ b.toNat ≤ 126)
def printedB (s : ByteArray) : Bool := decide (1 ≤ s.size ∧ s.size ≤ 20) && s.data.toList.all okChar
def placedB (d : Dd) : Bool := wrB d.by_ && (withinB d.no 1 120 && (withinB d.seen 0 120 && withinB d.at_ 0 200))
def putC (d : Dd) : Int := if d.many ≠ 0 then 3 else if printedB d.text = true then 0 else 4
def takeC (d : Dd) : Int := if d.text.size ≠ 0 then 3 else if withinB d.many 1 200 = true then 0 else 1
def checkC (d : Dd) : Int := if d.kind ≠ 1 ∧ d.kind ≠ 2 then 2 else if placedB d = false then 1 else if d.kind = 1 then putC d else takeC d

theorem size_list (s : ByteArray) : s.data.toList.length = s.size := rfl

theorem getB (s : ByteArray) (k : Nat) (h : k < s.size) : s.data.toList[k]'h = s[k] := rfl

theorem all_take_succ (s : ByteArray) (k : Nat) (h : k < s.size) : (s.data.toList.take (k + 1)).all okChar = ((s.data.toList.take k).all okChar && okChar s[k]) := by
  rw [List.take_add_one, List.getElem?_eq_getElem h, Option.toList_some, List.all_append, getB s k h, List.all_cons, List.all_nil, Bool.and_true]

theorem all_no (s : ByteArray) (k : Nat) (h : k < s.size) (hk : okChar s[k] = false) : s.data.toList.all okChar = false := by
  rw [List.all_eq_false]
  exact ⟨s[k], by rw [← getB s k h]; exact List.getElem_mem _, by simp [hk]⟩

theorem ba_empty {s : ByteArray} (h : s.size = 0) : s = ⟨#[]⟩ := by
  cases s with
  | mk d => have : d.size = 0 := h
            have : d = #[] := Array.eq_empty_of_size_eq_zero this
            rw [this]

theorem ba_ext {a b : ByteArray} (h : a.data.toList = b.data.toList) : a = b := by
  cases a; cases b; simp at h; rw [h]

theorem ba_beq_list (a : ByteArray) (l : List UInt8) : (a.toList == l) = decide (a = ⟨l.toArray⟩) := by
  rw [ByteArray.toList_eq]
  by_cases h : a = ⟨l.toArray⟩
  · simp [h]
  · have : a.data.toList ≠ l := fun e => h (ba_ext (by simpa using e))
    simp only [h, decide_false]
    exact beq_eq_false_iff_ne.2 this

theorem ba_beq (a b : ByteArray) : (a.toList == b.toList) = decide (a = b) := by
  rw [ByteArray.toList_eq, ByteArray.toList_eq]
  by_cases h : a = b
  · simp [h]
  · have : a.data.toList ≠ b.data.toList := fun e => h (ba_ext e)
    simp only [h, decide_false]
    exact beq_eq_false_iff_ne.2 this

end Go.Proofs.Ytebhbhcjfnohmab
