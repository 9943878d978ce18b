/-
  A list of bytes as a value, empty or not: the contracts of Count, View, Behind and Check over it; the text of what one sees.
-/
import Derived.Test.YtebhbhcjfnohmabLawBehind
namespace Go.Proofs.Ytebhbhcjfnohmab
open Go.RowKit

/-- The value is a slice that holds just that list; of one without elements nothing is asked of its memory. -/
def Lst (w : World) (v : Value) (l : List Ch) : Prop :=
  ∃ (a : Option Addr) (len cap : Nat), v = .slice a len cap ∧ l.length = len ∧ len ≤ cap ∧ (len = 0 ∨ ∃ b off, a = some ⟨b, off, none⟩ ∧ Row w b off l)

theorem Lst.below {w w' : World} {v : Value} {l : List Ch} (h : Lst w v l) (hb : Below w.heap.size w w') : Lst w' v l := by
  obtain ⟨a, len, cap, rfl, h1, h2, h3⟩ := h
  refine ⟨a, len, cap, rfl, h1, h2, ?_⟩
  rcases h3 with h3 | ⟨b, off, rfl, hr⟩
  · exact .inl h3
  · exact .inr ⟨b, off, rfl, hr.below hb⟩

theorem lst_nil (w : World) : Lst w (.slice none 0 0) [] := ⟨none, 0, 0, rfl, rfl, Nat.le_refl _, .inl rfl⟩

set_option maxRecDepth 20000 in
set_option maxHeartbeats 400000 in
theorem view_empty (a : Option Addr) (cap : Nat) (seen by_ : Int) (w : World) :
    Calls Try.prog 40 #[.slice a 0 cap, .int .i64 seen, .int .i64 by_] w fun e w' => e = .returned (.slice none 0 0) ∧ Below w.heap.size w w' := by
  go_enter Try.func40, Try.ntmps40
  go_wp2
  refine wp_loop_rounds 1 ?_
  rw [rounds_succ]
  go_wp2
  go_ret
  exact ⟨rfl, Below.refl _ _⟩

set_option maxRecDepth 20000 in
set_option maxHeartbeats 400000 in
theorem check_empty (a : Option Addr) (cap : Nat) (log : Int) (w : World) :
    Calls Try.prog 17 #[.slice a 0 cap, .int .i64 log] w fun e w' => e = .returned (.int .i64 0) ∧ Below w.heap.size w w' := by
  go_enter Try.func17, Try.ntmps17
  go_wp2
  refine wp_loop_rounds 1 ?_
  rw [rounds_succ]
  go_wp2
  go_ret
  exact ⟨rfl, Below.refl _ _⟩

theorem count_lst {w : World} {v : Value} {l : List Ch} (h : Lst w v l) (hl : l.length ≤ 1000) (seen by_ : Int) :
    Calls Try.prog 46 #[v, .int .i64 seen, .int .i64 by_] w fun e w' => e = .returned (.int .i64 (cnt l seen by_)) ∧ Below w.heap.size w w' := by
  obtain ⟨a, len, cap, rfl, h1, h2, h3⟩ := h
  rcases h3 with rfl | ⟨b, off, rfl, hr⟩
  · obtain rfl : l = [] := List.length_eq_zero_iff.1 h1
    exact count_empty a cap seen by_ w
  · exact count_some b off len cap l seen by_ w h1 (by omega) hr

theorem check_lst {w : World} {v : Value} {l : List Ch} (h : Lst w v l) (hl : l.length ≤ 1000) (log : Int) :
    Calls Try.prog 17 #[v, .int .i64 log] w fun e w' => ∃ r, e = .returned (.int .i64 r) ∧ CheckIs l log r ∧ Below w.heap.size w w' := by
  obtain ⟨a, len, cap, rfl, h1, h2, h3⟩ := h
  rcases h3 with rfl | ⟨b, off, rfl, hr⟩
  · obtain rfl : l = [] := List.length_eq_zero_iff.1 h1
    refine (check_empty a cap log w).mono ?_
    rintro e w' ⟨rfl, hb⟩
    exact ⟨0, rfl, .inr ⟨by decide, .inr ⟨fun j hj => absurd hj (Nat.not_lt_zero _), rfl⟩⟩, hb⟩
  · exact check_some b off len cap l log w h1 h2 (by omega) hr

/-- What View answers, and that its text is what one sees. -/
theorem view_lst {w : World} {v : Value} {l : List Ch} (h : Lst w v l) (hl : l.length ≤ 1000) (seen by_ : Int) :
    Calls Try.prog 40 #[v, .int .i64 seen, .int .i64 by_] w fun e w' =>
      ∃ u, e = .returned u ∧ (convert 61 9 u).run Try.prog w' = .ok (.string (strOfNums (vw l seen by_))) w' ∧ Below w.heap.size w w' := by
  obtain ⟨a, len, cap, rfl, h1, h2, h3⟩ := h
  rcases h3 with rfl | ⟨b, off, rfl, hr⟩
  · obtain rfl : l = [] := List.length_eq_zero_iff.1 h1
    refine (view_empty a cap seen by_ w).mono ?_
    rintro e w' ⟨rfl, hb⟩
    exact ⟨_, rfl, own_string (base := w'.heap.size) (zs := []) (World.ownsRow_nil _ _ _ _), hb⟩
  · refine (view_some b off len cap l seen by_ w h1 (by omega) hr).mono ?_
    rintro e w' ⟨u, rfl, ho, hb⟩
    exact ⟨u, rfl, own_string ho, hb⟩

/-- Two texts of bytes are the same just where the numbers are. -/
theorem strOfNums_app (a b : List Int) : strOfNums (a ++ b) = strOfNums a ++ strOfNums b := by
  cases hs : strOfNums a ++ strOfNums b with
  | mk d =>
    have h1 : d.toList = (strOfNums a).data.toList ++ (strOfNums b).data.toList := by
      have := congrArg (fun s : ByteArray => s.data.toList) hs
      simpa using this.symm
    have h2 : (strOfNums (a ++ b)).data.toList = d.toList := by rw [h1, strOfNums_data, strOfNums_data, strOfNums_data, List.map_append]
    cases hd : strOfNums (a ++ b) with
    | mk d' =>
      rw [hd] at h2
      have : d' = d := Array.toList_inj.1 h2
      rw [this]

theorem strOfNums_size (a : List Int) : (strOfNums a).size = a.length := by
  show (strOfNums a).data.size = a.length
  rw [← Array.length_toList, strOfNums_data, List.length_map]

end Go.Proofs.Ytebhbhcjfnohmab
