/-
  What View answers can be made a text at once, and later.
-/
import Derived.Test.YtebhbhcjfnohmabLst
namespace Go.Proofs.Ytebhbhcjfnohmab
open Go.RowKit

/-- A value that is made a text, now and in whatever world comes of it by making memory alone. -/
def Tells (u : Value) (s : ByteArray) (wk : World) : Prop := ∀ w'', Below wk.heap.size wk w'' → (convert 61 9 u).run Try.prog w'' = .ok (.string s) w''

theorem Tells.below {u : Value} {s : ByteArray} {wk w' : World} (h : Tells u s wk) (hb : Below wk.heap.size wk w') : Tells u s w' := fun w'' hb' => h w'' (below_after hb hb')

theorem view_tells {w : World} {v : Value} {l : List Ch} (h : Lst w v l) (hl : l.length ≤ 1000) (seen by_ : Int) :
    Calls Try.prog 40 #[v, .int .i64 seen, .int .i64 by_] w fun e w' => ∃ u, e = .returned u ∧ Tells u (strOfNums (vw l seen by_)) w' ∧ Below w.heap.size w w' := by
  obtain ⟨a, len, cap, rfl, h1, h2, h3⟩ := h
  rcases h3 with rfl | ⟨b, off, rfl, hr⟩
  · obtain rfl : l = [] := List.length_eq_zero_iff.1 h1
    refine (view_empty a cap seen by_ w).mono ?_
    rintro e w' ⟨rfl, hb⟩
    exact ⟨_, rfl, fun w'' _ => own_string (base := w''.heap.size) (zs := []) (World.ownsRow_nil _ _ _ _), hb⟩
  · refine (view_some b off len cap l seen by_ w h1 (by omega) hr).mono ?_
    rintro e w' ⟨u, rfl, ho, hb⟩
    exact ⟨u, rfl, fun w'' hb' => own_string (owns_below ho hb'), hb⟩

end Go.Proofs.Ytebhbhcjfnohmab
