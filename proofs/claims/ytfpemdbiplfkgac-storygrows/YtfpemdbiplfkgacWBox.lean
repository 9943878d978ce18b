/-
  A room in a drawn region: a box that is laid and written there; to hear its own, whole. No walk.
-/
import Derived.Test.YtfpemdbiplfkgacWBig
import Derived.Test.YtfpemdbiplfkgacFDeeds
namespace Go.Proofs.Ytfpemdbiplfkgac
open Go Go.RowKit

section
variable {base R G : Nat} {pw sc : Nat → Nat} {bare : Bool} {K : Nat → Prop} {m : Rm} {w wk w' : World} {x : RStep} {bx : List (Nat × Dd)}

theorem RIn.fewer {bx' : List (Nat × Dd)} (h : RIn w base R G pw sc bare K m x bx wk) (hb : ∀ p ∈ bx', p ∈ bx) : RIn w base R G pw sc bare K m x bx' wk := by
  refine ⟨h.room.less (fun k e => ?_), h.step, fun p hp => h.deeds p (hb p hp), h.below, h.stay⟩
  rcases e with e | e | ⟨p, hp, e⟩
  · exact .inl e
  · exact .inr (.inl e)
  · exact .inr (.inr ⟨p, hb p hp, e⟩)

theorem RIn.shut : Shut (fun wk => RIn w base R G pw sc bare K m x bx wk) := fun _ _ h hb => h.after hb

/-- The room, and one box more, that can be written. -/
structure RBox (w : World) (base R G : Nat) (pw sc : Nat → Nat) (bare : Bool) (K : Nat → Prop) (m : Rm) (x : RStep) (bx : List (Nat × Dd)) (E : Nat) (d : Dd) (wk : World) : Prop where
  ri : RIn w base R G pw sc bare K m x ((E, d) :: bx) wk
  free : ∀ o, o < 7 → wk.frozen? ⟨E, o, none⟩ = false
  lo : w.heap.size < E
  kl : ∀ k, K k → k < w.heap.size
  ap : ∀ p ∈ bx, p.1 ≠ E

theorem RBox.shut {E : Nat} {d : Dd} : Shut (fun wk => RBox w base R G pw sc bare K m x bx E d wk) := fun _ _ h hb => ⟨h.ri.after hb, fun o ho => by rw [(bcell hb).2 _ _ (h.ri.deeds (E, d) (by simp)).lt]; exact h.free o ho, h.lo, h.kl, h.ap⟩

/-- A box is laid. -/
theorem RIn.lay (h : RIn w base R G pw sc bare K m x bx wk) (hk : ∀ k, K k → k < w.heap.size) : RBox w base R G pw sc bare K m x bx wk.heap.size ⟨0, 0, 0, 0, 0, 0, ⟨#[]⟩⟩ (wk.alloc zObj) := by
  refine ⟨h.boxed ⟨0, 0, 0, 0, 0, 0, ⟨#[]⟩⟩, fun o ho => ?_, h.step.lt, hk, fun p hp => ?_⟩
  · rcases (show o = 0 ∨ o = 1 ∨ o = 2 ∨ o = 3 ∨ o = 4 ∨ o = 5 ∨ o = 6 by omega) with rfl | rfl | rfl | rfl | rfl | rfl | rfl <;> simp [go_sem]
  · have := (h.deeds p hp).lt
    omega

theorem RBox.put {E o : Nat} {d : Dd} (h : RBox w base R G pw sc bare K m x bx E d wk) (u : Value) {d' : Dd} (hd : DdAt (wk.setCell ⟨E, o, none⟩ u) E 0 d') : RBox w base R G pw sc bare K m x bx E d' (wk.setCell ⟨E, o, none⟩ u) := by
  have hne : ∀ k, k ≠ E → (wk.setCell ⟨E, o, none⟩ u).heap[k]? = wk.heap[k]? := fun k e => Below.heap_setCell _ _ _ _ e
  have hsz : (wk.setCell ⟨E, o, none⟩ u).heap.size = wk.heap.size := by simp [World.setCell]
  have hlo := h.lo
  refine ⟨⟨?_, ?_, ?_, ?_, ?_⟩, fun o' ho => by simpa [go_sem] using h.free o' ho, hlo, h.kl, h.ap⟩
  · refine (h.ri.room.wrote (p := ⟨E, o, none⟩) (.inr (.inr ⟨(E, d), by simp, rfl⟩)) u).less (fun k e => ?_)
    rcases e with e | e | ⟨p, hp, e⟩
    · exact .inl e
    · exact .inr (.inl e)
    · rcases List.mem_cons.1 hp with rfl | hp
      · exact .inr (.inr ⟨(E, d), by simp, e⟩)
      · exact .inr (.inr ⟨p, by simp [hp], e⟩)
  · exact h.ri.step.of_block (by rw [hsz]; exact h.ri.step.lt) (hne _ (by omega))
  · intro p hp
    rcases List.mem_cons.1 hp with rfl | hp
    · exact hd
    · exact (h.ri.deeds p (by simp [hp])).of_block (by rw [hsz]; exact (h.ri.deeds p (by simp [hp])).lt) (hne _ (h.ap p hp))
  · have hR := (h.ri.room.kl (k := E) (.inr (.inr ⟨(E, d), by simp, rfl⟩))).1
    exact h.ri.below.setCell (p := ⟨E, o, none⟩) hR u
  · intro k e
    rw [hne k (by have := h.kl k e; omega)]
    exact h.ri.stay k e

/-- A deed is stored there. -/
theorem RBox.store {E : Nat} {d0 : Dd} (h : RBox w base R G pw sc bare K m x bx E d0 wk) (d : Dd) : RBox w base R G pw sc bare K m x bx E d (((((((wk.setCell ⟨E, 0, none⟩ (.int .i64 d.kind)).setCell ⟨E, 1, none⟩ (.int .i64 d.by_)).setCell ⟨E, 2, none⟩ (.int .i64 d.no)).setCell ⟨E, 3, none⟩ (.int .i64 d.seen)).setCell ⟨E, 4, none⟩ (.int .i64 d.at_)).setCell ⟨E, 5, none⟩ (.int .i64 d.many)).setCell ⟨E, 6, none⟩ (.string d.text)) := by
  have step : ∀ {wk : World} {d0 : Dd} (o : Nat) (ho : o < 7) (u : Value) (d1 : Dd), RBox w base R G pw sc bare K m x bx E d0 wk → (∀ o', o' < 7 → (if o' = o then some u else wk.cell? ⟨E, o', none⟩) = some (#[Value.int .i64 d1.kind, .int .i64 d1.by_, .int .i64 d1.no, .int .i64 d1.seen, .int .i64 d1.at_, .int .i64 d1.many, .string d1.text].getD o' undef)) → RBox w base R G pw sc bare K m x bx E d1 (wk.setCell ⟨E, o, none⟩ u) := by
    intro wk d0 o ho u d1 h hc
    obtain ⟨hlt, c0, c1, c2, c3, c4, c5, c6⟩ := h.ri.deeds (E, d0) (by simp)
    simp only [Nat.zero_add] at hlt c0 c1 c2 c3 c4 c5 c6
    have hget : ∀ o', o' < 7 → (wk.setCell ⟨E, o, none⟩ u).cell? ⟨E, o', none⟩ = if o' = o then some u else wk.cell? ⟨E, o', none⟩ := by
      intro o' ho'
      by_cases e : o' = o
      · subst e
        rcases (show o' = 0 ∨ o' = 1 ∨ o' = 2 ∨ o' = 3 ∨ o' = 4 ∨ o' = 5 ∨ o' = 6 by omega) with rfl | rfl | rfl | rfl | rfl | rfl | rfl <;> simp [go_sem, c0, c1, c2, c3, c4, c5, c6]
      · simp [go_sem, e]
    refine h.put u ⟨by simpa [World.setCell] using hlt, ?_, ?_, ?_, ?_, ?_, ?_, ?_⟩
    · have := hc 0 (by omega); rw [hget 0 (by omega)]; simpa using this
    · have := hc 1 (by omega); rw [show 0 + 1 = 1 from rfl, hget 1 (by omega)]; simpa using this
    · have := hc 2 (by omega); rw [show 0 + 2 = 2 from rfl, hget 2 (by omega)]; simpa using this
    · have := hc 3 (by omega); rw [show 0 + 3 = 3 from rfl, hget 3 (by omega)]; simpa using this
    · have := hc 4 (by omega); rw [show 0 + 4 = 4 from rfl, hget 4 (by omega)]; simpa using this
    · have := hc 5 (by omega); rw [show 0 + 5 = 5 from rfl, hget 5 (by omega)]; simpa using this
    · have := hc 6 (by omega); rw [show 0 + 6 = 6 from rfl, hget 6 (by omega)]; simpa using this
  have one : ∀ {wk : World} {k b n s a y : Int} {t : ByteArray} (o : Nat) (ho : o < 7) (u : Value) (d1 : Dd), RBox w base R G pw sc bare K m x bx E ⟨k, b, n, s, a, y, t⟩ wk →
      (∀ o', o' < 7 → (if o' = o then u else (#[Value.int .i64 k, .int .i64 b, .int .i64 n, .int .i64 s, .int .i64 a, .int .i64 y, .string t].getD o' undef)) = (#[Value.int .i64 d1.kind, .int .i64 d1.by_, .int .i64 d1.no, .int .i64 d1.seen, .int .i64 d1.at_, .int .i64 d1.many, .string d1.text].getD o' undef)) → RBox w base R G pw sc bare K m x bx E d1 (wk.setCell ⟨E, o, none⟩ u) := by
    intro wk k b n s a y t o ho u d1 h hc
    refine step o ho u d1 h (fun o' ho' => ?_)
    obtain ⟨hlt, c0, c1, c2, c3, c4, c5, c6⟩ := h.ri.deeds (E, ⟨k, b, n, s, a, y, t⟩) (by simp)
    simp only [Nat.zero_add] at hlt c0 c1 c2 c3 c4 c5 c6
    rw [← hc o' ho']
    by_cases e : o' = o
    · rw [if_pos e, if_pos e]
    · rw [if_neg e, if_neg e]
      rcases (show o' = 0 ∨ o' = 1 ∨ o' = 2 ∨ o' = 3 ∨ o' = 4 ∨ o' = 5 ∨ o' = 6 by omega) with rfl | rfl | rfl | rfl | rfl | rfl | rfl <;> assumption
  obtain ⟨k0, b0, n0, s0, a0, y0, t0⟩ := d0
  have q : ∀ o', o' < 7 → o' = 0 ∨ o' = 1 ∨ o' = 2 ∨ o' = 3 ∨ o' = 4 ∨ o' = 5 ∨ o' = 6 := fun o' h => by omega
  have h0 := one 0 (by omega) (.int .i64 d.kind) ⟨d.kind, b0, n0, s0, a0, y0, t0⟩ h (fun o' ho => by rcases q o' ho with rfl | rfl | rfl | rfl | rfl | rfl | rfl <;> rfl)
  have h1 := one 1 (by omega) (.int .i64 d.by_) ⟨d.kind, d.by_, n0, s0, a0, y0, t0⟩ h0 (fun o' ho => by rcases q o' ho with rfl | rfl | rfl | rfl | rfl | rfl | rfl <;> rfl)
  have h2 := one 2 (by omega) (.int .i64 d.no) ⟨d.kind, d.by_, d.no, s0, a0, y0, t0⟩ h1 (fun o' ho => by rcases q o' ho with rfl | rfl | rfl | rfl | rfl | rfl | rfl <;> rfl)
  have h3 := one 3 (by omega) (.int .i64 d.seen) ⟨d.kind, d.by_, d.no, d.seen, a0, y0, t0⟩ h2 (fun o' ho => by rcases q o' ho with rfl | rfl | rfl | rfl | rfl | rfl | rfl <;> rfl)
  have h4 := one 4 (by omega) (.int .i64 d.at_) ⟨d.kind, d.by_, d.no, d.seen, d.at_, y0, t0⟩ h3 (fun o' ho => by rcases q o' ho with rfl | rfl | rfl | rfl | rfl | rfl | rfl <;> rfl)
  have h5 := one 5 (by omega) (.int .i64 d.many) ⟨d.kind, d.by_, d.no, d.seen, d.at_, d.many, t0⟩ h4 (fun o' ho => by rcases q o' ho with rfl | rfl | rfl | rfl | rfl | rfl | rfl <;> rfl)
  exact one 6 (by omega) (.string d.text) d h5 (fun o' ho => by rcases q o' ho with rfl | rfl | rfl | rfl | rfl | rfl | rfl <;> rfl)

/-- Whatever log it is. -/
def RLog (w : World) (base R G : Nat) (pw sc : Nat → Nat) (bare : Bool) (K : Nat → Prop) (p : Nat → Option (Wr × List (List Ch))) (s : Nat → Option Wr) (x : RStep) (bx : List (Nat × Dd)) (wk : World) : Prop := ∃ b, RIn w base R G pw sc bare K ⟨b, p, s⟩ x bx wk

end

end Go.Proofs.Ytfpemdbiplfkgac
