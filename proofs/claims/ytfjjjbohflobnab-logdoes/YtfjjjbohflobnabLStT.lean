/-
  A log and a book side by side; steps in memory. No walk.
-/
import Derived.Test.YtfjjjbohflobnabLgT
import Derived.Test.YtfjjjbohflobnabFStage
import Derived.BigRegion
namespace Go.Proofs.Ytfjjjbohflobnab
open Go.RowKit

/-- A log and a book, in blocks of their own, from a block on; and blocks that are neither's. -/
def Duo (base G B : Nat) (K : Nat → Prop) (g b : Bk) (wk : World) : Prop :=
  ∃ (LL LB : Nat → Prop) (dv lv dv' : Value), LogAt wk base LL G dv lv g ∧ BookAt wk base LB B dv' b ∧ (∀ k, LL k → ¬ LB k) ∧ ∀ k, K k → k < wk.heap.size ∧ ¬ LL k ∧ ¬ LB k

theorem Duo.base_le {base G B : Nat} {K : Nat → Prop} {g b : Bk} {wk : World} (h : Duo base G B K g b wk) : base ≤ wk.heap.size := by
  obtain ⟨_, _, _, _, _, h1, _⟩ := h
  exact h1.base_le

theorem Duo.after {base G B : Nat} {K : Nat → Prop} {g b : Bk} {wk w' : World} (h : Duo base G B K g b wk) (hb : Below wk.heap.size wk w') : Duo base G B K g b w' := by
  obtain ⟨LL, LB, dv, lv, dv', h1, h2, h3, h4⟩ := h
  exact ⟨LL, LB, dv, lv, dv', h1.below hb, h2.below hb, h3, fun k e => ⟨Nat.lt_of_lt_of_le (h4 k e).1 hb.size, (h4 k e).2⟩⟩

/-- A new block is neither's. -/
theorem Duo.add {base G B : Nat} {K K' : Nat → Prop} {g b : Bk} {wk w' : World} (h : Duo base G B K g b wk) (hb : Below wk.heap.size wk w') (hK : ∀ k, K' k → K k ∨ (wk.heap.size ≤ k ∧ k < w'.heap.size)) : Duo base G B K' g b w' := by
  obtain ⟨LL, LB, dv, lv, dv', h1, h2, h3, h4⟩ := h
  refine ⟨LL, LB, dv, lv, dv', h1.below hb, h2.below hb, h3, fun k e => ?_⟩
  rcases hK k e with e | e
  · exact ⟨Nat.lt_of_lt_of_le (h4 k e).1 hb.size, (h4 k e).2⟩
  · exact ⟨e.2, fun e' => by have := (h1.lo k e').2; omega, fun e' => by have := (h2.lo k e').2; omega⟩

theorem Duo.log {base G B : Nat} {K : Nat → Prop} {g b : Bk} {wk : World} (h : Duo base G B K g b wk) :
    ∃ LL dv lv, LogAt wk base LL G dv lv g ∧ ∀ g' w', LogTo wk base LL G g' w' → Duo base G B K g' b w' ∧ (∀ k, K k → w'.heap[k]? = wk.heap[k]?) ∧ Below base wk w' := by
  obtain ⟨LL, LB, dv, lv, dv', h1, h2, h3, h4⟩ := h
  refine ⟨LL, dv, lv, h1, fun g' w' ht => ?_⟩
  obtain ⟨⟨dv1, lv1, hat⟩, hk⟩ := ht
  refine ⟨⟨grow LL wk w', LB, dv1, lv1, dv', hat, h2.kept hk (fun k hB hL => h3 k hL hB), fun k hL hB => ?_, fun k e => ⟨Nat.lt_of_lt_of_le (h4 k e).1 hk.size, fun e' => ?_, (h4 k e).2.2⟩⟩, fun k e => hk.block k (h4 k e).1 (h4 k e).2.1, hk.below (fun k e => (h1.lo k e).1) h1.base_le⟩
  · rcases hL with e | e
    · exact h3 k e hB
    · have := (h2.lo k hB).2
      omega
  · rcases e' with e' | e'
    · exact (h4 k e).2.1 e'
    · have := (h4 k e).1
      omega

theorem Duo.book {base G B : Nat} {K : Nat → Prop} {g b : Bk} {wk : World} (h : Duo base G B K g b wk) :
    ∃ LB dv, BookAt wk base LB B dv b ∧ ∀ b' w', BookTo wk base LB B b' w' → Duo base G B K g b' w' ∧ (∀ k, K k → w'.heap[k]? = wk.heap[k]?) ∧ Below base wk w' := by
  obtain ⟨LL, LB, dv, lv, dv', h1, h2, h3, h4⟩ := h
  refine ⟨LB, dv', h2, fun b' w' ht => ?_⟩
  obtain ⟨⟨dv1, hat⟩, hk⟩ := ht
  refine ⟨⟨LL, grow LB wk w', dv, lv, dv1, h1.kept hk (fun k hL hB => h3 k hL hB), hat, fun k hL hB => ?_, fun k e => ⟨Nat.lt_of_lt_of_le (h4 k e).1 hk.size, (h4 k e).2.1, fun e' => ?_⟩⟩, fun k e => hk.block k (h4 k e).1 (h4 k e).2.2, hk.below (fun k e => (h2.lo k e).1) h2.base_le⟩
  · rcases hB with e | e
    · exact h3 k hL e
    · have := (h1.lo k hL).2
      omega
  · rcases e' with e' | e'
    · exact (h4 k e).2.2 e'
    · have := (h4 k e).1
      omega

/-- A step, in memory. -/
structure LsAt (w : World) (B o : Nat) (x : LStep) : Prop where
  lt : B < w.heap.size
  c0 : w.cell? ⟨B, o, none⟩ = some (.int .i64 x.do_)
  c1 : w.cell? ⟨B, o + 1, none⟩ = some (.int .i64 x.w)
  c2 : w.cell? ⟨B, o + 2, none⟩ = some (.int .i64 x.n)
  c3 : w.cell? ⟨B, o + 3, none⟩ = some (.int .i64 x.d.kind)
  c4 : w.cell? ⟨B, o + 4, none⟩ = some (.int .i64 x.d.by_)
  c5 : w.cell? ⟨B, o + 5, none⟩ = some (.int .i64 x.d.no)
  c6 : w.cell? ⟨B, o + 6, none⟩ = some (.int .i64 x.d.seen)
  c7 : w.cell? ⟨B, o + 7, none⟩ = some (.int .i64 x.d.at_)
  c8 : w.cell? ⟨B, o + 8, none⟩ = some (.int .i64 x.d.many)
  c9 : w.cell? ⟨B, o + 9, none⟩ = some (.string x.d.text)
  c10 : w.cell? ⟨B, o + 10, none⟩ = some (.bool x.right)

abbrev lsCells (x : LStep) : Array Value := #[.int .i64 x.do_, .int .i64 x.w, .int .i64 x.n, .int .i64 x.d.kind, .int .i64 x.d.by_, .int .i64 x.d.no, .int .i64 x.d.seen, .int .i64 x.d.at_, .int .i64 x.d.many, .string x.d.text, .bool x.right]
abbrev lsV (x : LStep) : Value := .agg (lsCells x)

theorem lsat_start (w : World) (x : LStep) : LsAt (w.alloc (.cells (lsCells x) 45)) w.heap.size 0 x := by
  refine ⟨by simp, ?_, ?_, ?_, ?_, ?_, ?_, ?_, ?_, ?_, ?_, ?_⟩ <;> simp [go_sem]

theorem LsAt.of_block {w w' : World} {B o : Nat} {x : LStep} (h : LsAt w B o x) (hs : B < w'.heap.size) (hb : w'.heap[B]? = w.heap[B]?) : LsAt w' B o x := by
  have hc : ∀ o, w'.cell? ⟨B, o, none⟩ = w.cell? ⟨B, o, none⟩ := fun o => World.cell?_of_block (a := ⟨B, o, none⟩) hb
  obtain ⟨_, c0, c1, c2, c3, c4, c5, c6, c7, c8, c9, c10⟩ := h
  refine ⟨hs, ?_, ?_, ?_, ?_, ?_, ?_, ?_, ?_, ?_, ?_, ?_⟩ <;> rw [hc] <;> assumption

theorem LsAt.below {w w' : World} {B o : Nat} {x : LStep} (h : LsAt w B o x) (hb : Below w.heap.size w w') : LsAt w' B o x := h.of_block (Nat.lt_of_lt_of_le h.lt hb.size) (hb.block _ h.lt)

/-- Steps that lie in memory from a place on. -/
structure Steps (w : World) (b off : Nat) (xs : List LStep) : Prop where
  lt : b < w.heap.size
  at_ : ∀ i (h : i < xs.length), LsAt w b (off + i * 11) xs[i]

theorem Steps.below {w w' : World} {b off : Nat} {xs : List LStep} (h : Steps w b off xs) (hb : Below w.heap.size w w') : Steps w' b off xs :=
  ⟨by have := hb.size; have := h.lt; omega, fun i hi => (h.at_ i hi).below hb⟩

/-- The value is a slice that holds just those steps. -/
def SLst (w : World) (v : Value) (xs : List LStep) : Prop :=
  ∃ (a : Option Addr) (len cap : Nat), v = .slice a len cap ∧ xs.length = len ∧ len ≤ cap ∧ (len = 0 ∨ ∃ b off, a = some ⟨b, off, none⟩ ∧ Steps w b off xs)

theorem SLst.below {w w' : World} {v : Value} {xs : List LStep} (h : SLst w v xs) (hb : Below w.heap.size w w') : SLst w' v xs := by
  obtain ⟨a, len, cap, rfl, h1, h2, h3⟩ := h
  refine ⟨a, len, cap, rfl, h1, h2, ?_⟩
  rcases h3 with h3 | ⟨b, off, rfl, hr⟩
  · exact .inl h3
  · exact .inr ⟨b, off, rfl, hr.below hb⟩

theorem SLst.len {w : World} {v : Value} {xs : List LStep} (h : SLst w v xs) : ∃ a cap, v = .slice a xs.length cap := by
  obtain ⟨a, len, cap, rfl, rfl, h2, h3⟩ := h
  exact ⟨a, cap, rfl⟩

theorem SLst.row {w : World} {a : Option Addr} {cap : Nat} {xs : List LStep} (h : SLst w (.slice a xs.length cap) xs) (hp : 0 < xs.length) : ∃ b off, a = some ⟨b, off, none⟩ ∧ Steps w b off xs := by
  obtain ⟨a', len, cap', he, h1, h2, h3⟩ := h
  simp only [Value.slice.injEq] at he
  obtain ⟨rfl, rfl, rfl⟩ := he
  rcases h3 with h3 | h3
  · omega
  · exact h3

/-- A number of a deed that fits an int. -/
def FitX (x : LStep) : Prop := -9223372036854775808 ≤ x.d.no ∧ x.d.no ≤ 9223372036854775807

/-- A block that is neither's is written. -/
theorem Duo.wrote {base G B : Nat} {K : Nat → Prop} {g b : Bk} {wk : World} (h : Duo base G B K g b wk) {p : Addr} (hp : K p.block) (u : Value) : Duo base G B K g b (wk.setCell p u) := by
  obtain ⟨LL, LB, dv, lv, dv', h1, h2, h3, h4⟩ := h
  have hk : Kept (fun k => k = p.block) wk (wk.setCell p u) := Kept.set (S := fun k => k = p.block) (Kept.refl _ wk) (p := p) rfl u
  exact ⟨LL, LB, dv, lv, dv', h1.kept hk (fun k e e' => (h4 _ hp).2.1 (by rw [← e']; exact e)), h2.kept hk (fun k e e' => (h4 _ hp).2.2 (by rw [← e']; exact e)), h3, fun k e => ⟨by simpa [World.setCell] using (h4 k e).1, (h4 k e).2⟩⟩

/-- In the middle of a step: the two, the step in its block, and nothing old has turned. -/
structure SI (w : World) (base G B : Nat) (K : Nat → Prop) (g b : Bk) (x : LStep) (wk : World) : Prop where
  duo : Duo base G B (fun k => K k ∨ k = w.heap.size) g b wk
  step : LsAt wk w.heap.size 0 x
  below : Below base w wk
  stay : ∀ k, K k → wk.heap[k]? = w.heap[k]?

theorem SI.base_le {w wk : World} {base G B : Nat} {K : Nat → Prop} {g b : Bk} {x : LStep} (h : SI w base G B K g b x wk) : base ≤ wk.heap.size := h.duo.base_le

theorem SI.after {w wk w' : World} {base G B : Nat} {K : Nat → Prop} {g b : Bk} {x : LStep} (h : SI w base G B K g b x wk) (hb : Below wk.heap.size wk w') : SI w base G B K g b x w' := by
  refine ⟨h.duo.after hb, h.step.below hb, h.below.trans (hb.mono h.base_le), fun k e => ?_⟩
  obtain ⟨_, _, _, _, _, _, _, _, h4⟩ := h.duo
  rw [hb.block k (h4 k (.inl e)).1]
  exact h.stay k e

theorem si_start {w : World} {base G B : Nat} {K : Nat → Prop} {g b : Bk} (h : Duo base G B K g b w) (x : LStep) : SI w base G B K g b x (w.alloc (.cells (lsCells x) 45)) := by
  have hb : Below w.heap.size w (w.alloc (.cells (lsCells x) 45)) := (Below.refl _ _).alloc (Nat.le_refl _) _
  have h' := h
  obtain ⟨_, _, _, _, _, _, _, _, h4⟩ := h'
  exact ⟨h.add hb (fun k e => e.elim .inl (fun e => .inr ⟨by omega, by simp; omega⟩)), lsat_start w x, hb.mono h.base_le, fun k e => hb.block k (h4 k e).1⟩

theorem SI.log {w wk : World} {base G B : Nat} {K : Nat → Prop} {g b : Bk} {x : LStep} (h : SI w base G B K g b x wk) :
    ∃ LL dv lv, LogAt wk base LL G dv lv g ∧ ∀ g' w', LogTo wk base LL G g' w' → SI w base G B K g' b x w' := by
  obtain ⟨LL, dv, lv, hL, hs⟩ := h.duo.log
  refine ⟨LL, dv, lv, hL, fun g' w' ht => ?_⟩
  obtain ⟨h1, h2, h3⟩ := hs g' w' ht
  exact ⟨h1, h.step.of_block (Nat.lt_of_lt_of_le h.step.lt h3.size) (h2 _ (.inr rfl)), h.below.trans h3, fun k e => (h2 k (.inl e)).trans (h.stay k e)⟩

theorem SI.book {w wk : World} {base G B : Nat} {K : Nat → Prop} {g b : Bk} {x : LStep} (h : SI w base G B K g b x wk) :
    ∃ LB dv, BookAt wk base LB B dv b ∧ ∀ b' w', BookTo wk base LB B b' w' → SI w base G B K g b' x w' := by
  obtain ⟨LB, dv, hL, hs⟩ := h.duo.book
  refine ⟨LB, dv, hL, fun b' w' ht => ?_⟩
  obtain ⟨h1, h2, h3⟩ := hs b' w' ht
  exact ⟨h1, h.step.of_block (Nat.lt_of_lt_of_le h.step.lt h3.size) (h2 _ (.inr rfl)), h.below.trans h3, fun k e => (h2 k (.inl e)).trans (h.stay k e)⟩

/-- Behind a step. -/
structure Stepped (w : World) (base G B : Nat) (K : Nat → Prop) (b' : Bk) (w' : World) : Prop where
  duo : Duo base G B K b' b' w'
  below : Below base w w'
  stay : ∀ k, K k → w'.heap[k]? = w.heap[k]?

theorem SI.done {w wk : World} {base G B : Nat} {K : Nat → Prop} {b' : Bk} {x : LStep} (h : SI w base G B K b' b' x wk) : Stepped w base G B K b' wk := by
  refine ⟨?_, h.below, h.stay⟩
  obtain ⟨LL, LB, dv, lv, dv', h1, h2, h3, h4⟩ := h.duo
  exact ⟨LL, LB, dv, lv, dv', h1, h2, h3, fun k e => h4 k (.inl e)⟩

end Go.Proofs.Ytfjjjbohflobnab

/-
  The law's own step, done to a log and to the document's book: both tell the same.
-/
namespace Go.Proofs.Ytfjjjbohflobnab
open Go.RowKit

set_option maxRecDepth 20000 in
set_option maxHeartbeats 1600000 in
theorem step0 {w : World} {base G B : Nat} {K : Nat → Prop} {b : Bk} (h : Duo base G B K b b w) (hg : Good b) (x : LStep) (hx : FitX x) (hd : x.do_ = 0) :
    Calls Try.prog 18 #[.pointer (some ⟨G, 0, none⟩), .pointer (some ⟨B, 0, none⟩), lsV x] w fun e w' => e = .returned (.bool true) ∧ Stepped w base G B K (stepB b x) w' := by
  have HI : Hid (SI w base G B K b b x (w.alloc (.cells (lsCells x) 45))) := si_start h x
  have HG : Hid (Good b) := hg
  have HB : Hid (stepB b x = joinB b x.w) := by show stepB b x = _; rw [stepB, if_pos hd]
  obtain ⟨do_, w_, n_, ⟨kind, by_, no, seen, at_, many, text⟩, right⟩ := x
  obtain rfl : do_ = 0 := hd
  clear h hg
  go_enter Try.func18, Try.ntmps18
  go_wp2_with fail
  obtain ⟨LL, dv, lv, hL, hs⟩ := HI.out.log
  refine (join_lg hL HG.out w_).mono ?_
  rintro e w1 ⟨rfl, hto⟩
  have HI1 : Hid (SI w base G B K (joinB b w_) b ⟨0, w_, n_, ⟨kind, by_, no, seen, at_, many, text⟩, right⟩ w1) := hs _ _ hto
  clear hL hs hto HI
  obtain ⟨_, c0, c1, c2, c3, c4, c5, c6, c7, c8, c9, c10⟩ := HI1.out.step
  simp only [Nat.zero_add] at c0 c1 c2 c3 c4 c5 c6 c7 c8 c9 c10
  go_wp2_with fail
  obtain ⟨LB, dv2, hL, hs⟩ := HI1.out.book
  refine (join_bk hL HG.out w_).mono ?_
  rintro e w2 ⟨rfl, hto⟩
  have HI2 : Hid (SI w base G B K (joinB b w_) (joinB b w_) ⟨0, w_, n_, ⟨kind, by_, no, seen, at_, many, text⟩, right⟩ w2) := hs _ _ hto
  clear hL hs hto HI1 c0 c1 c2 c3 c4 c5 c6 c7 c8 c9 c10
  generalize joinN b w_ = jn at *
  generalize joinC b w_ = jc at *
  go_wp2
  go_ret
  exact ⟨ret_b (by simp), by rw [HB.out]; exact HI2.out.done⟩

set_option maxRecDepth 20000 in
set_option maxHeartbeats 1600000 in
theorem stepN {w : World} {base G B : Nat} {K : Nat → Prop} {b : Bk} (h : Duo base G B K b b w) (hg : Good b) (x : LStep) (hx : FitX x) (h0 : x.do_ ≠ 0) (h1 : x.do_ ≠ 1) (h2 : x.do_ ≠ 2) (h3 : x.do_ ≠ 3) :
    Calls Try.prog 18 #[.pointer (some ⟨G, 0, none⟩), .pointer (some ⟨B, 0, none⟩), lsV x] w fun e w' => e = .returned (.bool true) ∧ Stepped w base G B K (stepB b x) w' := by
  have HI : Hid (SI w base G B K b b x (w.alloc (.cells (lsCells x) 45))) := si_start h x
  have HG : Hid (Good b) := hg
  have HB : Hid (stepB b x = b) := by show stepB b x = _; rw [stepB, if_neg h0, if_neg h1, if_neg h2, if_neg h3]
  have e0 : (x.do_ == 0) = false := by simp [h0]
  have e1 : (x.do_ == 1) = false := by simp [h1]
  have e2 : (x.do_ == 2) = false := by simp [h2]
  have e3 : (x.do_ == 3) = false := by simp [h3]
  obtain ⟨do_, w_, n_, ⟨kind, by_, no, seen, at_, many, text⟩, right⟩ := x
  simp only at e0 e1 e2 e3
  clear h hg h0 h1 h2 h3
  go_enter Try.func18, Try.ntmps18
  go_wp2
  go_ret
  exact ⟨rfl, by rw [HB.out]; exact HI.out.done⟩

set_option maxRecDepth 20000 in
set_option maxHeartbeats 1600000 in
theorem step1 {w : World} {base G B : Nat} {K : Nat → Prop} {b : Bk} (h : Duo base G B K b b w) (hg : Good b) (x : LStep) (hx : FitX x) (hd : x.do_ = 1) :
    Calls Try.prog 18 #[.pointer (some ⟨G, 0, none⟩), .pointer (some ⟨B, 0, none⟩), lsV x] w fun e w' => e = .returned (.bool true) ∧ Stepped w base G B K (stepB b x) w' := by
  have HI : Hid (SI w base G B K b b x (w.alloc (.cells (lsCells x) 45))) := si_start h x
  have HG : Hid (Good b) := hg
  have HB : Hid (stepB b x = leaveB b x.w) := by show stepB b x = _; rw [stepB, if_neg (by rw [hd]; decide), if_pos hd]
  obtain ⟨do_, w_, n_, ⟨kind, by_, no, seen, at_, many, text⟩, right⟩ := x
  obtain rfl : do_ = 1 := hd
  clear h hg
  go_enter Try.func18, Try.ntmps18
  go_wp2
  refine wp_region_stage (fun wk => LsAt wk w.heap.size 0 ⟨1, w_, n_, ⟨kind, by_, no, seen, at_, many, text⟩, right⟩) (fun i => i == 3 || i == 7) (fun wk => SI w base G B K b b ⟨1, w_, n_, ⟨kind, by_, no, seen, at_, many, text⟩, right⟩ wk) (by kernel_rfl) (by kernel_rfl) (by kernel_rfl) (fun _ h => h.step) (HI.out.after (Below.refl _ _).drew) ?_
  refine wpStage_still rfl (fun K hK => ?_)
  go_simp
  refine ⟨_, fun _ _ => rfl, hK _ ?_⟩
  clear hK K
  refine wpStage_still rfl (fun K hK => ?_)
  go_simp
  refine ⟨_, fun _ _ => rfl, hK _ ?_⟩
  clear hK K
  refine wpStage_still rfl (fun K hK => ?_)
  go_simp
  refine ⟨.int .i64 w_, fun wk hwk => ?_, hK _ ?_⟩
  · obtain ⟨_, c0, c1, c2, c3, c4, c5, c6, c7, c8, c9, c10⟩ := hwk
    simp only [Nat.zero_add] at c0 c1 c2 c3 c4 c5 c6 c7 c8 c9 c10
    go_simp
  clear hK K
  refine wpStage_spine rfl rfl (fun u => u = .int .i64 (leaveC b w_)) (fun u wk => SI w base G B K (leaveB b w_) b ⟨1, w_, n_, ⟨kind, by_, no, seen, at_, many, text⟩, right⟩ wk) ⟨_, rfl⟩ (fun _ _ h => h.step) (fun wk hwk => ?_) (fun u1 hu1 => ?_)
  · go_simp
    obtain ⟨LL, dv, lv, hL, hs⟩ := hwk.log
    refine (leave_lg hL w_).mono ?_
    rintro e w1 ⟨rfl, hto⟩
    exact ⟨_, rfl, rfl, hs _ _ hto⟩
  subst hu1
  refine wpStage_still rfl (fun K hK => ?_)
  go_simp
  refine ⟨_, fun _ _ => rfl, hK _ ?_⟩
  clear hK K
  refine wpStage_still rfl (fun K hK => ?_)
  go_simp
  refine ⟨_, fun _ _ => rfl, hK _ ?_⟩
  clear hK K
  refine wpStage_still rfl (fun K hK => ?_)
  go_simp
  refine ⟨.int .i64 w_, fun wk hwk => ?_, hK _ ?_⟩
  · obtain ⟨_, c0, c1, c2, c3, c4, c5, c6, c7, c8, c9, c10⟩ := hwk
    simp only [Nat.zero_add] at c0 c1 c2 c3 c4 c5 c6 c7 c8 c9 c10
    go_simp
  clear hK K
  refine wpStage_spine rfl rfl (fun u => u = .int .i64 (leaveC b w_)) (fun u wk => SI w base G B K (leaveB b w_) (leaveB b w_) ⟨1, w_, n_, ⟨kind, by_, no, seen, at_, many, text⟩, right⟩ wk) ⟨_, rfl⟩ (fun _ _ h => h.step) (fun wk hwk => ?_) (fun u2 hu2 => ?_)
  · go_simp
    obtain ⟨LB, dv, hL, hs⟩ := hwk.book
    refine (leave_bk hL w_).mono ?_
    rintro e w1 ⟨rfl, hto⟩
    exact ⟨_, rfl, rfl, hs _ _ hto⟩
  subst hu2
  refine wpStage_still rfl (fun K hK => ?_)
  go_simp
  refine ⟨.bool true, fun wk hwk => ?_, hK _ ?_⟩
  · go_simp
  clear hK K
  refine wpStage_still rfl (fun K hK => ?_)
  go_simp
  refine ⟨_, fun _ _ => rfl, hK _ ?_⟩
  clear hK K
  refine wpStage_nil (fun w9 hw9 => ?_)
  have HI9 : Hid _ := hw9
  clear hw9
  go_wp2
  go_ret
  exact ⟨rfl, by rw [HB.out]; exact HI9.out.done⟩

set_option maxRecDepth 20000 in
set_option maxHeartbeats 1600000 in
theorem step3 {w : World} {base G B : Nat} {K : Nat → Prop} {b : Bk} (h : Duo base G B K b b w) (hg : Good b) (x : LStep) (hx : FitX x) (hd : x.do_ = 3) :
    Calls Try.prog 18 #[.pointer (some ⟨G, 0, none⟩), .pointer (some ⟨B, 0, none⟩), lsV x] w fun e w' => e = .returned (.bool true) ∧ Stepped w base G B K (stepB b x) w' := by
  have HI : Hid (SI w base G B K b b x (w.alloc (.cells (lsCells x) 45))) := si_start h x
  have HG : Hid (Good b) := hg
  have HB : Hid (stepB b x = saysB b x.w x.n) := by show stepB b x = _; rw [stepB, if_neg (by rw [hd]; decide), if_neg (by rw [hd]; decide), if_neg (by rw [hd]; decide), if_pos hd]
  obtain ⟨do_, w_, n_, ⟨kind, by_, no, seen, at_, many, text⟩, right⟩ := x
  obtain rfl : do_ = 3 := hd
  clear h hg
  go_enter Try.func18, Try.ntmps18
  go_wp2
  refine wp_region_stage (fun wk => LsAt wk w.heap.size 0 ⟨3, w_, n_, ⟨kind, by_, no, seen, at_, many, text⟩, right⟩) (fun i => i == 5 || i == 11) (fun wk => SI w base G B K b b ⟨3, w_, n_, ⟨kind, by_, no, seen, at_, many, text⟩, right⟩ wk) (by kernel_rfl) (by kernel_rfl) (by kernel_rfl) (fun _ h => h.step) (HI.out.after (Below.refl _ _).drew) ?_
  refine wpStage_still rfl (fun K hK => ?_)
  go_simp
  refine ⟨_, fun _ _ => rfl, hK _ ?_⟩
  clear hK K
  refine wpStage_still rfl (fun K hK => ?_)
  go_simp
  refine ⟨_, fun _ _ => rfl, hK _ ?_⟩
  clear hK K
  refine wpStage_still rfl (fun K hK => ?_)
  go_simp
  refine ⟨.int .i64 w_, fun wk hwk => ?_, hK _ ?_⟩
  · obtain ⟨_, c0, c1, c2, c3, c4, c5, c6, c7, c8, c9, c10⟩ := hwk
    simp only [Nat.zero_add] at c0 c1 c2 c3 c4 c5 c6 c7 c8 c9 c10
    go_simp
  clear hK K
  refine wpStage_still rfl (fun K hK => ?_)
  go_simp
  refine ⟨_, fun _ _ => rfl, hK _ ?_⟩
  clear hK K
  refine wpStage_still rfl (fun K hK => ?_)
  go_simp
  refine ⟨.int .i64 n_, fun wk hwk => ?_, hK _ ?_⟩
  · obtain ⟨_, c0, c1, c2, c3, c4, c5, c6, c7, c8, c9, c10⟩ := hwk
    simp only [Nat.zero_add] at c0 c1 c2 c3 c4 c5 c6 c7 c8 c9 c10
    go_simp
  clear hK K
  refine wpStage_spine rfl rfl (fun u => u = .int .i64 (saysC b w_ n_)) (fun u wk => SI w base G B K (saysB b w_ n_) b ⟨3, w_, n_, ⟨kind, by_, no, seen, at_, many, text⟩, right⟩ wk) ⟨_, rfl⟩ (fun _ _ h => h.step) (fun wk hwk => ?_) (fun u1 hu1 => ?_)
  · go_simp
    obtain ⟨LL, dv, lv, hL, hs⟩ := hwk.log
    refine (says_lg hL w_ n_).mono ?_
    rintro e w1 ⟨rfl, hto⟩
    exact ⟨_, rfl, rfl, hs _ _ hto⟩
  subst hu1
  refine wpStage_still rfl (fun K hK => ?_)
  go_simp
  refine ⟨_, fun _ _ => rfl, hK _ ?_⟩
  clear hK K
  refine wpStage_still rfl (fun K hK => ?_)
  go_simp
  refine ⟨_, fun _ _ => rfl, hK _ ?_⟩
  clear hK K
  refine wpStage_still rfl (fun K hK => ?_)
  go_simp
  refine ⟨.int .i64 w_, fun wk hwk => ?_, hK _ ?_⟩
  · obtain ⟨_, c0, c1, c2, c3, c4, c5, c6, c7, c8, c9, c10⟩ := hwk
    simp only [Nat.zero_add] at c0 c1 c2 c3 c4 c5 c6 c7 c8 c9 c10
    go_simp
  clear hK K
  refine wpStage_still rfl (fun K hK => ?_)
  go_simp
  refine ⟨_, fun _ _ => rfl, hK _ ?_⟩
  clear hK K
  refine wpStage_still rfl (fun K hK => ?_)
  go_simp
  refine ⟨.int .i64 n_, fun wk hwk => ?_, hK _ ?_⟩
  · obtain ⟨_, c0, c1, c2, c3, c4, c5, c6, c7, c8, c9, c10⟩ := hwk
    simp only [Nat.zero_add] at c0 c1 c2 c3 c4 c5 c6 c7 c8 c9 c10
    go_simp
  clear hK K
  refine wpStage_spine rfl rfl (fun u => u = .int .i64 (saysC b w_ n_)) (fun u wk => SI w base G B K (saysB b w_ n_) (saysB b w_ n_) ⟨3, w_, n_, ⟨kind, by_, no, seen, at_, many, text⟩, right⟩ wk) ⟨_, rfl⟩ (fun _ _ h => h.step) (fun wk hwk => ?_) (fun u2 hu2 => ?_)
  · go_simp
    obtain ⟨LB, dv, hL, hs⟩ := hwk.book
    refine (says_bk hL w_ n_).mono ?_
    rintro e w1 ⟨rfl, hto⟩
    exact ⟨_, rfl, rfl, hs _ _ hto⟩
  subst hu2
  refine wpStage_still rfl (fun K hK => ?_)
  go_simp
  refine ⟨.bool true, fun wk hwk => ?_, hK _ ?_⟩
  · go_simp
  clear hK K
  refine wpStage_still rfl (fun K hK => ?_)
  go_simp
  refine ⟨_, fun _ _ => rfl, hK _ ?_⟩
  clear hK K
  refine wpStage_nil (fun w9 hw9 => ?_)
  have HI9 : Hid _ := hw9
  clear hw9
  go_wp2
  go_ret
  exact ⟨rfl, by rw [HB.out]; exact HI9.out.done⟩


end Go.Proofs.Ytfjjjbohflobnab

/-
  The law's own step of a deed, and of whatever kind: a log and the document's book tell the same.
-/
namespace Go.Proofs.Ytfjjjbohflobnab
open Go.RowKit

/-- The two, and a deed in a block of its own. -/
structure SD (w : World) (base G B : Nat) (K : Nat → Prop) (g b : Bk) (d : Dd) (F : Nat) (wk : World) : Prop where
  duo : Duo base G B (fun k => K k ∨ k = F) g b wk
  deed : DdAt wk F 0 d
  free : ∀ o, o < 7 → wk.frozen? ⟨F, o, none⟩ = false
  below : Below base w wk
  stay : ∀ k, K k → wk.heap[k]? = w.heap[k]?
  lo : w.heap.size ≤ F
  kl : ∀ k, K k → k < w.heap.size

theorem SD.after {w wk w' : World} {base G B F : Nat} {K : Nat → Prop} {g b : Bk} {d : Dd} (h : SD w base G B K g b d F wk) (hb : Below wk.heap.size wk w') : SD w base G B K g b d F w' := by
  refine ⟨h.duo.after hb, h.deed.below hb, fun o ho => by rw [(bcell hb).2 _ _ h.deed.lt]; exact h.free o ho, h.below.trans (hb.mono h.duo.base_le), fun k e => ?_, h.lo, h.kl⟩
  obtain ⟨_, _, _, _, _, _, _, _, h4⟩ := h.duo
  rw [hb.block k (h4 k (.inl e)).1]
  exact h.stay k e

theorem sd_start {w wk : World} {base G B : Nat} {K : Nat → Prop} {g b : Bk} {x : LStep} (h : SI w base G B K g b x wk) (d : Dd) (hw : w.heap.size ≤ wk.heap.size) (hK : ∀ k, K k → k < w.heap.size) : SD w base G B K g b d wk.heap.size (wk.alloc (dObj d)) := by
  have hb : Below wk.heap.size wk (wk.alloc (dObj d)) := (Below.refl _ _).alloc (Nat.le_refl _) _
  obtain ⟨_, _, _, _, _, _, _, _, h4⟩ := h.duo
  refine ⟨h.duo.add hb (fun k e => e.elim (fun e => .inl (.inl e)) (fun e => .inr ⟨by omega, by simp; omega⟩)), ddat_start wk d, fun o ho => ?_, h.below.trans (hb.mono h.base_le), fun k e => ?_, hw, hK⟩
  · rcases (show o = 0 ∨ o = 1 ∨ o = 2 ∨ o = 3 ∨ o = 4 ∨ o = 5 ∨ o = 6 by omega) with rfl | rfl | rfl | rfl | rfl | rfl | rfl <;> simp [go_sem]
  · rw [hb.block k (h4 k (.inl e)).1]
    exact h.stay k e

theorem SD.log {w wk : World} {base G B F : Nat} {K : Nat → Prop} {g b : Bk} {d : Dd} (h : SD w base G B K g b d F wk) :
    ∃ LL dv lv, LogAt wk base LL G dv lv g ∧ ∀ g' w', LogTo wk base LL G g' w' → SD w base G B K g' b d F w' := by
  obtain ⟨LL, dv, lv, hL, hs⟩ := h.duo.log
  refine ⟨LL, dv, lv, hL, fun g' w' ht => ?_⟩
  obtain ⟨h1, h2, h3⟩ := hs g' w' ht
  have hb := h2 _ (.inr rfl)
  exact ⟨h1, h.deed.of_block (Nat.lt_of_lt_of_le h.deed.lt h3.size) hb, fun o ho => by rw [World.frozen?_of_block (a := ⟨F, o, none⟩) hb]; exact h.free o ho, h.below.trans h3, fun k e => (h2 k (.inl e)).trans (h.stay k e), h.lo, h.kl⟩

theorem SD.book {w wk : World} {base G B F : Nat} {K : Nat → Prop} {g b : Bk} {d : Dd} (h : SD w base G B K g b d F wk) :
    ∃ LB dv, BookAt wk base LB B dv b ∧ ∀ b' w', BookTo wk base LB B b' w' → SD w base G B K g b' d F w' := by
  obtain ⟨LB, dv, hL, hs⟩ := h.duo.book
  refine ⟨LB, dv, hL, fun b' w' ht => ?_⟩
  obtain ⟨h1, h2, h3⟩ := hs b' w' ht
  have hb := h2 _ (.inr rfl)
  exact ⟨h1, h.deed.of_block (Nat.lt_of_lt_of_le h.deed.lt h3.size) hb, fun o ho => by rw [World.frozen?_of_block (a := ⟨F, o, none⟩) hb]; exact h.free o ho, h.below.trans h3, fun k e => (h2 k (.inl e)).trans (h.stay k e), h.lo, h.kl⟩

theorem SD.done {w wk : World} {base G B F : Nat} {K : Nat → Prop} {b' : Bk} {d : Dd} (h : SD w base G B K b' b' d F wk) : Stepped w base G B K b' wk := by
  refine ⟨?_, h.below, h.stay⟩
  obtain ⟨LL, LB, dv, lv, dv', h1, h2, h3, h4⟩ := h.duo
  exact ⟨LL, LB, dv, lv, dv', h1, h2, h3, fun k e => h4 k (.inl e)⟩

theorem SD.put {w wk : World} {base G B F o : Nat} {K : Nat → Prop} {g b : Bk} {d d' : Dd} {u : Value} (h : SD w base G B K g b d F wk) (hd : DdAt (wk.setCell ⟨F, o, none⟩ u) F 0 d') (hF : base ≤ F) : SD w base G B K g b d' F (wk.setCell ⟨F, o, none⟩ u) := by
  refine ⟨h.duo.wrote (p := ⟨F, o, none⟩) (.inr rfl) u, hd, fun o' ho => by simpa [go_sem] using h.free o' ho, h.below.setCell (p := ⟨F, o, none⟩) hF u, fun k e => ?_, h.lo, h.kl⟩
  rw [Below.heap_setCell _ _ _ _ (fun e' => by have h1 := h.kl k e; have h2 := h.lo; rw [e'] at h1; exact absurd h1 (by show ¬ F < _; omega))]
  exact h.stay k e

theorem DdAt.setNo {w : World} {F : Nat} {kind by_ no seen at_ many : Int} {text : ByteArray} (h : DdAt w F 0 ⟨kind, by_, no, seen, at_, many, text⟩) (n : Int) : DdAt (w.setCell ⟨F, 2, none⟩ (.int .i64 n)) F 0 ⟨kind, by_, n, seen, at_, many, text⟩ := by
  obtain ⟨hlt, c0, c1, c2, c3, c4, c5, c6⟩ := h
  simp only [Nat.zero_add] at c0 c1 c2 c3 c4 c5 c6
  refine ⟨by simpa using hlt, ?_, ?_, ?_, ?_, ?_, ?_, ?_⟩ <;> simp [go_sem, c0, c1, c2, c3, c4, c5, c6]

theorem DdAt.setSeen {w : World} {F : Nat} {kind by_ no seen at_ many : Int} {text : ByteArray} (h : DdAt w F 0 ⟨kind, by_, no, seen, at_, many, text⟩) (n : Int) : DdAt (w.setCell ⟨F, 3, none⟩ (.int .i64 n)) F 0 ⟨kind, by_, no, n, at_, many, text⟩ := by
  obtain ⟨hlt, c0, c1, c2, c3, c4, c5, c6⟩ := h
  simp only [Nat.zero_add] at c0 c1 c2 c3 c4 c5 c6
  refine ⟨by simpa using hlt, ?_, ?_, ?_, ?_, ?_, ?_, ?_⟩ <;> simp [go_sem, c0, c1, c2, c3, c4, c5, c6]

theorem seen_wrap {s sd : Int} {n : Nat} (h0 : 0 ≤ sd) (h1 : sd ≤ n) (hn : n ≤ 120) : wrap64 (sd + wrap64 ((IntKind.u64.wrap s).tmod (n - sd + 1))) = sd + (IntKind.u64.wrap s).tmod (n - sd + 1) := by
  have hs : 0 ≤ IntKind.u64.wrap s := by
    show 0 ≤ s % (2 ^ 64 : Int)
    omega
  have t0 := Int.tmod_nonneg (n - sd + 1) hs
  have t1 := Int.tmod_lt_of_pos (IntKind.u64.wrap s) (b := n - sd + 1) (by omega)
  generalize (IntKind.u64.wrap s).tmod (n - sd + 1) = t at *
  unfold wrap64
  omega

theorem Duo.kl {base G B : Nat} {K : Nat → Prop} {g b : Bk} {w : World} (h : Duo base G B K g b w) : ∀ k, K k → k < w.heap.size := by
  obtain ⟨_, _, _, _, _, _, _, _, h4⟩ := h
  exact fun k e => (h4 k e).1

set_option maxRecDepth 20000 in
set_option maxHeartbeats 3200000 in
theorem step2n {w : World} {base G B : Nat} {K : Nat → Prop} {b : Bk} (h : Duo base G B K b b w) (hg : Good b) (x : LStep) (hx : FitX x) (hd : x.do_ = 2) (hr : (x.right && wrB x.d.by_) = false) :
    Calls Try.prog 18 #[.pointer (some ⟨G, 0, none⟩), .pointer (some ⟨B, 0, none⟩), lsV x] w fun e w' => e = .returned (.bool true) ∧ Stepped w base G B K (stepB b x) w' := by
  have HI : Hid (SI w base G B K b b x (w.alloc (.cells (lsCells x) 45))) := si_start h x
  have HS : Hid (SD w base G B K b b x.d (w.heap.size + 1) ((w.alloc (.cells (lsCells x) 45)).alloc (dObj x.d))) := by
    have := sd_start HI.out x.d (by simp) h.kl
    show SD _ _ _ _ _ _ _ _ _ _
    simpa using this
  have HG : Hid (Good b) := hg
  have HB : Hid (stepB b x = comesB b (rightD b x)) := by show stepB b x = _; rw [stepB, if_neg (by rw [hd]; decide), if_neg (by rw [hd]; decide), if_pos hd]
  have HRD : Hid (rightD b x = x.d) := by show rightD b x = _; rw [rightD, if_neg (by rw [hr]; decide)]
  have HX : Hid (-9223372036854775808 ≤ x.d.no ∧ x.d.no ≤ 9223372036854775807) := hx
  obtain ⟨do_, w_, n_, ⟨kind, by_, no, seen, at_, many, text⟩, right⟩ := x
  obtain rfl : do_ = 2 := hd
  simp only at hr
  clear h hg HI
  cases right
  · go_enter Try.func18, Try.ntmps18
    go_wp2_with fail
    generalize World.alloc _ _ = w5 at *
    obtain ⟨_, c0, c1, c2, c3, c4, c5, c6⟩ := HS.out.deed
    simp only [Nat.zero_add] at c0 c1 c2 c3 c4 c5 c6
    go_wp2_with fail
    obtain ⟨LL, dv, lv, hL, hs⟩ := HS.out.log
    refine (take_lg hL HG.out ⟨kind, by_, no, seen, at_, many, text⟩).mono ?_
    rintro e w7 ⟨rfl, hto⟩
    have HI7 : Hid (SD w base G B K (comesB b ⟨kind, by_, no, seen, at_, many, text⟩) b ⟨kind, by_, no, seen, at_, many, text⟩ (w.heap.size + 1) w7) := hs _ _ hto
    clear hL hs hto HS c0 c1 c2 c3 c4 c5 c6
    obtain ⟨_, c0, c1, c2, c3, c4, c5, c6⟩ := HI7.out.deed
    simp only [Nat.zero_add] at c0 c1 c2 c3 c4 c5 c6
    go_wp2_with fail
    obtain ⟨LB, dv2, hL, hs⟩ := HI7.out.book
    refine (take_bk hL HG.out ⟨kind, by_, no, seen, at_, many, text⟩ HX.out.1 HX.out.2).mono ?_
    rintro e w8 ⟨rfl, hto⟩
    have HI8 : Hid (SD w base G B K (comesB b ⟨kind, by_, no, seen, at_, many, text⟩) (comesB b ⟨kind, by_, no, seen, at_, many, text⟩) ⟨kind, by_, no, seen, at_, many, text⟩ (w.heap.size + 1) w8) := hs _ _ hto
    clear hL hs hto HI7 c0 c1 c2 c3 c4 c5 c6
    generalize comesN b ⟨kind, by_, no, seen, at_, many, text⟩ = jn at *
    generalize comesC b ⟨kind, by_, no, seen, at_, many, text⟩ = jc at *
    go_wp2
    go_ret
    exact ⟨ret_b (by simp), by rw [HB.out, HRD.out]; exact HI8.out.done⟩
  · have hr' : wrB by_ = false := by simpa using hr
    go_enter Try.func18, Try.ntmps18
    go_wp2_with fail
    refine (isWriter_any by_ _).mono ?_
    rintro e w6 ⟨rfl, rfl⟩
    rw [hr']
    generalize World.alloc _ _ = w5 at *
    obtain ⟨_, c0, c1, c2, c3, c4, c5, c6⟩ := HS.out.deed
    simp only [Nat.zero_add] at c0 c1 c2 c3 c4 c5 c6
    go_wp2_with fail
    obtain ⟨LL, dv, lv, hL, hs⟩ := HS.out.log
    refine (take_lg hL HG.out ⟨kind, by_, no, seen, at_, many, text⟩).mono ?_
    rintro e w7 ⟨rfl, hto⟩
    have HI7 : Hid (SD w base G B K (comesB b ⟨kind, by_, no, seen, at_, many, text⟩) b ⟨kind, by_, no, seen, at_, many, text⟩ (w.heap.size + 1) w7) := hs _ _ hto
    clear hL hs hto HS c0 c1 c2 c3 c4 c5 c6
    obtain ⟨_, c0, c1, c2, c3, c4, c5, c6⟩ := HI7.out.deed
    simp only [Nat.zero_add] at c0 c1 c2 c3 c4 c5 c6
    go_wp2_with fail
    obtain ⟨LB, dv2, hL, hs⟩ := HI7.out.book
    refine (take_bk hL HG.out ⟨kind, by_, no, seen, at_, many, text⟩ HX.out.1 HX.out.2).mono ?_
    rintro e w8 ⟨rfl, hto⟩
    have HI8 : Hid (SD w base G B K (comesB b ⟨kind, by_, no, seen, at_, many, text⟩) (comesB b ⟨kind, by_, no, seen, at_, many, text⟩) ⟨kind, by_, no, seen, at_, many, text⟩ (w.heap.size + 1) w8) := hs _ _ hto
    clear hL hs hto HI7 c0 c1 c2 c3 c4 c5 c6
    generalize comesN b ⟨kind, by_, no, seen, at_, many, text⟩ = jn at *
    generalize comesC b ⟨kind, by_, no, seen, at_, many, text⟩ = jc at *
    go_wp2
    go_ret
    exact ⟨ret_b (by simp), by rw [HB.out, HRD.out]; exact HI8.out.done⟩

set_option maxRecDepth 20000 in
set_option maxHeartbeats 3200000 in
theorem step2r {w : World} {base G B : Nat} {K : Nat → Prop} {b : Bk} (h : Duo base G B K b b w) (hg : Good b) (x : LStep) (hx : FitX x) (hd : x.do_ = 2) (hr : (x.right && wrB x.d.by_) = true) :
    Calls Try.prog 18 #[.pointer (some ⟨G, 0, none⟩), .pointer (some ⟨B, 0, none⟩), lsV x] w fun e w' => e = .returned (.bool true) ∧ Stepped w base G B K (stepB b x) w' := by
  have HI : Hid (SI w base G B K b b x (w.alloc (.cells (lsCells x) 45))) := si_start h x
  have HS : Hid (SD w base G B K b b x.d (w.heap.size + 1) ((w.alloc (.cells (lsCells x) 45)).alloc (dObj x.d))) := by
    have := sd_start HI.out x.d (by simp) h.kl
    show SD _ _ _ _ _ _ _ _ _ _
    simpa using this
  have HG : Hid (Good b) := hg
  have HB : Hid (stepB b x = comesB b (rightD b x)) := by show stepB b x = _; rw [stepB, if_neg (by rw [hd]; decide), if_neg (by rw [hd]; decide), if_pos hd]
  obtain ⟨hr1, hr2⟩ : x.right = true ∧ wrB x.d.by_ = true := by simpa using hr
  have hlen : b.len = (b.ds.length : Int) := rfl
  have hl2 : b.ds.length ≤ 120 := hg.small
  obtain ⟨hl0, hl1⟩ := lastAt_bound hg x.d.by_
  obtain ⟨hs0, hs1⟩ := hg.said x.d.by_
  have HRD : Hid (rightD b x = ⟨x.d.kind, x.d.by_, b.last x.d.by_ + 1, b.said x.d.by_ + (IntKind.u64.wrap x.d.seen).tmod (b.len - b.said x.d.by_ + 1), x.d.at_, x.d.many, x.d.text⟩) := by show rightD b x = _; rw [rightD, if_pos hr]
  have HX : Hid (-9223372036854775808 ≤ b.last x.d.by_ + 1 ∧ b.last x.d.by_ + 1 ≤ 9223372036854775807) := by show _ ∧ _; omega
  obtain ⟨do_, w_, n_, ⟨kind, by_, no, seen, at_, many, text⟩, right⟩ := x
  obtain rfl : do_ = 2 := hd
  simp only at hr1 hr2 hl0 hl1 hs0 hs1 HRD
  subst hr1
  obtain ⟨j, rfl, hj⟩ := wr_nat hr2
  have hj4 : (j : Int) < 4 := by omega
  have hbase := h.base_le
  rw [hlen] at HRD hl1 hs1
  clear h hg HI hr hx
  go_enter Try.func18, Try.ntmps18
  go_wp2_with fail
  refine (isWriter_any _ _).mono ?_
  rintro e w6 ⟨rfl, rfl⟩
  rw [hr2]
  generalize World.alloc _ _ = w5 at *
  obtain ⟨_, c0, c1, c2, c3, c4, c5, c6⟩ := HS.out.deed
  simp only [Nat.zero_add] at c0 c1 c2 c3 c4 c5 c6
  have f2 := HS.out.free 2 (by omega)
  have f3 := HS.out.free 3 (by omega)
  have hF := HS.out.deed.lt
  obtain ⟨LB, dv, hB, _⟩ := HS.out.book
  obtain ⟨a, cap, rfl⟩ := hB.ownD.len
  have g0 := hB.cells.deeds
  have g2 := hB.cells.last j hj
  have g3 := hB.cells.said j hj
  have hlt := hB.cells.lt
  have hBF : ¬ B = w.heap.size + 1 := fun e => by
    obtain ⟨LL, LB, dv, lv, dv', q1, q2, q3, q4⟩ := HS.out.duo
    exact (q4 _ (.inr rfl)).2.2 (by rw [← e]; exact q2.hB)
  have hFB : ¬ w.heap.size + 1 = B := fun e => hBF e.symm
  clear hB
  generalize b.last j = m at *
  generalize hgs : b.said j = sd at *
  have GS : Hid (b.said j = sd) := hgs
  clear hgs
  have HS1 : Hid (SD w base G B K b b ⟨kind, j, m + 1, seen, at_, many, text⟩ (w.heap.size + 1) (w5.setCell ⟨w.heap.size + 1, 2, none⟩ (.int .i64 (m + 1)))) := HS.out.put (HS.out.deed.setNo (m + 1)) (by omega)
  go_wp2
  go_region
  all_goals
    go_wp2
    clear c0 c1 c2 c3 c4 c5 c6 f2 f3 hF g0 g2 g3 hlt HS
    have HS2 : Hid (SD w base G B K b b ⟨kind, j, m + 1, seen, at_, many, text⟩ (w.heap.size + 1) (w5.setCell ⟨w.heap.size + 1, 2, none⟩ (.int .i64 (m + 1))).drew) := HS1.out.after (Below.refl _ _).drew
    generalize World.drew _ = w6 at *
    clear HS1
    obtain ⟨_, c0, c1, c2, c3, c4, c5, c6⟩ := HS2.out.deed
    simp only [Nat.zero_add] at c0 c1 c2 c3 c4 c5 c6
    have f3 := HS2.out.free 3 (by omega)
    have hF := HS2.out.deed.lt
    obtain ⟨LB, dv, hB, _⟩ := HS2.out.book
    obtain ⟨a, cap, rfl⟩ := hB.ownD.len
    have g0 := hB.cells.deeds
    have g3 := hB.cells.said j hj
    rw [GS.out] at g3
    have hlt := hB.cells.lt
    clear hB
    have HV : Hid (_ = _) := seen_wrap (s := seen) hs0 hs1 hl2
    go_region
    rw [HV.out]
    have HS3 : Hid (SD w base G B K b b ⟨kind, j, m + 1, sd + (IntKind.u64.wrap seen).tmod ((b.ds.length : Int) - sd + 1), at_, many, text⟩ (w.heap.size + 1) (w6.setCell ⟨w.heap.size + 1, 3, none⟩ (.int .i64 (sd + (IntKind.u64.wrap seen).tmod ((b.ds.length : Int) - sd + 1)))).drew) := (HS2.out.put (HS2.out.deed.setSeen _) (by omega)).after (Below.refl _ _).drew
    generalize World.drew _ = w9 at *
    generalize sd + (IntKind.u64.wrap seen).tmod ((b.ds.length : Int) - sd + 1) = se at *
    clear c0 c1 c2 c3 c4 c5 c6 f3 hF g0 g3 hlt HS2 HV
    obtain ⟨_, c0, c1, c2, c3, c4, c5, c6⟩ := HS3.out.deed
    simp only [Nat.zero_add] at c0 c1 c2 c3 c4 c5 c6
    go_wp2_with fail
    obtain ⟨LL, dv, lv, hL, hs⟩ := HS3.out.log
    refine (take_lg hL HG.out ⟨kind, (j : Int), m + 1, se, at_, many, text⟩).mono ?_
    rintro e w7 ⟨rfl, hto⟩
    have HI7 : Hid (SD w base G B K (comesB b ⟨kind, (j : Int), m + 1, se, at_, many, text⟩) b ⟨kind, (j : Int), m + 1, se, at_, many, text⟩ (w.heap.size + 1) w7) := hs _ _ hto
    clear hL hs hto HS3 c0 c1 c2 c3 c4 c5 c6
    obtain ⟨_, c0, c1, c2, c3, c4, c5, c6⟩ := HI7.out.deed
    simp only [Nat.zero_add] at c0 c1 c2 c3 c4 c5 c6
    go_wp2_with fail
    obtain ⟨LB, dv2, hL, hs⟩ := HI7.out.book
    refine (take_bk hL HG.out ⟨kind, (j : Int), m + 1, se, at_, many, text⟩ HX.out.1 HX.out.2).mono ?_
    rintro e w8 ⟨rfl, hto⟩
    have HI8 : Hid (SD w base G B K (comesB b ⟨kind, (j : Int), m + 1, se, at_, many, text⟩) (comesB b ⟨kind, (j : Int), m + 1, se, at_, many, text⟩) ⟨kind, (j : Int), m + 1, se, at_, many, text⟩ (w.heap.size + 1) w8) := hs _ _ hto
    clear hL hs hto HI7 c0 c1 c2 c3 c4 c5 c6
    generalize comesN b ⟨kind, (j : Int), m + 1, se, at_, many, text⟩ = jn at *
    generalize comesC b ⟨kind, (j : Int), m + 1, se, at_, many, text⟩ = jc at *
    go_wp2
    go_ret
    exact ⟨ret_b (by simp), by rw [HB.out, HRD.out]; exact HI8.out.done⟩


/-- A STEP: THE LOG AND THE BOOK TELL THE SAME. -/
theorem step_any {w : World} {base G B : Nat} {K : Nat → Prop} {b : Bk} (h : Duo base G B K b b w) (hg : Good b) (x : LStep) (hx : FitX x) :
    Calls Try.prog 18 #[.pointer (some ⟨G, 0, none⟩), .pointer (some ⟨B, 0, none⟩), lsV x] w fun e w' => e = .returned (.bool true) ∧ Stepped w base G B K (stepB b x) w' := by
  by_cases h0 : x.do_ = 0
  · exact step0 h hg x hx h0
  · by_cases h1 : x.do_ = 1
    · exact step1 h hg x hx h1
    · by_cases h2 : x.do_ = 2
      · cases hr : (x.right && wrB x.d.by_)
        · exact step2n h hg x hx h2 hr
        · exact step2r h hg x hx h2 hr
      · by_cases h3 : x.do_ = 3
        · exact step3 h hg x hx h3
        · exact stepN h hg x hx h0 h1 h2 h3

end Go.Proofs.Ytfjjjbohflobnab
