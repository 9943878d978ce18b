/-
  A step of the room: one that comes.
-/
import Derived.Test.YtfpemdbiplfkgacWBox
namespace Go.Proofs.Ytfpemdbiplfkgac
open Go Go.RowKit

section
variable {base R G : Nat} {pw sc : Nat → Nat} {bare : Bool} {K : Nat → Prop} {m : Rm} {w wk w' : World} {x : RStep}

/-- The room, and a list of one's own. -/
structure JL (w : World) (base R G : Nat) (pw sc : Nat → Nat) (bare : Bool) (K : Nat → Prop) (m : Rm) (x : RStep) (b0 : Nat) (v : Value) (l : List Ch) (wk : World) : Prop where
  ri : RIn w base R G pw sc bare K m x [] wk
  own : Own wk b0 v l
  lo : R < b0

theorem JL.after {b0 : Nat} {v : Value} {l : List Ch} (h : JL w base R G pw sc bare K m x b0 v l wk) (hb : Below wk.heap.size wk w') : JL w base R G pw sc bare K m x b0 v l w' := ⟨h.ri.after hb, h.own.below hb, h.lo⟩

/-- The same with one that was made and has no seat yet. -/
structure NW (w : World) (base R G : Nat) (pw sc : Nat → Nat) (bare : Bool) (K : Nat → Prop) (m : Rm) (x : RStep) (b0 : Nat) (v : Value) (l : List Ch) (r : Wr) (u : Value) (wk : World) : Prop where
  jl : JL w base R G pw sc bare K m x b0 v l wk
  new : ∃ P w1 v1, u = .pointer (some ⟨P, 0, none⟩) ∧ RIn w base R G pw sc bare K m x [] w1 ∧ Below w1.heap.size w1 wk ∧ PwAt wk w1.heap.size (fun k => w1.heap.size ≤ k ∧ k < wk.heap.size) P v1 (.slice none 0 0) [] r.base [] [] r.me r.next r.seen 0
structure NS (w : World) (base R G : Nat) (pw sc : Nat → Nat) (bare : Bool) (K : Nat → Prop) (m : Rm) (x : RStep) (b0 : Nat) (v : Value) (l : List Ch) (r : Wr) (u : Value) (wk : World) : Prop where
  jl : JL w base R G pw sc bare K m x b0 v l wk
  new : ∃ P w1 v1, u = .pointer (some ⟨P, 0, none⟩) ∧ RIn w base R G pw sc bare K m x [] w1 ∧ Below w1.heap.size w1 wk ∧ ScAt wk w1.heap.size (fun k => w1.heap.size ≤ k ∧ k < wk.heap.size) P v1 (.slice none 0 0) r.base [] r.me r.seen r.next 0

theorem NW.seat {b0 P k : Nat} {v : Value} {l : List Ch} {r : Wr} (h : NW w base R G pw sc bare K m x b0 v l r (.pointer (some ⟨P, 0, none⟩)) wk) (hk : k < 4) (hr : r.opens = []) (hs : r.sent = 0) (hn : m.p k = none) :
    JL w base R G (setN pw k P) sc bare K ⟨m.b, setP m.p k (some (r, [])), m.s⟩ x b0 v l (wk.setCell ⟨R, 1 + k, none⟩ (.pointer (some ⟨P, 0, none⟩))) := by
  obtain ⟨P', w1, v1, he, h1, h2, h3⟩ := h.new
  obtain rfl : P = P' := by simpa using he
  have hlo := h.jl.lo
  refine ⟨h1.newW h2 hk hr hs h3 hn, owns_block h.jl.own (fun j e => Below.heap_setCell _ _ _ _ (fun e' => ?_)), hlo⟩
  have := (World.ownsRow.lt h.jl.own j e).1
  have e2 : j = R := e'
  omega
theorem NS.seat {b0 P k : Nat} {v : Value} {l : List Ch} {r : Wr} (h : NS w base R G pw sc bare K m x b0 v l r (.pointer (some ⟨P, 0, none⟩)) wk) (hk : k < 4) (hr : r.opens = []) (hs : r.sent = 0) (hn : m.s k = none) :
    RIn w base R G pw (setN sc k P) bare K ⟨m.b, m.p, setP m.s k (some r)⟩ x [] (wk.setCell ⟨R, 5 + k, none⟩ (.pointer (some ⟨P, 0, none⟩))) := by
  obtain ⟨P', w1, v1, he, h1, h2, h3⟩ := h.new
  obtain rfl : P = P' := by simpa using he
  exact h1.newS h2 hk hr hs h3 hn

end

set_option maxRecDepth 20000 in
set_option maxHeartbeats 6400000 in
theorem step_none {w : World} {base R G : Nat} {pw sc : Nat → Nat} {bare : Bool} {K : Nat → Prop} {m : Rm} (h : Room base R G pw sc bare K m w) (hi : RmI bare m) (x : RStep) (hd : x.do_ ≠ 0) {k : Nat} (hk : k < 4) (hxw : x.w = k) (he : m.p k = none) :
    Calls Try.prog 20 #[.pointer (some ⟨R, 0, none⟩), rsV x] w fun e w' => e = .returned (.tuple #[.bool true, .bool false]) ∧ RStepped w base R G bare K m w' := by
  have HI : Hid (RIn w base R G pw sc bare K m x [] (w.alloc (.cells (rsCells x) 28))) := rin_start h x
  have HM : Hid (RmI bare m) := hi
  obtain ⟨do_, w_, at_, many, text⟩ := x
  have hk0 : wrB (k : Int) = true := by simp [wrB]; omega
  obtain rfl : w_ = (k : Int) := hxw
  have hk4 : (k : Int) < 4 := by omega
  have HP : Hid (m.p k = none) := he
  have HS : Hid (m.s k = none) := by show m.s k = _; rw [HM.out.both k hk, he]; rfl
  have hps : (m.p k).isSome = false := by rw [he]; rfl
  have hss : (m.s k).isSome = false := by rw [HS.out]; rfl
  have hd0 : ¬ do_ = 0 := hd
  clear h hi he hd
  go_enter Try.func20, Try.ntmps20
  go_wp2_with (go_at_call 15; refine (isWriter_any _ _).mono ?_; rintro e w6 ⟨rfl, hw6⟩; rw [hk0, hw6]; clear hw6 w6)
  generalize World.alloc _ _ = w5 at *
  have c0 := HI.out.step.c0
  have c1 := HI.out.step.c1
  have c2 := HI.out.step.c2
  have c3 := HI.out.step.c3
  have c4 := HI.out.step.c4
  simp only [Nat.zero_add] at c0 c1 c2 c3 c4
  have g0 := HI.out.room.cells.log
  have g1 := HI.out.room.cells.wr k hk
  have g2 := HI.out.room.cells.sc k hk
  simp only [hps, hss, ptrOf, Bool.false_eq_true, if_false] at g1 g2
  go_quiet (fail)
  have HI6 : Hid (RIn w base R G pw sc bare K m ⟨do_, k, at_, many, text⟩ [] (w5.drewN nq)) := HI.out.after (below_drewN (Below.refl _ _) nq)
  go_wp2
  go_ret2
  exact ⟨rfl, HI6.out.done⟩

set_option maxRecDepth 20000 in
set_option maxHeartbeats 6400000 in
theorem step_idle {w : World} {base R G : Nat} {pw sc : Nat → Nat} {bare : Bool} {K : Nat → Prop} {m : Rm} (h : Room base R G pw sc bare K m w) (hi : RmI bare m) (x : RStep) (h1 : x.do_ ≠ 1) (h2 : x.do_ ≠ 2) (h3 : x.do_ ≠ 3) (h4 : x.do_ ≠ 4) (h5 : x.do_ ≠ 5) {k : Nat} (hk : k < 4) (hxw : x.w = k) {r : Wr} {ts : List (List Ch)} (he : m.p k = some (r, ts)) :
    Calls Try.prog 20 #[.pointer (some ⟨R, 0, none⟩), rsV x] w fun e w' => e = .returned (.tuple #[.bool true, .bool false]) ∧ RStepped w base R G bare K m w' := by
  have HI : Hid (RIn w base R G pw sc bare K m x [] (w.alloc (.cells (rsCells x) 28))) := rin_start h x
  have HM : Hid (RmI bare m) := hi
  obtain ⟨do_, w_, at_, many, text⟩ := x
  have hk0 : wrB (k : Int) = true := by simp [wrB]; omega
  obtain rfl : w_ = (k : Int) := hxw
  have hk4 : (k : Int) < 4 := by omega
  have HP : Hid (m.p k = some (r, ts)) := he
  have HS : Hid (m.s k = some r) := by show m.s k = _; rw [HM.out.both k hk, he]; rfl
  have hps : (m.p k).isSome = true := by rw [he]; rfl
  have hss : (m.s k).isSome = true := by rw [HS.out]; rfl
  have d1 : ¬ do_ = 1 := h1
  have d2 : ¬ do_ = 2 := h2
  have d3 : ¬ do_ = 3 := h3
  have d4 : ¬ do_ = 4 := h4
  have d5 : ¬ do_ = 5 := h5
  clear h hi he h1 h2 h3 h4 h5
  go_enter Try.func20, Try.ntmps20
  go_wp2_with (go_at_call 15; refine (isWriter_any _ _).mono ?_; rintro e w6 ⟨rfl, hw6⟩; rw [hk0, hw6]; clear hw6 w6)
  generalize World.alloc _ _ = w5 at *
  have c0 := HI.out.step.c0
  have c1 := HI.out.step.c1
  have c2 := HI.out.step.c2
  have c3 := HI.out.step.c3
  have c4 := HI.out.step.c4
  simp only [Nat.zero_add] at c0 c1 c2 c3 c4
  have g0 := HI.out.room.cells.log
  have g1 := HI.out.room.cells.wr k hk
  have g2 := HI.out.room.cells.sc k hk
  simp only [hps, hss, ptrOf, if_true] at g1 g2
  go_quiet (fail)
  have HI6 : Hid (RIn w base R G pw sc bare K m ⟨do_, k, at_, many, text⟩ [] (w5.drewN nq)) := HI.out.after (below_drewN (Below.refl _ _) nq)
  go_wp2
  all_goals
    go_ret2
    exact ⟨rfl, HI6.out.done⟩

set_option maxRecDepth 20000 in
set_option maxHeartbeats 1600000 in
theorem step_away {w : World} {base R G : Nat} {pw sc : Nat → Nat} {bare : Bool} {K : Nat → Prop} {m : Rm} (h : Room base R G pw sc bare K m w) (x : RStep) (hx : wrB x.w = false) :
    Calls Try.prog 20 #[.pointer (some ⟨R, 0, none⟩), rsV x] w fun e w' => e = .returned (.tuple #[.bool true, .bool false]) ∧ RStepped w base R G bare K m w' := by
  have HI : Hid (RIn w base R G pw sc bare K m x [] (w.alloc (.cells (rsCells x) 28))) := rin_start h x
  obtain ⟨do_, w_, at_, many, text⟩ := x
  have hk0 : wrB w_ = false := hx
  clear h
  go_enter Try.func20, Try.ntmps20
  go_wp2_with (go_at_call 15; refine (isWriter_any _ _).mono ?_; rintro e w6 ⟨rfl, hw6⟩; rw [hk0, hw6]; clear hw6 w6)
  go_ret2
  exact ⟨rfl, HI.out.done⟩

set_option maxRecDepth 20000 in
set_option maxHeartbeats 6400000 in
theorem step0 {w : World} {base R G : Nat} {pw sc : Nat → Nat} {bare : Bool} {K : Nat → Prop} {m : Rm} (h : Room base R G pw sc bare K m w) (hi : RmI bare m) (x : RStep) (hd : x.do_ = 0) {k : Nat} (hk : k < 4) (hxw : x.w = k) (he : m.p k = none) (hjc : joinC m.b k = 0) :
    Calls Try.prog 20 #[.pointer (some ⟨R, 0, none⟩), rsV x] w fun e w' => e = .returned (.tuple #[.bool true, .bool false]) ∧ RStepped w base R G bare K (joinM m k) w' := by
  have HSM : Hid ((m.b.ds.length : Int) ≤ 120) := by show (m.b.ds.length : Int) ≤ 120; have := hi.good.small; omega
  have HLE : Hid (m.b.chars.length ≤ 200) := small_chars
  have HCK : Hid (∀ r, CheckIs m.b.chars (m.b.ds.length : Int) r → r = 0) := good_check hi.good
  have HOP : Hid ((m.b.chars.any fun x => decide (x.inn = openN)) = false) := good_open hi.good
  have HN1 : Hid (1 ≤ m.b.last k + 1) := by show 1 ≤ m.b.last k + 1; have := lastAt_bound hi.good k; omega
  have HI : Hid (RIn w base R G pw sc bare K m x [] (w.alloc (.cells (rsCells x) 28))) := rin_start h x
  have HM : Hid (RmI bare m) := hi
  obtain ⟨do_, w_, at_, many, text⟩ := x
  have hk0 : wrB (k : Int) = true := by simp [wrB]; omega
  obtain rfl : w_ = (k : Int) := hxw
  have hk4 : (k : Int) < 4 := by omega
  have HP : Hid (m.p k = none) := he
  have HS : Hid (m.s k = none) := by show m.s k = _; rw [HM.out.both k hk, he]; rfl
  have hps : (m.p k).isSome = false := by rw [he]; rfl
  have hss : (m.s k).isSome = false := by rw [HS.out]; rfl
  obtain rfl : do_ = 0 := hd
  have HJC : Hid (joinC m.b k = 0) := hjc
  clear h hi he hjc
  go_enter Try.func20, Try.ntmps20
  go_wp2_with (go_at_call 15; refine (isWriter_any _ _).mono ?_; rintro e w6 ⟨rfl, hw6⟩; rw [hk0, hw6]; clear hw6 w6)
  generalize World.alloc _ _ = w5 at *
  have c0 := HI.out.step.c0
  have c1 := HI.out.step.c1
  have c2 := HI.out.step.c2
  have c3 := HI.out.step.c3
  have c4 := HI.out.step.c4
  simp only [Nat.zero_add] at c0 c1 c2 c3 c4
  have g0 := HI.out.room.cells.log
  have g1 := HI.out.room.cells.wr k hk
  have g2 := HI.out.room.cells.sc k hk
  simp only [hps, hss, ptrOf, Bool.false_eq_true, if_false] at g1 g2
  go_quiet (fail)
  go_wp2_with fail
  have HIk : Hid (RIn w base R G pw sc bare K m ⟨0, k, at_, many, text⟩ [] (w5.drewN nq)) := HI.out.after (below_drewN (Below.refl _ _) nq)
  generalize w5.drewN nq = w6 at *
  clear HI c0 c1 c2 c3 c4 g0 g1 g2
  refine wp_region_stage (fun wk => RAny w base R G bare K ⟨0, k, at_, many, text⟩ [] wk) (fun i => i == 6) (fun wk => RIn w base R G pw sc bare K m ⟨0, k, at_, many, text⟩ [] wk) (by kernel_rfl) (by kernel_rfl) (by kernel_rfl) (fun _ h => h.any) (HIk.out.after (Below.refl _ _).drew) ?_
  refine wpStage_big (some 61) w rfl (.pointer (some ⟨R, 0, none⟩)) rfl (by kernel_rfl) (fun wk hwk => ?_) ?_
  · generalize hA : Act.eval _ = ρ
    have s0 : ρ (.tmp 0) = .pointer (some ⟨R, 0, none⟩) := by rw [← hA]; kernel_rfl
    clear hA
    go_simp
  go_big_quiet_op
  refine wpStage_big (some 62) w rfl (.pointer (some ⟨R, 0, none⟩)) rfl (by kernel_rfl) (fun wk hwk => ?_) ?_
  · generalize hA : Act.eval _ = ρ
    have s61 : ρ (.tmp 61) = .pointer (some ⟨R, 0, none⟩) := by rw [← hA]; kernel_rfl
    clear hA
    go_simp
  go_big_quiet_op
  refine wpStage_big (some 63) w rfl (.pointer (some ⟨R, 0, none⟩)) rfl (by kernel_rfl) (fun wk hwk => ?_) ?_
  · generalize hA : Act.eval _ = ρ
    have s62 : ρ (.tmp 62) = .pointer (some ⟨R, 0, none⟩) := by rw [← hA]; kernel_rfl
    clear hA
    go_simp
  go_big_quiet_op
  refine wpStage_big (some 64) w rfl (.pointer (some ⟨G, 0, none⟩)) rfl (by kernel_rfl) (fun wk hwk => ?_) ?_
  · generalize hA : Act.eval _ = ρ
    have s63 : ρ (.tmp 63) = .pointer (some ⟨R, 0, none⟩) := by rw [← hA]; kernel_rfl
    clear hA
    have g0 := hwk.log
    go_simp
  go_big_quiet_op
  refine wpStage_big (some 65) w rfl (.pointer (some ⟨w.heap.size, 1, none⟩)) rfl (by kernel_rfl) (fun wk hwk => ?_) ?_
  · generalize hA : Act.eval _ = ρ
    have s3 : ρ (.tmp 3) = .pointer (some ⟨w.heap.size, 0, none⟩) := by rw [← hA]; kernel_rfl
    clear hA
    go_simp
  go_big_quiet_op
  refine wpStage_big (some 66) w rfl (.int .i64 (k : Int)) rfl (by kernel_rfl) (fun wk hwk => ?_) ?_
  · generalize hA : Act.eval _ = ρ
    have s65 : ρ (.tmp 65) = .pointer (some ⟨w.heap.size, 1, none⟩) := by rw [← hA]; kernel_rfl
    clear hA
    have c1 := hwk.step.c1
    simp only [Nat.zero_add] at c1
    go_simp
  go_big_quiet_op
  refine wpStage_bigSpine (some 67) w rfl rfl rfl (fun u => u = .tuple #[.int .i64 (m.b.last k + 1), .int .i64 0]) (fun u wk => RIn w base R G pw sc bare K ⟨joinB m.b k, m.p, m.s⟩ ⟨0, k, at_, many, text⟩ [] wk) (⟨_, rfl⟩) (fun _ _ h => h.any) (fun wk hwk => ?_) (fun u9 hu9 => ?_)
  · generalize hA : Act.eval _ = ρ
    have s64 : ρ (.tmp 64) = .pointer (some ⟨G, 0, none⟩) := by rw [← hA]; kernel_rfl
    have s66 : ρ (.tmp 66) = .int .i64 (k : Int) := by rw [← hA]; kernel_rfl
    have sf : ρ (.func 48) = .func (.func 48) #[] #[] := by rw [← hA]; kernel_rfl
    clear hA
    go_simp
    obtain ⟨S, dv, lv, hl, hs⟩ := hwk.log
    refine (join_lg hl HM.out.good k).mono ?_
    rintro e w7 ⟨rfl, hto⟩
    exact ⟨_, rfl, by rw [joinN, if_pos HJC.out, HJC.out], hs _ _ hto⟩
  subst hu9
  go_big_quiet_op
  refine wpStage_big (some 60) w rfl (.tuple #[.int .i64 (m.b.last k + 1), .int .i64 0]) rfl (by kernel_rfl) (fun wk hwk => ?_) ?_
  · generalize hA : Act.eval _ = ρ
    have s67 : ρ (.tmp 67) = .tuple #[.int .i64 (m.b.last k + 1), .int .i64 0] := by rw [← hA]; kernel_rfl
    clear hA
    go_simp
  go_big_quiet_op
  refine wpStage_big (some 68) w rfl (.int .i64 (m.b.last k + 1)) rfl (by kernel_rfl) (fun wk hwk => ?_) ?_
  · generalize hA : Act.eval _ = ρ
    have s60 : ρ (.tmp 60) = .tuple #[.int .i64 (m.b.last k + 1), .int .i64 0] := by rw [← hA]; kernel_rfl
    clear hA
    go_simp
  go_big_quiet_op
  refine wpStage_big (some 69) w rfl (.int .i64 0) rfl (by kernel_rfl) (fun wk hwk => ?_) ?_
  · generalize hA : Act.eval _ = ρ
    have s60 : ρ (.tmp 60) = .tuple #[.int .i64 (m.b.last k + 1), .int .i64 0] := by rw [← hA]; kernel_rfl
    clear hA
    go_simp
  go_big_quiet_op
  refine wpStage_big (some 8) w rfl (.int .i64 (m.b.last k + 1)) rfl (by kernel_rfl) (fun wk hwk => ?_) ?_
  · generalize hA : Act.eval _ = ρ
    have s68 : ρ (.tmp 68) = .int .i64 (m.b.last k + 1) := by rw [← hA]; kernel_rfl
    clear hA
    go_simp
  go_big_quiet_op
  refine wpStage_big (some 9) w rfl (.int .i64 0) rfl (by kernel_rfl) (fun wk hwk => ?_) ?_
  · generalize hA : Act.eval _ = ρ
    have s69 : ρ (.tmp 69) = .int .i64 0 := by rw [← hA]; kernel_rfl
    clear hA
    go_simp
  go_big_quiet_op
  refine wpStage_nil (fun w7 hw7 => ?_)
  have H7 : Hid (RIn w base R G pw sc bare K ⟨joinB m.b k, m.p, m.s⟩ ⟨0, k, at_, many, text⟩ [] w7) := hw7
  clear hw7 HIk
  have g0 := H7.out.room.cells.log
  go_wp2_with fail
  obtain ⟨S, dv, lv, hl, _⟩ := H7.out.log
  refine (chars_lg hl).mono ?_
  rintro e w8 ⟨v8, rfl, hown, hb⟩
  rw [show (Rm.b (⟨joinB m.b k, m.p, m.s⟩ : Rm)).chars = m.b.chars from joinB_chars _ _] at hown
  have HL : Hid (JL w base R G pw sc bare K (⟨joinB m.b k, m.p, m.s⟩ : Rm) ⟨0, k, at_, many, text⟩ w7.heap.size v8 m.b.chars w8) := ⟨H7.out.after hb, hown, H7.out.room.cells.lt⟩
  clear hown hb hl H7 g0
  generalize w7.heap.size = b0 at *
  go_wp2_with fail
  refine wp_region_stage (fun wk => RAny w base R G bare K ⟨0, k, at_, many, text⟩ [] wk) (fun i => i == 10 || i == 12 || i == 16) (fun wk => JL w base R G pw sc bare K ⟨joinB m.b k, m.p, m.s⟩ ⟨0, k, at_, many, text⟩ b0 v8 m.b.chars wk) (by kernel_rfl) (by kernel_rfl) (by kernel_rfl) (fun _ h => h.ri.any) (HL.out.after (Below.refl _ _).drew) ?_
  refine wpStage_big (some 77) w rfl (.pointer (some ⟨R, 0, none⟩)) rfl (by kernel_rfl) (fun wk hwk => ?_) ?_
  · generalize hA : Act.eval _ = ρ
    have s0 : ρ (.tmp 0) = .pointer (some ⟨R, 0, none⟩) := by rw [← hA]; kernel_rfl
    clear hA
    go_simp
  go_big_quiet_op
  refine wpStage_big (some 78) w rfl (.pointer (some ⟨w.heap.size, 1, none⟩)) rfl (by kernel_rfl) (fun wk hwk => ?_) ?_
  · generalize hA : Act.eval _ = ρ
    have s3 : ρ (.tmp 3) = .pointer (some ⟨w.heap.size, 0, none⟩) := by rw [← hA]; kernel_rfl
    clear hA
    go_simp
  go_big_quiet_op
  refine wpStage_big (some 79) w rfl (.int .i64 (k : Int)) rfl (by kernel_rfl) (fun wk hwk => ?_) ?_
  · generalize hA : Act.eval _ = ρ
    have s78 : ρ (.tmp 78) = .pointer (some ⟨w.heap.size, 1, none⟩) := by rw [← hA]; kernel_rfl
    clear hA
    have c1 := hwk.step.c1
    simp only [Nat.zero_add] at c1
    go_simp
  go_big_quiet_op
  refine wpStage_big (some 80) w rfl (.pointer (some ⟨w.heap.size, 1, none⟩)) rfl (by kernel_rfl) (fun wk hwk => ?_) ?_
  · generalize hA : Act.eval _ = ρ
    have s3 : ρ (.tmp 3) = .pointer (some ⟨w.heap.size, 0, none⟩) := by rw [← hA]; kernel_rfl
    clear hA
    go_simp
  go_big_quiet_op
  refine wpStage_big (some 81) w rfl (.int .i64 (k : Int)) rfl (by kernel_rfl) (fun wk hwk => ?_) ?_
  · generalize hA : Act.eval _ = ρ
    have s80 : ρ (.tmp 80) = .pointer (some ⟨w.heap.size, 1, none⟩) := by rw [← hA]; kernel_rfl
    clear hA
    have c1 := hwk.step.c1
    simp only [Nat.zero_add] at c1
    go_simp
  go_big_quiet_op
  refine wpStage_big (some 82) w rfl (.int .i64 (m.b.last k + 1)) rfl (by kernel_rfl) (fun wk hwk => ?_) ?_
  · generalize hA : Act.eval _ = ρ
    have s8 : ρ (.tmp 8) = .int .i64 (m.b.last k + 1) := by rw [← hA]; kernel_rfl
    clear hA
    go_simp
  go_big_quiet_op
  refine wpStage_big (some 83) w rfl (.pointer (some ⟨R, 0, none⟩)) rfl (by kernel_rfl) (fun wk hwk => ?_) ?_
  · generalize hA : Act.eval _ = ρ
    have s0 : ρ (.tmp 0) = .pointer (some ⟨R, 0, none⟩) := by rw [← hA]; kernel_rfl
    clear hA
    go_simp
  go_big_quiet_op
  refine wpStage_big (some 84) w rfl (.pointer (some ⟨R, 0, none⟩)) rfl (by kernel_rfl) (fun wk hwk => ?_) ?_
  · generalize hA : Act.eval _ = ρ
    have s83 : ρ (.tmp 83) = .pointer (some ⟨R, 0, none⟩) := by rw [← hA]; kernel_rfl
    clear hA
    go_simp
  go_big_quiet_op
  refine wpStage_big (some 85) w rfl (.pointer (some ⟨R, 0, none⟩)) rfl (by kernel_rfl) (fun wk hwk => ?_) ?_
  · generalize hA : Act.eval _ = ρ
    have s84 : ρ (.tmp 84) = .pointer (some ⟨R, 0, none⟩) := by rw [← hA]; kernel_rfl
    clear hA
    go_simp
  go_big_quiet_op
  refine wpStage_big (some 86) w rfl (.pointer (some ⟨G, 0, none⟩)) rfl (by kernel_rfl) (fun wk hwk => ?_) ?_
  · generalize hA : Act.eval _ = ρ
    have s85 : ρ (.tmp 85) = .pointer (some ⟨R, 0, none⟩) := by rw [← hA]; kernel_rfl
    clear hA
    have g0 := hwk.log
    go_simp
  go_big_quiet_op
  refine wpStage_bigSpine (some 87) w rfl rfl rfl (fun u => u = .int .i64 ((m.b.ds.length : Int))) (fun u wk => JL w base R G pw sc bare K ⟨joinB m.b k, m.p, m.s⟩ ⟨0, k, at_, many, text⟩ b0 v8 m.b.chars wk) (⟨_, rfl⟩) (fun _ _ h => h.ri.any) (fun wk hwk => ?_) (fun u10 hu10 => ?_)
  · generalize hA : Act.eval _ = ρ
    have s86 : ρ (.tmp 86) = .pointer (some ⟨G, 0, none⟩) := by rw [← hA]; kernel_rfl
    have sf : ρ (.func 22) = .func (.func 22) #[] #[] := by rw [← hA]; kernel_rfl
    clear hA
    go_simp
    obtain ⟨S, dv, lv, hl, _⟩ := hwk.ri.log
    refine (len_lg hl).mono ?_
    rintro e w7 ⟨rfl, rfl⟩
    exact ⟨_, rfl, by rw [show (Rm.b (⟨joinB m.b k, m.p, m.s⟩ : Rm)).ds = m.b.ds from joinB_ds _ _], hwk⟩
  subst hu10
  go_big_quiet_op
  refine wpStage_big (some 88) w rfl (v8) rfl (by kernel_rfl) (fun wk hwk => ?_) ?_
  · generalize hA : Act.eval _ = ρ
    have s10 : ρ (.tmp 10) = v8 := by rw [← hA]; kernel_rfl
    clear hA
    go_simp
  go_big_quiet_op
  refine wpStage_bigSpine (some 89) w rfl rfl rfl (fun u => ∃ P, u = .pointer (some ⟨P, 0, none⟩)) (fun u wk => NW w base R G pw sc bare K ⟨joinB m.b k, m.p, m.s⟩ ⟨0, k, at_, many, text⟩ b0 v8 m.b.chars ⟨k, m.b.ds.length, m.b.last k + 1, m.b.chars, [], 0⟩ u wk) (⟨.pointer (some ⟨0, 0, none⟩), 0, rfl⟩) (fun _ _ h => h.jl.ri.any) (fun wk hwk => ?_) (fun u12 hu12 => ?_)
  · generalize hA : Act.eval _ = ρ
    have s81 : ρ (.tmp 81) = .int .i64 (k : Int) := by rw [← hA]; kernel_rfl
    have s82 : ρ (.tmp 82) = .int .i64 (m.b.last k + 1) := by rw [← hA]; kernel_rfl
    have s87 : ρ (.tmp 87) = .int .i64 ((m.b.ds.length : Int)) := by rw [← hA]; kernel_rfl
    have s88 : ρ (.tmp 88) = v8 := by rw [← hA]; kernel_rfl
    have sf : ρ (.func 43) = .func (.func 43) #[] #[] := by rw [← hA]; kernel_rfl
    clear hA
    go_simp
    refine (new_pw hwk.own.lst (by have := HLE.out; omega) k (m.b.last k + 1) m.b.ds.length hk0 HN1.out (by omega) HSM.out HCK.out HOP.out).mono ?_
    rintro e w7 ⟨P, v1, rfl, hat, hb⟩
    exact ⟨_, rfl, ⟨P, rfl⟩, hwk.after hb, P, wk, v1, rfl, hwk.ri, hb, hat⟩
  obtain ⟨P1, rfl⟩ := hu12
  go_big_quiet_op
  refine wpStage_big (some 90) w rfl (.pointer (some ⟨R, 0, none⟩)) rfl (by kernel_rfl) (fun wk hwk => ?_) ?_
  · generalize hA : Act.eval _ = ρ
    have s77 : ρ (.tmp 77) = .pointer (some ⟨R, 0, none⟩) := by rw [← hA]; kernel_rfl
    clear hA
    go_simp
  go_big_quiet_op
  refine wpStage_big (some 91) w rfl (.pointer (some ⟨R, 1, none⟩)) rfl (by kernel_rfl) (fun wk hwk => ?_) ?_
  · generalize hA : Act.eval _ = ρ
    have s90 : ρ (.tmp 90) = .pointer (some ⟨R, 0, none⟩) := by rw [← hA]; kernel_rfl
    clear hA
    go_simp
  go_big_quiet_op
  refine wpStage_big (some 92) w rfl (.pointer (some ⟨R, 1 + k, none⟩)) rfl (by kernel_rfl) (fun wk hwk => ?_) ?_
  · generalize hA : Act.eval _ = ρ
    have s91 : ρ (.tmp 91) = .pointer (some ⟨R, 1, none⟩) := by rw [← hA]; kernel_rfl
    have s79 : ρ (.tmp 79) = .int .i64 (k : Int) := by rw [← hA]; kernel_rfl
    clear hA
    go_simp
  go_big_quiet_op
  refine wpStage_bigStore rfl rfl rfl (fun wk => JL w base R G (setN pw k P1) sc bare K ⟨joinB m.b k, setP m.p k (some (⟨k, m.b.ds.length, m.b.last k + 1, m.b.chars, [], 0⟩, [])), m.s⟩ ⟨0, k, at_, many, text⟩ b0 v8 m.b.chars wk) (fun _ h => h.ri.any) (fun wk hwk => ?_) ?_
  · generalize hA : Act.eval _ = ρ
    have s92 : ρ (.tmp 92) = .pointer (some ⟨R, 1 + k, none⟩) := by rw [← hA]; kernel_rfl
    have s89 : ρ (.tmp 89) = .pointer (some ⟨P1, 0, none⟩) := by rw [← hA]; kernel_rfl
    clear hA
    have hq := hwk.seat hk rfl rfl HP.out
    have cc := hwk.jl.ri.room.cells.wr k hk
    have ff := hwk.jl.ri.room.cells.free (1 + k) (by omega)
    have hlt := hwk.jl.ri.room.cells.lt
    go_simp
    exact hq
  refine wpStage_nil (fun w77 hw77 => ?_)
  have H77 : Hid (JL w base R G (setN pw k P1) sc bare K ⟨joinB m.b k, setP m.p k (some (⟨k, m.b.ds.length, m.b.last k + 1, m.b.chars, [], 0⟩, [])), m.s⟩ ⟨0, k, at_, many, text⟩ b0 v8 m.b.chars w77) := hw77
  clear hw77
  clear HL
  go_wp2_with fail
  refine wp_region_stage (fun wk => RAny w base R G bare K ⟨0, k, at_, many, text⟩ [] wk) (fun i => i == 10 || i == 12 || i == 16) (fun wk => JL w base R G (setN pw k P1) sc bare K ⟨joinB m.b k, setP m.p k (some (⟨k, m.b.ds.length, m.b.last k + 1, m.b.chars, [], 0⟩, [])), m.s⟩ ⟨0, k, at_, many, text⟩ b0 v8 m.b.chars wk) (by kernel_rfl) (by kernel_rfl) (by kernel_rfl) (fun _ h => h.ri.any) (H77.out.after (Below.refl _ _).drew) ?_
  refine wpStage_big (some 93) w rfl (.pointer (some ⟨R, 0, none⟩)) rfl (by kernel_rfl) (fun wk hwk => ?_) ?_
  · generalize hA : Act.eval _ = ρ
    have s0 : ρ (.tmp 0) = .pointer (some ⟨R, 0, none⟩) := by rw [← hA]; kernel_rfl
    clear hA
    go_simp
  go_big_quiet_op
  refine wpStage_big (some 94) w rfl (.pointer (some ⟨w.heap.size, 1, none⟩)) rfl (by kernel_rfl) (fun wk hwk => ?_) ?_
  · generalize hA : Act.eval _ = ρ
    have s3 : ρ (.tmp 3) = .pointer (some ⟨w.heap.size, 0, none⟩) := by rw [← hA]; kernel_rfl
    clear hA
    go_simp
  go_big_quiet_op
  refine wpStage_big (some 95) w rfl (.int .i64 (k : Int)) rfl (by kernel_rfl) (fun wk hwk => ?_) ?_
  · generalize hA : Act.eval _ = ρ
    have s94 : ρ (.tmp 94) = .pointer (some ⟨w.heap.size, 1, none⟩) := by rw [← hA]; kernel_rfl
    clear hA
    have c1 := hwk.step.c1
    simp only [Nat.zero_add] at c1
    go_simp
  go_big_quiet_op
  refine wpStage_big (some 96) w rfl (.pointer (some ⟨w.heap.size, 1, none⟩)) rfl (by kernel_rfl) (fun wk hwk => ?_) ?_
  · generalize hA : Act.eval _ = ρ
    have s3 : ρ (.tmp 3) = .pointer (some ⟨w.heap.size, 0, none⟩) := by rw [← hA]; kernel_rfl
    clear hA
    go_simp
  go_big_quiet_op
  refine wpStage_big (some 97) w rfl (.int .i64 (k : Int)) rfl (by kernel_rfl) (fun wk hwk => ?_) ?_
  · generalize hA : Act.eval _ = ρ
    have s96 : ρ (.tmp 96) = .pointer (some ⟨w.heap.size, 1, none⟩) := by rw [← hA]; kernel_rfl
    clear hA
    have c1 := hwk.step.c1
    simp only [Nat.zero_add] at c1
    go_simp
  go_big_quiet_op
  refine wpStage_big (some 98) w rfl (.int .i64 (m.b.last k + 1)) rfl (by kernel_rfl) (fun wk hwk => ?_) ?_
  · generalize hA : Act.eval _ = ρ
    have s8 : ρ (.tmp 8) = .int .i64 (m.b.last k + 1) := by rw [← hA]; kernel_rfl
    clear hA
    go_simp
  go_big_quiet_op
  refine wpStage_big (some 99) w rfl (.pointer (some ⟨R, 0, none⟩)) rfl (by kernel_rfl) (fun wk hwk => ?_) ?_
  · generalize hA : Act.eval _ = ρ
    have s0 : ρ (.tmp 0) = .pointer (some ⟨R, 0, none⟩) := by rw [← hA]; kernel_rfl
    clear hA
    go_simp
  go_big_quiet_op
  refine wpStage_big (some 100) w rfl (.pointer (some ⟨R, 0, none⟩)) rfl (by kernel_rfl) (fun wk hwk => ?_) ?_
  · generalize hA : Act.eval _ = ρ
    have s99 : ρ (.tmp 99) = .pointer (some ⟨R, 0, none⟩) := by rw [← hA]; kernel_rfl
    clear hA
    go_simp
  go_big_quiet_op
  refine wpStage_big (some 101) w rfl (.pointer (some ⟨R, 0, none⟩)) rfl (by kernel_rfl) (fun wk hwk => ?_) ?_
  · generalize hA : Act.eval _ = ρ
    have s100 : ρ (.tmp 100) = .pointer (some ⟨R, 0, none⟩) := by rw [← hA]; kernel_rfl
    clear hA
    go_simp
  go_big_quiet_op
  refine wpStage_big (some 102) w rfl (.pointer (some ⟨G, 0, none⟩)) rfl (by kernel_rfl) (fun wk hwk => ?_) ?_
  · generalize hA : Act.eval _ = ρ
    have s101 : ρ (.tmp 101) = .pointer (some ⟨R, 0, none⟩) := by rw [← hA]; kernel_rfl
    clear hA
    have g0 := hwk.log
    go_simp
  go_big_quiet_op
  refine wpStage_bigSpine (some 103) w rfl rfl rfl (fun u => u = .int .i64 ((m.b.ds.length : Int))) (fun u wk => JL w base R G (setN pw k P1) sc bare K ⟨joinB m.b k, setP m.p k (some (⟨k, m.b.ds.length, m.b.last k + 1, m.b.chars, [], 0⟩, [])), m.s⟩ ⟨0, k, at_, many, text⟩ b0 v8 m.b.chars wk) (⟨_, rfl⟩) (fun _ _ h => h.ri.any) (fun wk hwk => ?_) (fun u10 hu10 => ?_)
  · generalize hA : Act.eval _ = ρ
    have s102 : ρ (.tmp 102) = .pointer (some ⟨G, 0, none⟩) := by rw [← hA]; kernel_rfl
    have sf : ρ (.func 22) = .func (.func 22) #[] #[] := by rw [← hA]; kernel_rfl
    clear hA
    go_simp
    obtain ⟨S, dv, lv, hl, _⟩ := hwk.ri.log
    refine (len_lg hl).mono ?_
    rintro e w7 ⟨rfl, rfl⟩
    exact ⟨_, rfl, by rw [show (Rm.b (⟨joinB m.b k, setP m.p k (some (⟨k, m.b.ds.length, m.b.last k + 1, m.b.chars, [], 0⟩, [])), m.s⟩ : Rm)).ds = m.b.ds from joinB_ds _ _], hwk⟩
  subst hu10
  go_big_quiet_op
  refine wpStage_big (some 104) w rfl (v8) rfl (by kernel_rfl) (fun wk hwk => ?_) ?_
  · generalize hA : Act.eval _ = ρ
    have s10 : ρ (.tmp 10) = v8 := by rw [← hA]; kernel_rfl
    clear hA
    go_simp
  go_big_quiet_op
  refine wpStage_bigSpine (some 105) w rfl rfl rfl (fun u => ∃ P, u = .pointer (some ⟨P, 0, none⟩)) (fun u wk => NS w base R G (setN pw k P1) sc bare K ⟨joinB m.b k, setP m.p k (some (⟨k, m.b.ds.length, m.b.last k + 1, m.b.chars, [], 0⟩, [])), m.s⟩ ⟨0, k, at_, many, text⟩ b0 v8 m.b.chars ⟨k, m.b.ds.length, m.b.last k + 1, m.b.chars, [], 0⟩ u wk) (⟨.pointer (some ⟨0, 0, none⟩), 0, rfl⟩) (fun _ _ h => h.jl.ri.any) (fun wk hwk => ?_) (fun u12 hu12 => ?_)
  · generalize hA : Act.eval _ = ρ
    have s97 : ρ (.tmp 97) = .int .i64 (k : Int) := by rw [← hA]; kernel_rfl
    have s98 : ρ (.tmp 98) = .int .i64 (m.b.last k + 1) := by rw [← hA]; kernel_rfl
    have s103 : ρ (.tmp 103) = .int .i64 ((m.b.ds.length : Int)) := by rw [← hA]; kernel_rfl
    have s104 : ρ (.tmp 104) = v8 := by rw [← hA]; kernel_rfl
    have sf : ρ (.func 50) = .func (.func 50) #[] #[] := by rw [← hA]; kernel_rfl
    clear hA
    go_simp
    refine (new_sc hwk.own.lst (by have := HLE.out; omega) k (m.b.last k + 1) m.b.ds.length).mono ?_
    rintro e w7 ⟨P, v1, rfl, hat, hb⟩
    exact ⟨_, rfl, ⟨P, rfl⟩, hwk.after hb, P, wk, v1, rfl, hwk.ri, hb, hat⟩
  obtain ⟨P5, rfl⟩ := hu12
  go_big_quiet_op
  refine wpStage_big (some 106) w rfl (.pointer (some ⟨R, 0, none⟩)) rfl (by kernel_rfl) (fun wk hwk => ?_) ?_
  · generalize hA : Act.eval _ = ρ
    have s93 : ρ (.tmp 93) = .pointer (some ⟨R, 0, none⟩) := by rw [← hA]; kernel_rfl
    clear hA
    go_simp
  go_big_quiet_op
  refine wpStage_big (some 107) w rfl (.pointer (some ⟨R, 5, none⟩)) rfl (by kernel_rfl) (fun wk hwk => ?_) ?_
  · generalize hA : Act.eval _ = ρ
    have s106 : ρ (.tmp 106) = .pointer (some ⟨R, 0, none⟩) := by rw [← hA]; kernel_rfl
    clear hA
    go_simp
  go_big_quiet_op
  refine wpStage_big (some 108) w rfl (.pointer (some ⟨R, 5 + k, none⟩)) rfl (by kernel_rfl) (fun wk hwk => ?_) ?_
  · generalize hA : Act.eval _ = ρ
    have s107 : ρ (.tmp 107) = .pointer (some ⟨R, 5, none⟩) := by rw [← hA]; kernel_rfl
    have s95 : ρ (.tmp 95) = .int .i64 (k : Int) := by rw [← hA]; kernel_rfl
    clear hA
    go_simp
  go_big_quiet_op
  refine wpStage_bigStore rfl rfl rfl (fun wk => RIn w base R G (setN pw k P1) (setN sc k P5) bare K ⟨joinB m.b k, setP m.p k (some (⟨k, m.b.ds.length, m.b.last k + 1, m.b.chars, [], 0⟩, [])), setP m.s k (some ⟨k, m.b.ds.length, m.b.last k + 1, m.b.chars, [], 0⟩)⟩ ⟨0, k, at_, many, text⟩ [] wk) (fun _ h => h.any) (fun wk hwk => ?_) ?_
  · generalize hA : Act.eval _ = ρ
    have s108 : ρ (.tmp 108) = .pointer (some ⟨R, 5 + k, none⟩) := by rw [← hA]; kernel_rfl
    have s105 : ρ (.tmp 105) = .pointer (some ⟨P5, 0, none⟩) := by rw [← hA]; kernel_rfl
    clear hA
    have hq := hwk.seat hk rfl rfl HS.out
    have cc := hwk.jl.ri.room.cells.sc k hk
    have ff := hwk.jl.ri.room.cells.free (5 + k) (by omega)
    have hlt := hwk.jl.ri.room.cells.lt
    go_simp
    exact hq
  refine wpStage_nil (fun w93 hw93 => ?_)
  have H93 : Hid (RIn w base R G (setN pw k P1) (setN sc k P5) bare K ⟨joinB m.b k, setP m.p k (some (⟨k, m.b.ds.length, m.b.last k + 1, m.b.chars, [], 0⟩, [])), setP m.s k (some ⟨k, m.b.ds.length, m.b.last k + 1, m.b.chars, [], 0⟩)⟩ ⟨0, k, at_, many, text⟩ [] w93) := hw93
  clear hw93
  have hpp : (setP m.p k (some ((⟨k, m.b.ds.length, m.b.last k + 1, m.b.chars, [], 0⟩ : Wr), ([] : List (List Ch)))) k).isSome = true := by rw [setP_same]; rfl
  have c1 := H93.out.step.c1
  simp only [Nat.zero_add] at c1
  have g1 := H93.out.room.cells.wr k hk
  simp only [hpp, ptrOf, if_true] at g1
  go_wp2_with fail
  go_quiet (fail)
  have HI6 : Hid (RIn w base R G (setN pw k P1) (setN sc k P5) bare K ⟨joinB m.b k, setP m.p k (some (⟨k, m.b.ds.length, m.b.last k + 1, m.b.chars, [], 0⟩, [])), setP m.s k (some ⟨k, m.b.ds.length, m.b.last k + 1, m.b.chars, [], 0⟩)⟩ ⟨0, k, at_, many, text⟩ [] _) := H93.out.after (below_drewN (Below.refl _ _) nq)
  go_wp2
  go_ret2
  exact ⟨rfl, HI6.out.done⟩

end Go.Proofs.Ytfpemdbiplfkgac
