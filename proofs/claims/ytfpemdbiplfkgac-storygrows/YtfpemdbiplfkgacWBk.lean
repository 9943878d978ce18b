/-
  The law's own example of a writer (writerBegun); greatRoom; newRoom; steps in memory.
-/
import Derived.Test.YtfpemdbiplfkgacWHear0
import Derived.Test.YtfpemdbiplfkgacWOpen
namespace Go.Proofs.Ytfpemdbiplfkgac
open Go Go.RowKit

/-- One writer, and deeds in boxes of their own. -/
structure BW (w : World) (P : Nat) (l : List Ch) (es : List Dd) (ts : List (List Ch)) (next seen sent : Int) (bx : List (Nat × Dd)) (wk : World) : Prop where
  at_ : ∃ S lv ov tvs, PwAt wk w.heap.size S P lv ov tvs l es ts 1 next seen sent ∧ ∀ p ∈ bx, DdAt wk p.1 0 p.2 ∧ ¬ S p.1
  below : Below w.heap.size w wk

section
variable {w wk w' : World} {P : Nat} {l : List Ch} {es : List Dd} {ts : List (List Ch)} {next seen sent : Int} {bx : List (Nat × Dd)}

theorem BW.after (h : BW w P l es ts next seen sent bx wk) (hb : Below wk.heap.size wk w') : BW w P l es ts next seen sent bx w' := by
  obtain ⟨S, lv, ov, tvs, h1, h2⟩ := h.at_
  exact ⟨⟨S, lv, ov, tvs, h1.below hb, fun p hp => ⟨(h2 p hp).1.below hb, (h2 p hp).2⟩⟩, below_after h.below hb⟩

theorem BW.boxed (h : BW w P l es ts next seen sent bx wk) (d : Dd) : BW w P l es ts next seen sent ((wk.heap.size, d) :: bx) (wk.alloc (dObj d)) := by
  obtain ⟨S, lv, ov, tvs, h1, h2⟩ := h.at_
  have hb : Below wk.heap.size wk (wk.alloc (dObj d)) := below1 _ _
  refine ⟨⟨S, lv, ov, tvs, h1.below hb, fun p hp => ?_⟩, below_after h.below hb⟩
  rcases List.mem_cons.1 hp with rfl | hp
  · exact ⟨ddat_start wk d, fun e => by have := (h1.lo _ e).2; simp at this⟩
  · exact ⟨(h2 p hp).1.below hb, (h2 p hp).2⟩

theorem BW.get (h : BW w P l es ts next seen sent bx wk) : ∃ S lv ov tvs, PwAt wk w.heap.size S P lv ov tvs l es ts 1 next seen sent ∧ ∀ l' es' ts' next' seen' sent' w', PwTo wk w.heap.size S P l' es' ts' 1 next' seen' sent' w' → BW w P l' es' ts' next' seen' sent' bx w' := by
  obtain ⟨S, lv, ov, tvs, h1, h2⟩ := h.at_
  refine ⟨S, lv, ov, tvs, h1, fun l' es' ts' next' seen' sent' w' ht => ?_⟩
  obtain ⟨lv', ov', tvs', hat⟩ := ht.at_
  have hk := ht.kept
  refine ⟨⟨_, lv', ov', tvs', hat, fun p hp => ⟨?_, ?_⟩⟩, h.below.trans (hk.below (fun k e => (h1.lo k e).1) h1.base_le)⟩
  · have hd := (h2 p hp).1
    exact hd.of_block (Nat.lt_of_lt_of_le hd.lt hk.size) (hk.block _ hd.lt (h2 p hp).2)
  · have hd := (h2 p hp).1.lt
    rintro (e | e)
    · exact (h2 p hp).2 e
    · omega

theorem BW.deed (h : BW w P l es ts next seen sent bx wk) {p : Nat × Dd} (hp : p ∈ bx) : DdAt wk p.1 0 p.2 := by
  obtain ⟨S, lv, ov, tvs, h1, h2⟩ := h.at_
  exact (h2 p hp).1

end

def begDA : Dd := ⟨1, 1, 1, 0, 0, 0, ⟨#[97, 98]⟩⟩
def begDB : Dd := ⟨1, 2, 1, 0, 0, 0, ⟨#[99]⟩⟩
def begDC : Dd := ⟨2, 1, 2, 2, 1, 1, ⟨#[]⟩⟩
def begL1 : List Ch := doL [] begDA openN
def begL2 : List Ch := doL begL1 begDB 1
def begT : List Ch := tookL [] begDA
def begL3 : List Ch := begL2.map (ackF 1 2 begT)
def begL4 : List Ch := doL begL3 begDC openN

theorem begW1 : doC [] begDA openN = 0 := by decide +kernel
theorem begW2 : doC begL1 begDB ((0 : Int) + 1) = 0 := by decide +kernel
theorem begW3 : doC begL3 begDC openN = 0 := by decide +kernel
theorem begN1 : begL1.length ≤ 1000 := by decide +kernel
theorem begN2 : begL2.length ≤ 1000 := by decide +kernel
theorem begN3 : begL3.length ≤ 1000 := by decide +kernel
theorem begN4 : begL4.length ≤ 1000 := by decide +kernel
theorem begF1 : FitsL begL1 := by unfold FitsL; decide +kernel
theorem begF3 : FitsL begL3 := by unfold FitsL; decide +kernel
theorem begTx : strOfNums (vw begL4 2 1) = ⟨#[97, 99]⟩ := by decide +kernel
theorem begTl : ∀ u ∈ [begT], u.length ≤ 1000 := by decide +kernel

set_option maxRecDepth 20000 in
set_option maxHeartbeats 3200000 in
theorem wbegun_any (w : World) : Calls Try.prog 12 #[] w fun e w' => e = .returned (.bool true) ∧ Below w.heap.size w w' := by
  go_enter Try.func12, Try.ntmps12
  go_wp2_with fail
  refine (new_pw (lst_nil w) (by simp) 1 1 0 (by decide) (by omega) (by omega) (by omega) (fun r hr => ?_) rfl).mono ?_
  · rcases hr with ⟨h1, _⟩ | ⟨_, ⟨k, hk, _⟩ | ⟨_, h2⟩⟩
    · simp at h1
    · simp at hk
    · exact h2
  rintro e w1 ⟨P, v1, rfl, hat, hb⟩
  have HB1 : Hid (BW w P [] [] [] 1 0 0 [] w1) := ⟨⟨_, _, _, _, hat, fun p hp => by cases hp⟩, hb⟩
  clear hat hb
  go_wp2_with fail
  refine (new_none _ 4 1 0 (by decide)).mono ?_
  rintro e w2 ⟨rfl, rfl⟩
  go_wp2_with fail
  obtain ⟨S, lv, ov, tvs, hp, hs⟩ := HB1.out.get
  refine (put_yes hp (by simp) (fun x hx => by cases hx) (by simp) (by omega) 0 ⟨#[97, 98]⟩ begW1).mono ?_
  rintro e w3 ⟨rfl, hto⟩
  have HB3 : Hid (BW w P begL1 [begDA] [begT] 2 0 0 [] w3) := hs _ _ _ _ _ _ _ hto
  clear hto hs hp HB1
  go_upto_region 5 with fail
  have HB4 : Hid (BW w P begL1 [begDA] [begT] 2 0 0 [(w3.heap.size, begDA)] (w3.alloc (dObj begDA))) := HB3.out.boxed begDA
  rw [show w3.alloc (.cells #[.int .i64 1, .int .i64 1, .int .i64 1, .int .i64 0, .int .i64 0, .int .i64 0, .string ⟨#[97, 98]⟩] 39) = w3.alloc (dObj begDA) from rfl]
  generalize w3.alloc (dObj begDA) = w4 at *
  generalize w3.heap.size = E at *
  clear HB3
  go_wp2_with fail
  obtain ⟨S, lv, ov, tvs, hp, hs⟩ := HB4.out.get
  refine (hears_pw (seen := 0) hp begN1 begF1 (by omega) begDB (by decide)).mono ?_
  rintro e w5 ⟨rfl, h0, -⟩
  have hz : doC begL1 begDB (((0 : Nat) : Int) + 1) = 0 := begW2
  rw [hz]
  have HB5 : Hid (BW w P begL2 [begDA] [begT] 2 1 0 [(E, begDA)] w5) := hs _ _ _ _ _ _ _ (h0 hz)
  clear h0 hz hs hp HB4
  obtain ⟨_, c0, c1, c2, c3, c4, c5, c6⟩ := HB5.out.deed (p := (E, begDA)) (by simp)
  simp only [Nat.zero_add, begDA] at c0 c1 c2 c3 c4 c5 c6
  go_wp2_with fail
  clear c0 c1 c2 c3 c4 c5 c6
  obtain ⟨S, lv, ov, tvs, hp, hs⟩ := HB5.out.get
  refine (heard_own0 (d := begDA) (seen := 1) hp rfl begN2 (by simp) begTl (by omega)).mono ?_
  rintro e w6 ⟨rfl, hto⟩
  have HB6 : Hid (BW w P begL3 [] [] 2 2 0 [(E, begDA)] w6) := hs _ _ _ _ _ _ _ hto
  clear hto hs hp HB5
  go_wp2_with fail
  obtain ⟨S, lv, ov, tvs, hp, hs⟩ := HB6.out.get
  refine (take_yes hp begN3 begF3 (by simp) (by omega) 1 1 begW3).mono ?_
  rintro e w7 ⟨rfl, hto⟩
  have HB7 : Hid (BW w P begL4 [begDC] [tookL begL3 begDC] 3 2 0 [(E, begDA)] w7) := hs _ _ _ _ _ _ _ hto
  clear hto hs hp HB6
  go_upto_region 8 with fail
  have HB8 : Hid (BW w P begL4 [begDC] [tookL begL3 begDC] 3 2 0 [(w7.heap.size, begDC), (E, begDA)] (w7.alloc (dObj begDC))) := HB7.out.boxed begDC
  rw [show w7.alloc (.cells #[.int .i64 2, .int .i64 1, .int .i64 2, .int .i64 2, .int .i64 1, .int .i64 1, .string ⟨#[]⟩] 39) = w7.alloc (dObj begDC) from rfl]
  generalize w7.alloc (dObj begDC) = w8 at *
  generalize w7.heap.size = E2 at *
  clear HB7
  go_wp2_with fail
  obtain ⟨S, lv, ov, tvs, hp, hs⟩ := HB8.out.get
  refine (send_some (sent := 0) hp (by simp) (by simp)).mono ?_
  rintro e w9 ⟨rfl, hto⟩
  have HB9 : Hid (BW w P begL4 [begDC] [tookL begL3 begDC] 3 2 1 [(E2, begDC), (E, begDA)] w9) := hs _ _ _ _ _ _ _ hto
  clear hto hs hp HB8
  rw [show ([begDC])[0] = begDC from rfl]
  go_upto_region 9 with fail
  have HBa : Hid (BW w P begL4 [begDC] [tookL begL3 begDC] 3 2 1 [(w9.heap.size, begDC), (E2, begDC), (E, begDA)] (w9.alloc (dObj begDC))) := HB9.out.boxed begDC
  generalize w9.alloc _ = wa at *
  generalize w9.heap.size = E3 at *
  clear HB9
  obtain ⟨_, c0, c1, c2, c3, c4, c5, c6⟩ := HBa.out.deed (p := (E2, begDC)) (by simp)
  obtain ⟨_, b0, b1, b2, b3, b4, b5, b6⟩ := HBa.out.deed (p := (E3, begDC)) (by simp)
  simp only [Nat.zero_add, begDC] at c0 c1 c2 c3 c4 c5 c6 b0 b1 b2 b3 b4 b5 b6
  go_wp2_with fail
  obtain ⟨S, lv, ov, tvs, hp, _⟩ := HBa.out.get
  refine (text_pw hp begN4).mono ?_
  rintro e wb ⟨rfl, hb⟩
  rw [begTx]
  have HBb : Hid (BW w P begL4 [begDC] [tookL begL3 begDC] 3 2 1 [(E3, begDC), (E2, begDC), (E, begDA)] wb) := HBa.out.after hb
  clear hb hp HBa c0 c1 c2 c3 c4 c5 c6 b0 b1 b2 b3 b4 b5 b6
  go_wp2_with fail
  obtain ⟨S, lv, ov, tvs, hp, _⟩ := HBb.out.get
  refine (seen_pw hp).mono ?_
  rintro e wc ⟨rfl, rfl⟩
  go_wp2_with fail
  refine (least_pw (sent := 1) hp).mono ?_
  rintro e wd ⟨rfl, hb⟩
  have HBd : Hid (BW w P begL4 [begDC] [tookL begL3 begDC] 3 2 1 [(E3, begDC), (E2, begDC), (E, begDA)] wd) := HBb.out.after hb
  rw [show leastW [begDC] 1 2 = 2 from rfl]
  clear hb hp HBb
  go_wp2_with fail
  obtain ⟨S, lv, ov, tvs, hp, _⟩ := HBd.out.get
  refine (open_pw hp (by simp)).mono ?_
  rintro e we ⟨ve, rfl, ho, hb⟩
  obtain ⟨va, vc, rfl⟩ := OwnD.len ho
  have HBe : Hid (Below w.heap.size w we) := below_after HBd.out.below hb
  clear ho hb hp HBd
  go_wp2_with fail
  go_ret
  exact ⟨rfl, HBe.out⟩

end Go.Proofs.Ytfpemdbiplfkgac

/-
  Rooms from the start: steps in memory, greatRoom, newRoom; a room behind some steps.
-/
namespace Go.Proofs.Ytfpemdbiplfkgac
open Go Go.RowKit

/-- Steps that lie in memory from a place on. -/
structure RSteps (w : World) (b off : Nat) (xs : List RStep) : Prop where
  lt : b < w.heap.size
  at_ : ∀ i (h : i < xs.length), RsAt w b (off + i * 5) xs[i]

theorem RSteps.below {w w' : World} {b off : Nat} {xs : List RStep} (h : RSteps w b off xs) (hb : Below w.heap.size w w') : RSteps w' b off xs :=
  ⟨by have := hb.size; have := h.lt; omega, fun i hi => (h.at_ i hi).below hb⟩

/-- The value is a slice that holds just those steps. -/
def RLst (w : World) (v : Value) (xs : List RStep) : Prop :=
  ∃ (a : Option Addr) (len cap : Nat), v = .slice a len cap ∧ xs.length = len ∧ len ≤ cap ∧ (len = 0 ∨ ∃ b off, a = some ⟨b, off, none⟩ ∧ RSteps w b off xs)

theorem RLst.below {w w' : World} {v : Value} {xs : List RStep} (h : RLst w v xs) (hb : Below w.heap.size w w') : RLst w' v xs := by
  obtain ⟨a, len, cap, rfl, h1, h2, h3⟩ := h
  refine ⟨a, len, cap, rfl, h1, h2, ?_⟩
  rcases h3 with h3 | ⟨b, off, rfl, hr⟩
  · exact .inl h3
  · exact .inr ⟨b, off, rfl, hr.below hb⟩

theorem RLst.len {w : World} {v : Value} {xs : List RStep} (h : RLst w v xs) : ∃ a cap, v = .slice a xs.length cap := by
  obtain ⟨a, len, cap, rfl, rfl, h2, h3⟩ := h
  exact ⟨a, cap, rfl⟩

theorem RLst.row {w : World} {a : Option Addr} {cap : Nat} {xs : List RStep} (h : RLst w (.slice a xs.length cap) xs) (hp : 0 < xs.length) : ∃ b off, a = some ⟨b, off, none⟩ ∧ RSteps w b off xs := by
  obtain ⟨a', len, cap', he, h1, h2, h3⟩ := h
  simp only [Value.slice.injEq] at he
  obtain ⟨rfl, rfl, rfl⟩ := he
  rcases h3 with h3 | h3
  · omega
  · exact h3

/-- What greatRoom answers. -/
def GreatRIs (xs : List RStep) (w : World) (e : Ending) (w' : World) : Prop := ∃ g, e = .returned (.bool g) ∧ (g = false → xs.length ≤ 160) ∧ w' = w

theorem greatR_yes (xs : List RStep) (w : World) : GreatRIs xs w (.returned (.bool true)) w := ⟨true, rfl, fun e => (by cases e), rfl⟩

set_option maxRecDepth 20000 in
set_option maxHeartbeats 800000 in
theorem greatR_any (v : Value) (xs : List RStep) (w : World) (h : RLst w v xs) :
    Calls Try.prog 13 #[v] w fun e w' => GreatRIs xs w e w' := by
  obtain ⟨a, cap, rfl⟩ := h.len
  have HD : Hid (RLst w (.slice a xs.length cap) xs) := h
  clear h
  go_enter Try.func13, Try.ntmps13
  go_wp2
  go_loop [3] (fun i => ∃ k : Nat, k ≤ xs.length ∧ k ≤ 200 ∧ i = .int .i64 k) (fun i => 200 - (intOf i).toNat)
  case atStart => exact ⟨0, Nat.zero_le _, by omega, rfl⟩
  case round =>
    obtain ⟨k, hk, hk2, rfl⟩ := hrel
    by_cases hlt : k < xs.length
    · by_cases hlt2 : k < 200
      · obtain ⟨b, off, rfl, hr⟩ := HD.out.row (by omega)
        obtain ⟨_, c0, c1, c2, c3, c4⟩ := hr.at_ k hlt
        generalize xs[k] = x at *
        clear hr c0 c1 c2 c3
        by_cases ht : 100 < x.text.size
        · go_wp2
          go_ret
          exact greatR_yes xs w
        · go_wp2
          go_round
          case rel => exact ⟨k + 1, by omega, by omega, by go_num⟩
          case measure => simp [intOf]; omega
      · go_wp2
        go_ret
        exact ⟨decide (160 < (xs.length : Int)), rfl, fun e => (by have := of_decide_eq_false e; omega), rfl⟩
    · go_wp2
      go_ret
      exact ⟨decide (160 < (xs.length : Int)), rfl, fun e => (by have := of_decide_eq_false e; omega), rfl⟩

abbrev roomZ (G : Nat) (bare : Bool) : Array Value := #[.pointer (some ⟨G, 0, none⟩), .pointer none, .pointer none, .pointer none, .pointer none, .pointer none, .pointer none, .pointer none, .pointer none, .bool bare]

def rm0 : Rm := ⟨Bk.empty, fun _ => none, fun _ => none⟩
theorem rmi0 (bare : Bool) : RmI bare rm0 := ⟨good_empty, fun _ _ => rfl, fun _ _ _ => rfl, fun _ _ _ _ e => (by cases e)⟩

theorem room_start (w : World) (bare : Bool) : Room w.heap.size (w.heap.size + 1) w.heap.size (fun _ => 0) (fun _ => 0) bare (fun _ => False) rm0 ((w.alloc (.cells logZ 88)).alloc (.cells (roomZ w.heap.size bare) 37)) := by
  have e1 : (w.alloc (.cells logZ 88)).heap.size = w.heap.size + 1 := by simp
  have h1 := (logAt_start w (Nat.le_refl _)).below (below1 _ (.cells (roomZ w.heap.size bare) 37))
  refine ⟨fun k => if k = w.heap.size then 1 else if k = w.heap.size + 1 then 10 else 0, ⟨⟨by simp, ?_, fun k hk => ?_, fun k hk => ?_, ?_, fun o ho => ?_⟩, ?_, fun k hk => ?_, ⟨_, _, h1.mono (fun k e => ?_) (fun k e => ?_)⟩, fun _ _ _ _ e => (by cases e), fun _ _ _ e => (by cases e)⟩, fun _ e => e.elim⟩
  · simp [go_sem]
  · rcases (show k = 0 ∨ k = 1 ∨ k = 2 ∨ k = 3 by omega) with rfl | rfl | rfl | rfl <;> simp [go_sem, rm0, ptrOf]
  · rcases (show k = 0 ∨ k = 1 ∨ k = 2 ∨ k = 3 by omega) with rfl | rfl | rfl | rfl <;> simp [go_sem, rm0, ptrOf]
  · simp [go_sem]
  · rcases (show o = 0 ∨ o = 1 ∨ o = 2 ∨ o = 3 ∨ o = 4 ∨ o = 5 ∨ o = 6 ∨ o = 7 ∨ o = 8 ∨ o = 9 by omega) with rfl | rfl | rfl | rfl | rfl | rfl | rfl | rfl | rfl | rfl <;> simp [go_sem]
  · simp
  · have hk' : (if k = w.heap.size then 1 else if k = w.heap.size + 1 then 10 else 0) ≠ 0 := hk
    have : k = w.heap.size ∨ k = w.heap.size + 1 := by
      by_cases e : k = w.heap.size
      · exact .inl e
      · by_cases e' : k = w.heap.size + 1
        · exact .inr e'
        · rw [if_neg e, if_neg e'] at hk'; exact absurd rfl hk'
    simp
    omega
  · show (if k = w.heap.size then 1 else _) = 1
    rw [if_pos e]
  · have hk' : (if k = w.heap.size then 1 else if k = w.heap.size + 1 then 10 else 0) = 1 := e
    have : k = w.heap.size := by
      by_cases e : k = w.heap.size
      · exact e
      · rw [if_neg e] at hk'
        split at hk' <;> omega
    simp
    omega

/-- A room behind some steps, from a world on. -/
structure RR (w : World) (R G : Nat) (bare : Bool) (m : Rm) (wk : World) : Prop where
  room : ∃ pw sc, Room w.heap.size R G pw sc bare (fun _ => False) m wk
  inv : RmI bare m
  below : Below w.heap.size w wk

theorem RR.after {w wk w' : World} {R G : Nat} {bare : Bool} {m : Rm} (h : RR w R G bare m wk) (hb : Below wk.heap.size wk w') : RR w R G bare m w' := by
  obtain ⟨pw, sc, hr⟩ := h.room
  exact ⟨⟨pw, sc, hr.after hb⟩, h.inv, below_after h.below hb⟩

theorem rr_start {w w1 : World} (h : Below w.heap.size w w1) (bare : Bool) : RR w (w1.heap.size + 1) w1.heap.size bare rm0 ((w1.alloc (.cells logZ 88)).alloc (.cells (roomZ w1.heap.size bare) 37)) := by
  obtain ⟨ow, h1, h2⟩ := room_start w1 bare
  have hs := h.size
  have hb : Below w1.heap.size w1 ((w1.alloc (.cells logZ 88)).alloc (.cells (roomZ w1.heap.size bare) 37)) := below_after (below1 _ _) (below1 _ _)
  refine ⟨⟨_, _, ow, ⟨h1.cells, h1.own, fun k e => ⟨by have := (h1.lo k e).1; omega, (h1.lo k e).2⟩, ?_, fun _ _ _ _ e => (by cases e), fun _ _ _ e => (by cases e)⟩, h2⟩, rmi0 bare, below_after h hb⟩
  have h3 := (logAt_start w1 hs).below (below1 _ (.cells (roomZ w1.heap.size bare) 37))
  obtain ⟨dv, lv, hl⟩ := h1.log
  refine ⟨_, _, h3.mono (fun k e => ?_) (fun k e => ⟨by have := (hl.lo k e).1; omega, (hl.lo k e).2⟩)⟩
  rw [e]
  exact hl.hG

theorem RR.step {w wk : World} {R G : Nat} {bare : Bool} {m : Rm} (h : RR w R G bare m wk) (x : RStep) :
    Calls Try.prog 20 #[.pointer (some ⟨R, 0, none⟩), rsV x] wk fun e w' => e = .returned (.tuple #[.bool true, .bool (overRm m x)]) ∧ (overRm m x = false → RR w R G bare (stepRm bare m x) w') ∧ Below w.heap.size w w' := by
  obtain ⟨pw, sc, hr⟩ := h.room
  refine (step_room hr h.inv x).mono fun e w' ⟨he, ht, hbl⟩ => ⟨he, fun ho => ?_, h.below.trans hbl⟩
  obtain ⟨h1, h2⟩ := ht ho
  exact ⟨h1.room, h2, h.below.trans h1.below⟩

set_option maxRecDepth 20000 in
set_option maxHeartbeats 400000 in
theorem newRoom_any (w : World) : Calls Try.prog 14 #[] w fun e w' => e = .returned (.pointer (some ⟨w.heap.size + 1, 0, none⟩)) ∧ w' = (w.alloc (.cells logZ 88)).alloc (.cells (roomZ w.heap.size false) 37) := by
  go_enter Try.func14, Try.ntmps14
  go_wp2_with fail
  refine (newL_lg w).mono ?_
  rintro e w1 ⟨rfl, rfl⟩
  go_wp2
  go_ret
  exact ⟨by simp, rfl⟩

end Go.Proofs.Ytfpemdbiplfkgac

/-
  For the other laws of a room: operations that are passed over in a large frame; a step in the middle of a round; the open deeds and the text behind a step that hears.
-/
namespace Go.Proofs.Ytfpemdbiplfkgac
open Go Go.RowKit

section
variable {P : Program} {ops : Array Oper} {U0 : Cls} {U : World → Prop} {sp lt : Nat → Bool}

/-- One that is passed over. -/
theorem wpLate_bigSkip {Q : Act → World → Prop} {a : Act} {o : Oper} {rest : List Oper} {k : Nat} {U D : Cls} (d : Option Tmp) (w0 : World) (hs : (sp k || lt k) = false) (hd : o.dst = d) (hw : Region.wanted o (yielded ops a.tmps) = false)
    (h : Oper.quiet P ⟨d, .move (.const undef), 0, "", #[], none⟩ a (fun _ => True) (fun a' => wpLate P ops U0 sp lt Q rest (k + 1) a' U D)) : wpLate P ops U0 sp lt Q (o :: rest) k a U D :=
  wpLate_still hs fun K hK => by
    rw [if_neg (by simp [hw])]
    refine hK _ ?_
    rw [hd]
    exact put_of_quiet w0 h

theorem wpGrow_bigSkip {Q : Act → World → Prop} {a : Act} {o : Oper} {rest : List Oper} {k : Nat} {D : World → Prop} (d : Option Tmp) (w0 : World) (hd : o.dst = d) (hw : Region.wanted o (yielded ops a.tmps) = false)
    (h : Oper.quiet P ⟨d, .move (.const undef), 0, "", #[], none⟩ a (fun _ => True) (fun a' => wpGrow P ops U sp Q rest (k + 1) a' D)) : wpGrow P ops U sp Q (o :: rest) k a D := by
  show if _ then _ else _
  rw [if_neg (by simp [hw]), hd]
  exact put_of_quiet w0 h

end

section
variable {base R G : Nat} {pw sc : Nat → Nat} {bare : Bool} {K : Nat → Prop} {m : Rm} {w wk w' : World} {x : RStep} {bx : List (Nat × Dd)}

/-- A step, with what lies in boxes kept. -/
theorem RIn.stepped (h : RIn w base R G pw sc bare K m x bx wk) (hi : RmI bare m) (y : RStep) :
    Calls Try.prog 20 #[.pointer (some ⟨R, 0, none⟩), rsV y] wk fun e w' => e = .returned (.tuple #[.bool true, .bool (overRm m y)]) ∧ (overRm m y = false → ∃ pw' sc', RIn w base R G pw' sc' bare K (stepRm bare m y) x bx w' ∧ RmI bare (stepRm bare m y)) ∧ Below base w w' := by
  refine (step_room h.room hi y).mono fun e w' ⟨he, ht, hb⟩ => ⟨he, fun ho => ?_, h.below.trans hb⟩
  obtain ⟨h1, h2⟩ := ht ho
  obtain ⟨pw', sc', hr⟩ := h1.room
  exact ⟨pw', sc', h.turned ⟨hr, h1.stay, h1.below⟩, h2⟩

/-- The end of a round. -/
theorem rr_of {w0 : World} (h : RR w0 R G bare m w) {m' : Rm} (hr : RIn w w0.heap.size R G pw sc bare (fun _ => False) m' x bx wk) (hi : RmI bare m') : RR w0 R G bare m' wk :=
  ⟨⟨pw, sc, hr.room.less (fun _ e => e.elim)⟩, hi, h.below.trans hr.below⟩

end

/-! What a step that hears leaves. -/

theorem step_hear {bare : Bool} {m : Rm} (hi : RmI bare m) {x : RStep} (hd : x.do_ = 4) {k : Nat} (hk : k < 4) (hxw : x.w = k) {r : Wr} {ts : List (List Ch)} (he : m.p k = some (r, ts)) (hs : r.seen < m.b.ds.length) :
    ∃ r' ts', (stepRm bare m x).p k = some (r', ts') ∧
      (m.b.ds[r.seen].by_ = r.me → r.opens = m.b.ds[r.seen] :: r'.opens ∧ vw r'.list r'.seen r'.me = vw r.list r.seen r.me) ∧ (m.b.ds[r.seen].by_ ≠ r.me → r'.opens = r.opens) := by
  obtain ⟨m1, m2, c, m3, m4⟩ := hi.some k hk r ts he
  have hw : wrB x.w = true := by rw [hxw]; simp [wrB]; omega
  have hkt : x.w.toNat = k := by omega
  have hst : stepRm bare m x = hearM m k r ts := by
    rw [stepRm, if_pos hw, hkt, he]
    simp only
    rw [if_neg (by omega), if_neg (by omega), if_neg (by omega), if_pos hd]
  rw [hst, hearM, dif_pos hs]
  refine ⟨_, _, setP_same _ _ _, fun hb => ?_, fun hb => ?_⟩
  · obtain ⟨es, hes, hsn⟩ := m3.own_first hs hb
    obtain ⟨_, _, hv⟩ := m3.hears_own hi.good hs hes hsn hb
    refine ⟨?_, ?_⟩
    · simp only [hb, decide_true, if_true, hes, List.tail_cons]
    · simp only [hb, decide_true, if_true, hes, List.tail_cons]
      exact hv
  · simp only [hb, decide_false, Bool.false_eq_true, if_false]

/-- The tail of a list of deeds. -/
theorem dlst_tail {w : World} {b off n cap : Nat} {d : Dd} {es : List Dd} (h : DLst w (.slice (some ⟨b, off, none⟩) (n + 1) cap) (d :: es)) : DLst w (.slice (some ⟨b, off + 7, none⟩) n (cap - 1)) es := by
  obtain ⟨a', len, cap', he, h1, h2, h3⟩ := h
  simp only [Value.slice.injEq] at he
  obtain ⟨rfl, rfl, rfl⟩ := he
  have hn : es.length = n := by simpa using h1
  refine ⟨_, n, cap - 1, rfl, hn, by omega, ?_⟩
  rcases h3 with h3 | ⟨b', off', hb, hr⟩
  · omega
  · simp only [Option.some.injEq, Addr.mk.injEq, and_true] at hb
    obtain ⟨rfl, rfl⟩ := hb
    refine .inr ⟨b, off + 7, rfl, ⟨hr.lt, fun i hi => ?_⟩⟩
    have := hr.at_ (i + 1) (by simpa using hi)
    rw [show off + (i + 1) * 7 = off + 7 + i * 7 by omega] at this
    exact this

end Go.Proofs.Ytfpemdbiplfkgac

/-
  Steps of a late walk in a large frame, what follows behind a variable (so that nothing looks into it). No walk.
-/
namespace Go.Proofs.Ytfpemdbiplfkgac
open Go

section
variable {P : Program} {ops : Array Oper} {U0 : Cls} {sp lt : Nat → Bool}

theorem wpLate_bigK {Q : Act → World → Prop} {a : Act} {o : Oper} {rest : List Oper} {k : Nat} {U D : Cls} (d : Option Tmp) (w0 : World) (hs : (sp k || lt k) = false) (v : Value) (hd : o.dst = d) (hw : Region.wanted o (yielded ops a.tmps) = true)
    (hrun : ∀ w, U0 w → (execOp a.eval o).run P w = .ok (.value v) w) (h : ∀ K : Act → Prop, (∀ a', wpLate P ops U0 sp lt Q rest (k + 1) a' U D → K a') → Oper.quiet P ⟨d, .move (.const v), 0, "", #[], none⟩ a (fun _ => True) K) : wpLate P ops U0 sp lt Q (o :: rest) k a U D :=
  wpLate_still hs fun K hK => by
    rw [if_pos hw]
    refine ⟨v, hrun, ?_⟩
    rw [hd]
    exact put_of_quiet w0 (h K hK)

theorem wpLate_bigSkipK {Q : Act → World → Prop} {a : Act} {o : Oper} {rest : List Oper} {k : Nat} {U D : Cls} (d : Option Tmp) (w0 : World) (hs : (sp k || lt k) = false) (hd : o.dst = d) (hw : Region.wanted o (yielded ops a.tmps) = false)
    (h : ∀ K : Act → Prop, (∀ a', wpLate P ops U0 sp lt Q rest (k + 1) a' U D → K a') → Oper.quiet P ⟨d, .move (.const undef), 0, "", #[], none⟩ a (fun _ => True) K) : wpLate P ops U0 sp lt Q (o :: rest) k a U D :=
  wpLate_still hs fun K hK => by
    rw [if_neg (by simp [hw]), hd]
    exact put_of_quiet w0 (h K hK)

theorem wpLate_bigLateK {Q : Act → World → Prop} {a : Act} {o : Oper} {rest : List Oper} {k : Nat} {U D : Cls} (d : Option Tmp) (w0 : World) (hs : sp k = false) (hl : lt k = true) (v : Value) (hd : o.dst = d) (hw : Region.wanted o (yielded ops a.tmps) = true)
    (hrun : ∀ w, U w → (execOp a.eval o).run P w = .ok (.value v) w) (h : ∀ K : Act → Prop, (∀ a', wpLate P ops U0 sp lt Q rest (k + 1) a' U D → K a') → Oper.quiet P ⟨d, .move (.const v), 0, "", #[], none⟩ a (fun _ => True) K) : wpLate P ops U0 sp lt Q (o :: rest) k a U D :=
  wpLate_late hs hl fun K hK => by
    rw [if_pos hw]
    refine ⟨v, hrun, ?_⟩
    rw [hd]
    exact put_of_quiet w0 (h K hK)

theorem wpLate_bigSpineK {Q : Act → World → Prop} {a : Act} {o : Oper} {rest : List Oper} {k : Nat} {U D : Cls} (d : Option Tmp) (w0 : World) (hs : sp k = true) (hd : o.dst = d) (hw : Region.wanted o (yielded ops a.tmps) = true) (p : Value → Prop) (U' D' : Value → Cls) (hp : ∃ v, p v) (hU : ∀ v w, U' v w → U w) (hD : ∀ v w, D' v w → U' v w)
    (hrun : ∀ w, D w → spineUpon P (fun v w' => p v ∧ D' v w') ((execOp a.eval o).run P w)) (h : ∀ v, p v → ∀ K : Act → Prop, (∀ a', wpLate P ops U0 sp lt Q rest (k + 1) a' (U' v) (D' v) → K a') → Oper.quiet P ⟨d, .move (.const v), 0, "", #[], none⟩ a (fun _ => True) K) : wpLate P ops U0 sp lt Q (o :: rest) k a U D :=
  wpLate_spine hs hw p U' D' hp hU hD hrun fun v hv => by
    rw [hd]
    exact put_of_quiet w0 (h v hv _ (fun _ h => h))

/-! Several that are passed over, behind one that is not. -/

def skipB (ops : Array Oper) (sp lt : Nat → Bool) : List Oper → Nat → Nat → Act → Bool
  | o :: os, n + 1, k, a => !(sp k || lt k) && !(Region.wanted o (yielded ops a.tmps)) && skipB ops sp lt os n (k + 1) (a.put o.dst undef)
  | _, _, _, _ => true

def skipA : List (Option Tmp) → Act → Act
  | [], a => a
  | d :: ds, a => skipA ds (a.put d undef)

def skipQ (P : Program) : List (Option Tmp) → Act → (Act → Prop) → Prop
  | [], a, K => K a
  | d :: ds, a, K => ∀ K' : Act → Prop, (∀ a', skipQ P ds a' K → K' a') → Oper.quiet P ⟨d, .move (.const undef), 0, "", #[], none⟩ a (fun _ => True) K'

theorem skipQ_act (w0 : World) {K : Act → Prop} : ∀ (ds : List (Option Tmp)) (a : Act), skipQ P ds a K → K (skipA ds a)
  | [], _, h => h
  | _ :: ds, _, h => put_of_quiet (P := P) (K := fun a' => K (skipA ds a')) w0 (h _ (fun a' h' => skipQ_act w0 ds a' h'))

theorem wpLate_skips {Q : Act → World → Prop} {U D : Cls} : ∀ (n : Nat) (l : List Oper) (k : Nat) (a : Act) (ds : List (Option Tmp)), n ≤ l.length → (l.take n).map (·.dst) = ds → skipB ops sp lt l n k a = true → wpLate P ops U0 sp lt Q (l.drop n) (k + n) (skipA ds a) U D → wpLate P ops U0 sp lt Q l k a U D
  | 0, l, k, a, ds, _, hd, _, h => by
    subst hd
    exact h
  | n + 1, [], k, a, ds, hn, _, _, _ => absurd hn (by simp)
  | n + 1, o :: os, k, a, ds, hn, hd, hb, h => by
    subst hd
    simp only [skipB, Bool.and_eq_true] at hb
    obtain ⟨⟨h1, h2⟩, h3⟩ := hb
    refine wpLate_still (by simpa using h1) fun K hK => ?_
    rw [if_neg (by simpa using h2)]
    refine hK _ (wpLate_skips n os (k + 1) (a.put o.dst undef) _ (by simpa using hn) rfl h3 ?_)
    rw [show k + 1 + n = k + (n + 1) by omega]
    exact h

theorem wpLate_bigSkipsK {Q : Act → World → Prop} {a : Act} {o : Oper} {rest : List Oper} {k : Nat} {U D : Cls} (d : Option Tmp) (ds : List (Option Tmp)) (n : Nat) (w0 : World) (hs : (sp k || lt k) = false) (v : Value) (hd : o.dst = d) (hw : Region.wanted o (yielded ops a.tmps) = true)
    (hrun : ∀ w, U0 w → (execOp a.eval o).run P w = .ok (.value v) w) (hn : n ≤ rest.length) (hds : (rest.take n).map (·.dst) = ds) (hb : skipB ops sp lt rest n (k + 1) (a.put d v) = true)
    (h : ∀ K : Act → Prop, (∀ a', wpLate P ops U0 sp lt Q (rest.drop n) (k + 1 + n) a' U D → K a') → ∀ K' : Act → Prop, (∀ a', skipQ P ds a' K → K' a') → Oper.quiet P ⟨d, .move (.const v), 0, "", #[], none⟩ a (fun _ => True) K') : wpLate P ops U0 sp lt Q (o :: rest) k a U D :=
  wpLate_still hs fun K hK => by
    rw [if_pos hw]
    refine ⟨v, hrun, ?_⟩
    rw [hd]
    refine hK _ (wpLate_skips n rest (k + 1) (a.put d v) ds hn hds hb ?_)
    exact skipQ_act (P := P) w0 ds (a.put d v) (put_of_quiet (P := P) w0 (h (fun a' => wpLate P ops U0 sp lt Q (rest.drop n) (k + 1 + n) a' U D) (fun _ h' => h') (fun a' => skipQ P ds a' _) (fun _ h' => h')))

end
end Go.Proofs.Ytfpemdbiplfkgac
