/-
  A step of the room: one that sends.
-/
import Derived.Test.YtfpemdbiplfkgacWBig
namespace Go.Proofs.Ytfpemdbiplfkgac
open Go.RowKit

set_option maxRecDepth 20000 in
set_option maxHeartbeats 6400000 in
theorem step3n {w : World} {base R G : Nat} {pw sc : Nat → Nat} {bare : Bool} {K : Nat → Prop} {m : Rm} (h : Room base R G pw sc bare K m w) (hi : RmI bare m) (x : RStep) (hd : x.do_ = 3) {k : Nat} (hk : k < 4) (hxw : x.w = k) {r : Wr} {ts : List (List Ch)} (he : m.p k = some (r, ts)) (hn : r.sent = r.opens.length) :
    Calls Try.prog 20 #[.pointer (some ⟨R, 0, none⟩), rsV x] w fun e w' => e = .returned (.tuple #[.bool true, .bool false]) ∧ RStepped w base R G bare K m w' := by
  have HI : Hid (RIn w base R G pw sc bare K m x [] (w.alloc (.cells (rsCells x) 28))) := rin_start h x
  have HM : Hid (RmI bare m) := hi
  have HO : Hid (WOk r ts) := rmi_wok hi hk he
  obtain ⟨do_, w_, at_, many, text⟩ := x
  have hk0 : wrB (k : Int) = true := by simp [wrB]; omega
  obtain rfl : w_ = (k : Int) := hxw
  have hk4 : (k : Int) < 4 := by omega
  have HP : Hid (m.p k = some (r, ts)) := he
  have HS : Hid (m.s k = some r) := by show m.s k = _; rw [HM.out.both k hk, he]; rfl
  have hps : (m.p k).isSome = true := by rw [he]; rfl
  have hss : (m.s k).isSome = true := by rw [HS.out]; rfl
  obtain rfl : do_ = 3 := hd
  clear h hi he
  go_enter Try.func20, Try.ntmps20
  go_wp2_with (go_at_call 15; refine (isWriter_any _ _).mono ?_; rintro e w6 ⟨rfl, hw6⟩; rw [hk0, hw6]; clear hw6 w6)
  generalize World.alloc _ _ = w5 at *
  have c0 := HI.out.step.c0
  have c1 := HI.out.step.c1
  have c2 := HI.out.step.c2
  have c3 := HI.out.step.c3
  have c4 := HI.out.step.c4
  simp only [Nat.zero_add] at c0 c1 c2 c3 c4
  have g0 := HI.out.room.cells.log
  have g1 := HI.out.room.cells.wr k hk
  have g2 := HI.out.room.cells.sc k hk
  simp only [hps, hss, ptrOf, if_true] at g1 g2
  go_quiet (fail)
  go_wp2_with fail
  have HI6 : Hid (RIn w base R G pw sc bare K m ⟨3, k, at_, many, text⟩ [] (w5.drewN nq)) := HI.out.after (below_drewN (Below.refl _ _) nq)
  generalize w5.drewN nq = w6 at *
  clear HI c0 c1 c2 c3 c4 g0 g1 g2
  obtain ⟨S, lv, ov, tvs, hp, hs⟩ := HI6.out.wr hk HP.out
  refine (send_none hp hn).mono ?_
  rintro e w7 ⟨rfl, hb⟩
  have HI7 : Hid (RIn w base R G pw sc bare K m ⟨3, k, at_, many, text⟩ [] w7) := HI6.out.after hb
  clear hb hs hp HI6
  go_wp2_with fail
  have HI8 : Hid (RIn w base R G pw sc bare K m ⟨3, k, at_, many, text⟩ [(w7.heap.size, ⟨0, 0, 0, 0, 0, 0, ⟨#[]⟩⟩)] (w7.alloc zObj)) := HI7.out.boxed ⟨0, 0, 0, 0, 0, 0, ⟨#[]⟩⟩
  generalize World.alloc _ _ = w8 at *
  obtain ⟨S2, bv, ov2, hq, _⟩ := HI8.out.scr hk HS.out
  refine (sendSc_none hq hn).mono ?_
  rintro e w9 ⟨rfl, hb⟩
  have HI9 : Hid (RIn w base R G pw sc bare K m ⟨3, k, at_, many, text⟩ [(w7.heap.size, ⟨0, 0, 0, 0, 0, 0, ⟨#[]⟩⟩)] w9) := HI8.out.after hb
  clear hb hq HI8 HI7
  have HI10 := HI9.out.boxed ⟨0, 0, 0, 0, 0, 0, ⟨#[]⟩⟩
  go_wp2_with fail
  go_ret2
  exact ⟨rfl, HI10.done⟩

set_option maxRecDepth 20000 in
set_option maxHeartbeats 6400000 in
theorem step3s {w : World} {base R G : Nat} {pw sc : Nat → Nat} {bare : Bool} {K : Nat → Prop} {m : Rm} (h : Room base R G pw sc bare K m w) (hi : RmI bare m) (x : RStep) (hd : x.do_ = 3) {k : Nat} (hk : k < 4) (hxw : x.w = k) {r : Wr} {ts : List (List Ch)} (he : m.p k = some (r, ts)) {d : Dd} (hn : r.opens[r.sent]? = some d) (hcc : comesC m.b d = 0 ∨ comesC m.b d = 9) :
    Calls Try.prog 20 #[.pointer (some ⟨R, 0, none⟩), rsV x] w fun e w' => e = .returned (.tuple #[.bool true, .bool (decide (comesC m.b d ≠ 0))]) ∧ RStepped w base R G bare K ⟨comesB m.b d, setP m.p k (some (⟨r.me, r.seen, r.next, r.base, r.opens, r.sent + 1⟩, ts)), setP m.s k (some ⟨r.me, r.seen, r.next, r.base, r.opens, r.sent + 1⟩)⟩ w' := by
  obtain ⟨hlt, hde⟩ := List.getElem?_eq_some_iff.1 hn
  have HDE : Hid (r.opens[r.sent] = d) := hde
  have HCC : Hid (comesC m.b d = 0 ∨ comesC m.b d = 9) := hcc
  clear hn hde hcc
  have HI : Hid (RIn w base R G pw sc bare K m x [] (w.alloc (.cells (rsCells x) 28))) := rin_start h x
  have HM : Hid (RmI bare m) := hi
  have HO : Hid (WOk r ts) := rmi_wok hi hk he
  obtain ⟨do_, w_, at_, many, text⟩ := x
  have hk0 : wrB (k : Int) = true := by simp [wrB]; omega
  obtain rfl : w_ = (k : Int) := hxw
  have hk4 : (k : Int) < 4 := by omega
  have HP : Hid (m.p k = some (r, ts)) := he
  have HS : Hid (m.s k = some r) := by show m.s k = _; rw [HM.out.both k hk, he]; rfl
  have hps : (m.p k).isSome = true := by rw [he]; rfl
  have hss : (m.s k).isSome = true := by rw [HS.out]; rfl
  obtain rfl : do_ = 3 := hd
  clear h hi he
  go_enter Try.func20, Try.ntmps20
  go_wp2_with (go_at_call 15; refine (isWriter_any _ _).mono ?_; rintro e w6 ⟨rfl, hw6⟩; rw [hk0, hw6]; clear hw6 w6)
  generalize World.alloc _ _ = w5 at *
  have c0 := HI.out.step.c0
  have c1 := HI.out.step.c1
  have c2 := HI.out.step.c2
  have c3 := HI.out.step.c3
  have c4 := HI.out.step.c4
  simp only [Nat.zero_add] at c0 c1 c2 c3 c4
  have g0 := HI.out.room.cells.log
  have g1 := HI.out.room.cells.wr k hk
  have g2 := HI.out.room.cells.sc k hk
  simp only [hps, hss, ptrOf, if_true] at g1 g2
  go_quiet (fail)
  go_wp2_with fail
  have HI6 : Hid (RIn w base R G pw sc bare K m ⟨3, k, at_, many, text⟩ [] (w5.drewN nq)) := HI.out.after (below_drewN (Below.refl _ _) nq)
  generalize w5.drewN nq = w6 at *
  clear HI c0 c1 c2 c3 c4 g0 g1 g2
  obtain ⟨S, lv, ov, tvs, hp, hs⟩ := HI6.out.wr hk HP.out
  refine (send_some hp hlt (by have := HO.out.few; omega)).mono ?_
  rintro e w7 ⟨rfl, hto⟩
  rw [HDE.out]
  have HI7 : Hid (RIn w base R G pw sc bare K ⟨m.b, setP m.p k (some (⟨r.me, r.seen, r.next, r.base, r.opens, r.sent + 1⟩, ts)), m.s⟩ ⟨3, k, at_, many, text⟩ [] w7) := hs ⟨r.me, r.seen, r.next, r.base, r.opens, r.sent + 1⟩ ts w7 hto
  clear hto hs hp HI6
  go_wp2_with fail
  have HI8 : Hid (RIn w base R G pw sc bare K ⟨m.b, setP m.p k (some (⟨r.me, r.seen, r.next, r.base, r.opens, r.sent + 1⟩, ts)), m.s⟩ ⟨3, k, at_, many, text⟩ [(w7.heap.size, d)] (w7.alloc (dObj d))) := HI7.out.boxed d
  generalize World.alloc _ _ = w8 at *
  generalize w7.heap.size = E1 at *
  obtain ⟨S2, bv, ov2, hq, hs2⟩ := HI8.out.scr hk HS.out
  refine (sendSc_some hq hlt (by have := HO.out.few; omega)).mono ?_
  rintro e w9 ⟨rfl, hto⟩
  rw [HDE.out]
  have HI9 : Hid (RIn w base R G pw sc bare K ⟨m.b, setP m.p k (some (⟨r.me, r.seen, r.next, r.base, r.opens, r.sent + 1⟩, ts)), setP m.s k (some ⟨r.me, r.seen, r.next, r.base, r.opens, r.sent + 1⟩)⟩ ⟨3, k, at_, many, text⟩ [(E1, d)] w9) := hs2 ⟨r.me, r.seen, r.next, r.base, r.opens, r.sent + 1⟩ w9 hto
  clear hto hs2 hq HI8 HI7
  have HI10 : Hid (RIn w base R G pw sc bare K ⟨m.b, setP m.p k (some (⟨r.me, r.seen, r.next, r.base, r.opens, r.sent + 1⟩, ts)), setP m.s k (some ⟨r.me, r.seen, r.next, r.base, r.opens, r.sent + 1⟩)⟩ ⟨3, k, at_, many, text⟩ [(w9.heap.size, d), (E1, d)] (w9.alloc (dObj d))) := HI9.out.boxed d
  go_wp2_with fail
  generalize World.alloc _ _ = w10 at *
  generalize w9.heap.size = E2 at *
  clear HI9
  refine wp_region_stage (fun wk => RAny w base R G bare K ⟨3, k, at_, many, text⟩ [(E2, d), (E1, d)] wk) (fun i => i == 5) (fun wk => RIn w base R G pw sc bare K ⟨m.b, setP m.p k (some (⟨r.me, r.seen, r.next, r.base, r.opens, r.sent + 1⟩, ts)), setP m.s k (some ⟨r.me, r.seen, r.next, r.base, r.opens, r.sent + 1⟩)⟩ ⟨3, k, at_, many, text⟩ [(E2, d), (E1, d)] wk) (by kernel_rfl) (by kernel_rfl) (by kernel_rfl) (fun _ h => h.any) (HI10.out.after (Below.refl _ _).drew) ?_
  refine wpStage_big (some 205) w rfl (.pointer (some ⟨R, 0, none⟩)) rfl (by kernel_rfl) (fun wk hwk => ?_) ?_
  · generalize hA : Act.eval _ = ρ
    have s0 : ρ (.tmp 0) = .pointer (some ⟨R, 0, none⟩) := by rw [← hA]; kernel_rfl
    clear hA
    go_simp
  go_big_quiet_op
  refine wpStage_big (some 206) w rfl (.pointer (some ⟨R, 0, none⟩)) rfl (by kernel_rfl) (fun wk hwk => ?_) ?_
  · generalize hA : Act.eval _ = ρ
    have s205 : ρ (.tmp 205) = .pointer (some ⟨R, 0, none⟩) := by rw [← hA]; kernel_rfl
    clear hA
    go_simp
  go_big_quiet_op
  refine wpStage_big (some 207) w rfl (.pointer (some ⟨R, 0, none⟩)) rfl (by kernel_rfl) (fun wk hwk => ?_) ?_
  · generalize hA : Act.eval _ = ρ
    have s206 : ρ (.tmp 206) = .pointer (some ⟨R, 0, none⟩) := by rw [← hA]; kernel_rfl
    clear hA
    go_simp
  go_big_quiet_op
  refine wpStage_big (some 208) w rfl (.pointer (some ⟨G, 0, none⟩)) rfl (by kernel_rfl) (fun wk hwk => ?_) ?_
  · generalize hA : Act.eval _ = ρ
    have s207 : ρ (.tmp 207) = .pointer (some ⟨R, 0, none⟩) := by rw [← hA]; kernel_rfl
    clear hA
    have g0 := hwk.log
    go_simp
  go_big_quiet_op
  refine wpStage_big (some 209) w rfl (ddV d) rfl (by kernel_rfl) (fun wk hwk => ?_) ?_
  · generalize hA : Act.eval _ = ρ
    have s19 : ρ (.tmp 19) = .pointer (some ⟨E1, 0, none⟩) := by rw [← hA]; kernel_rfl
    clear hA
    obtain ⟨_, c0, c1, c2, c3, c4, c5, c6⟩ := hwk.deed (p := (E1, d)) (by simp)
    simp only [Nat.zero_add] at c0 c1 c2 c3 c4 c5 c6
    go_simp
  go_big_quiet_op
  refine wpStage_bigSpine (some 210) w rfl rfl rfl (fun u => u = .tuple #[.int .i64 (comesN m.b d), .int .i64 (comesC m.b d)]) (fun u wk => RIn w base R G pw sc bare K ⟨comesB m.b d, setP m.p k (some (⟨r.me, r.seen, r.next, r.base, r.opens, r.sent + 1⟩, ts)), setP m.s k (some ⟨r.me, r.seen, r.next, r.base, r.opens, r.sent + 1⟩)⟩ ⟨3, k, at_, many, text⟩ [(E2, d), (E1, d)] wk) (⟨_, rfl⟩) (fun _ _ h => h.any) (fun wk hwk => ?_) (fun u9 hu9 => ?_)
  · generalize hA : Act.eval _ = ρ
    have s208 : ρ (.tmp 208) = .pointer (some ⟨G, 0, none⟩) := by rw [← hA]; kernel_rfl
    have s209 : ρ (.tmp 209) = ddV d := by rw [← hA]; kernel_rfl
    have sf : ρ (.func 53) = .func (.func 53) #[] #[] := by rw [← hA]; kernel_rfl
    clear hA
    go_simp
    obtain ⟨S, dv, lv, hl, hs⟩ := hwk.log
    refine (take_lg hl HM.out.good d).mono ?_
    rintro e w7 ⟨rfl, hto⟩
    exact ⟨_, rfl, rfl, hs _ _ hto⟩
  subst hu9
  go_big_quiet_op
  refine wpStage_big (some 204) w rfl (.tuple #[.int .i64 (comesN m.b d), .int .i64 (comesC m.b d)]) rfl (by kernel_rfl) (fun wk hwk => ?_) ?_
  · generalize hA : Act.eval _ = ρ
    have s210 : ρ (.tmp 210) = .tuple #[.int .i64 (comesN m.b d), .int .i64 (comesC m.b d)] := by rw [← hA]; kernel_rfl
    clear hA
    go_simp
  go_big_quiet_op
  refine wpStage_big (some 211) w rfl (.int .i64 (comesN m.b d)) rfl (by kernel_rfl) (fun wk hwk => ?_) ?_
  · generalize hA : Act.eval _ = ρ
    have s204 : ρ (.tmp 204) = .tuple #[.int .i64 (comesN m.b d), .int .i64 (comesC m.b d)] := by rw [← hA]; kernel_rfl
    clear hA
    go_simp
  go_big_quiet_op
  refine wpStage_big (some 212) w rfl (.int .i64 (comesC m.b d)) rfl (by kernel_rfl) (fun wk hwk => ?_) ?_
  · generalize hA : Act.eval _ = ρ
    have s204 : ρ (.tmp 204) = .tuple #[.int .i64 (comesN m.b d), .int .i64 (comesC m.b d)] := by rw [← hA]; kernel_rfl
    clear hA
    go_simp
  go_big_quiet_op
  refine wpStage_big (some 23) w rfl (.int .i64 (comesN m.b d)) rfl (by kernel_rfl) (fun wk hwk => ?_) ?_
  · generalize hA : Act.eval _ = ρ
    have s211 : ρ (.tmp 211) = .int .i64 (comesN m.b d) := by rw [← hA]; kernel_rfl
    clear hA
    go_simp
  go_big_quiet_op
  refine wpStage_big (some 24) w rfl (.int .i64 (comesC m.b d)) rfl (by kernel_rfl) (fun wk hwk => ?_) ?_
  · generalize hA : Act.eval _ = ρ
    have s212 : ρ (.tmp 212) = .int .i64 (comesC m.b d) := by rw [← hA]; kernel_rfl
    clear hA
    go_simp
  go_big_quiet_op
  refine wpStage_nil (fun w9 hw9 => ?_)
  have H9 : Hid _ := hw9
  clear hw9
  have HI11 : Hid (RIn w base R G pw sc bare K ⟨comesB m.b d, setP m.p k (some (⟨r.me, r.seen, r.next, r.base, r.opens, r.sent + 1⟩, ts)), setP m.s k (some ⟨r.me, r.seen, r.next, r.base, r.opens, r.sent + 1⟩)⟩ ⟨3, k, at_, many, text⟩ [(E2, d), (E1, d)] w9) := H9
  clear H9 HI10
  obtain ⟨_, c0, c1, c2, c3, c4, c5, c6⟩ := HI11.out.deeds (E1, d) (by simp)
  obtain ⟨_, b0, b1, b2, b3, b4, b5, b6⟩ := HI11.out.deeds (E2, d) (by simp)
  simp only [Nat.zero_add] at c0 c1 c2 c3 c4 c5 c6 b0 b1 b2 b3 b4 b5 b6
  rcases HCC.out with hc | hc <;> rw [hc]
  all_goals
    go_wp2_with fail
    go_ret2
    exact ⟨rfl, HI11.out.done⟩

end Go.Proofs.Ytfpemdbiplfkgac

/-
  A step of the room: one that puts in or takes away.
-/
namespace Go.Proofs.Ytfpemdbiplfkgac
open Go.RowKit

set_option maxRecDepth 20000 in
set_option maxHeartbeats 6400000 in
theorem step1y {w : World} {base R G : Nat} {pw sc : Nat → Nat} {bare : Bool} {K : Nat → Prop} {m : Rm} (h : Room base R G pw sc bare K m w) (hi : RmI bare m) (x : RStep) (hd : x.do_ = 1) {k : Nat} (hk : k < 4) (hxw : x.w = k) {r : Wr} {ts : List (List Ch)} (he : m.p k = some (r, ts)) (hz : doC r.list (putD r x) openN = 0) :
    Calls Try.prog 20 #[.pointer (some ⟨R, 0, none⟩), rsV x] w fun e w' => e = .returned (.tuple #[.bool true, .bool false]) ∧ RStepped w base R G bare K ⟨m.b, setP m.p k (some (⟨r.me, r.seen, r.next + 1, r.base, r.opens ++ [putD r x], r.sent⟩, ts ++ [tookL r.list (putD r x)])), setP m.s k (some ⟨r.me, r.seen, r.next + 1, r.base, r.opens ++ [putD r x], r.sent⟩)⟩ w' := by
  have HI : Hid (RIn w base R G pw sc bare K m x [] (w.alloc (.cells (rsCells x) 28))) := rin_start h x
  have HM : Hid (RmI bare m) := hi
  have HO : Hid (WOk r ts) := rmi_wok hi hk he
  obtain ⟨do_, w_, at_, many, text⟩ := x
  have hk0 : wrB (k : Int) = true := by simp [wrB]; omega
  obtain rfl : w_ = (k : Int) := hxw
  have hk4 : (k : Int) < 4 := by omega
  have HP : Hid (m.p k = some (r, ts)) := he
  have HS : Hid (m.s k = some r) := by show m.s k = _; rw [HM.out.both k hk, he]; rfl
  have hps : (m.p k).isSome = true := by rw [he]; rfl
  have hss : (m.s k).isSome = true := by rw [HS.out]; rfl
  obtain rfl : do_ = 1 := hd
  have HZ : Hid (doC r.list (⟨1, r.me, r.next, r.seen, at_, 0, text⟩ : Dd) openN = 0) := hz
  clear hz
  clear h hi he
  go_enter Try.func20, Try.ntmps20
  go_wp2_with (go_at_call 15; refine (isWriter_any _ _).mono ?_; rintro e w6 ⟨rfl, hw6⟩; rw [hk0, hw6]; clear hw6 w6)
  generalize World.alloc _ _ = w5 at *
  have c0 := HI.out.step.c0
  have c1 := HI.out.step.c1
  have c2 := HI.out.step.c2
  have c3 := HI.out.step.c3
  have c4 := HI.out.step.c4
  simp only [Nat.zero_add] at c0 c1 c2 c3 c4
  have g0 := HI.out.room.cells.log
  have g1 := HI.out.room.cells.wr k hk
  have g2 := HI.out.room.cells.sc k hk
  simp only [hps, hss, ptrOf, if_true] at g1 g2
  go_quiet (fail)
  go_wp2_with fail
  have HI6 : Hid (RIn w base R G pw sc bare K m ⟨1, k, at_, many, text⟩ [] (w5.drewN nq)) := HI.out.after (below_drewN (Below.refl _ _) nq)
  generalize w5.drewN nq = w6 at *
  clear HI c0 c1 c2 c3 c4 g0 g1 g2
  obtain ⟨S, lv, ov, tvs, hp, hs⟩ := HI6.out.wr hk HP.out
  refine (put_yes hp (by have := HO.out.len; omega) HO.out.fits (by have := HO.out.few; omega) (by have := HO.out.n2; omega) at_ text HZ.out).mono ?_
  rintro e w7 ⟨rfl, hto⟩
  have hel : Wr.list ⟨r.me, r.seen, r.next + 1, r.base, r.opens ++ [(⟨1, r.me, r.next, r.seen, at_, 0, text⟩ : Dd)], r.sent⟩ = doL r.list (⟨1, r.me, r.next, r.seen, at_, 0, text⟩ : Dd) openN := onTop_snoc _ _ _
  have HI7 : Hid (RIn w base R G pw sc bare K ⟨m.b, setP m.p k (some (⟨r.me, r.seen, r.next + 1, r.base, r.opens ++ [(⟨1, r.me, r.next, r.seen, at_, 0, text⟩ : Dd)], r.sent⟩, ts ++ [tookL r.list (⟨1, r.me, r.next, r.seen, at_, 0, text⟩ : Dd)])), m.s⟩ ⟨1, k, at_, many, text⟩ [] w7) := hs ⟨r.me, r.seen, r.next + 1, r.base, r.opens ++ [(⟨1, r.me, r.next, r.seen, at_, 0, text⟩ : Dd)], r.sent⟩ (ts ++ [tookL r.list (⟨1, r.me, r.next, r.seen, at_, 0, text⟩ : Dd)]) w7 (by rw [hel]; exact hto)
  clear hto hs hp HI6 hel
  go_upto_region 17 with fail
  have HI8 : Hid (RIn w base R G pw sc bare K ⟨m.b, setP m.p k (some (⟨r.me, r.seen, r.next + 1, r.base, r.opens ++ [(⟨1, r.me, r.next, r.seen, at_, 0, text⟩ : Dd)], r.sent⟩, ts ++ [tookL r.list (⟨1, r.me, r.next, r.seen, at_, 0, text⟩ : Dd)])), m.s⟩ ⟨1, k, at_, many, text⟩ [(w7.heap.size, (⟨1, r.me, r.next, r.seen, at_, 0, text⟩ : Dd))] (w7.alloc (dObj (⟨1, r.me, r.next, r.seen, at_, 0, text⟩ : Dd)))) := HI7.out.boxed (⟨1, r.me, r.next, r.seen, at_, 0, text⟩ : Dd)
  generalize World.alloc _ _ = w8 at *
  generalize w7.heap.size = E1 at *
  obtain ⟨_, c0, c1, c2, c3, c4⟩ := HI8.out.step
  simp only [Nat.zero_add] at c0 c1 c2 c3 c4
  go_wp2_with fail
  obtain ⟨S2, bv, ov2, hq, hs2⟩ := HI8.out.scr hk HS.out
  refine (doSc_yes hq (by have := HO.out.few; omega) HO.out.top HO.out.n1 (by have := HO.out.n2; omega) ⟨1, 0, 0, 0, at_, 0, text⟩ HZ.out).mono ?_
  rintro e w9 ⟨rfl, hto⟩
  rw [show toldD ⟨1, 0, 0, 0, at_, 0, text⟩ r.me r.next r.seen = (⟨1, r.me, r.next, r.seen, at_, 0, text⟩ : Dd) from rfl]
  have HI9 : Hid (RIn w base R G pw sc bare K ⟨m.b, setP m.p k (some (⟨r.me, r.seen, r.next + 1, r.base, r.opens ++ [(⟨1, r.me, r.next, r.seen, at_, 0, text⟩ : Dd)], r.sent⟩, ts ++ [tookL r.list ((⟨1, r.me, r.next, r.seen, at_, 0, text⟩ : Dd))])), setP m.s k (some ⟨r.me, r.seen, r.next + 1, r.base, r.opens ++ [(⟨1, r.me, r.next, r.seen, at_, 0, text⟩ : Dd)], r.sent⟩)⟩ ⟨1, k, at_, many, text⟩ [(E1, (⟨1, r.me, r.next, r.seen, at_, 0, text⟩ : Dd))] w9) := hs2 ⟨r.me, r.seen, r.next + 1, r.base, r.opens ++ [(⟨1, r.me, r.next, r.seen, at_, 0, text⟩ : Dd)], r.sent⟩ w9 hto
  clear hto hs2 hq HI8 HI7 c0 c1 c2 c3 c4
  have HI10 : Hid (RIn w base R G pw sc bare K ⟨m.b, setP m.p k (some (⟨r.me, r.seen, r.next + 1, r.base, r.opens ++ [(⟨1, r.me, r.next, r.seen, at_, 0, text⟩ : Dd)], r.sent⟩, ts ++ [tookL r.list ((⟨1, r.me, r.next, r.seen, at_, 0, text⟩ : Dd))])), setP m.s k (some ⟨r.me, r.seen, r.next + 1, r.base, r.opens ++ [(⟨1, r.me, r.next, r.seen, at_, 0, text⟩ : Dd)], r.sent⟩)⟩ ⟨1, k, at_, many, text⟩ [(w9.heap.size, (⟨1, r.me, r.next, r.seen, at_, 0, text⟩ : Dd)), (E1, (⟨1, r.me, r.next, r.seen, at_, 0, text⟩ : Dd))] (w9.alloc (dObj (⟨1, r.me, r.next, r.seen, at_, 0, text⟩ : Dd)))) := HI9.out.boxed (⟨1, r.me, r.next, r.seen, at_, 0, text⟩ : Dd)
  go_upto_region 18 with fail
  generalize World.alloc _ _ = w10 at *
  generalize w9.heap.size = E2 at *
  obtain ⟨_, c0, c1, c2, c3, c4, c5, c6⟩ := HI10.out.deeds (E1, (⟨1, r.me, r.next, r.seen, at_, 0, text⟩ : Dd)) (by simp)
  obtain ⟨_, b0, b1, b2, b3, b4, b5, b6⟩ := HI10.out.deeds (E2, (⟨1, r.me, r.next, r.seen, at_, 0, text⟩ : Dd)) (by simp)
  simp only [Nat.zero_add] at c0 c1 c2 c3 c4 c5 c6 b0 b1 b2 b3 b4 b5 b6
  go_wp2_with fail
  go_ret2
  exact ⟨rfl, HI10.out.done⟩

set_option maxRecDepth 20000 in
set_option maxHeartbeats 6400000 in
theorem step1n {w : World} {base R G : Nat} {pw sc : Nat → Nat} {bare : Bool} {K : Nat → Prop} {m : Rm} (h : Room base R G pw sc bare K m w) (hi : RmI bare m) (x : RStep) (hd : x.do_ = 1) {k : Nat} (hk : k < 4) (hxw : x.w = k) {r : Wr} {ts : List (List Ch)} (he : m.p k = some (r, ts)) (hz : doC r.list (putD r x) openN ≠ 0) :
    Calls Try.prog 20 #[.pointer (some ⟨R, 0, none⟩), rsV x] w fun e w' => e = .returned (.tuple #[.bool true, .bool false]) ∧ RStepped w base R G bare K m w' := by
  have HI : Hid (RIn w base R G pw sc bare K m x [] (w.alloc (.cells (rsCells x) 28))) := rin_start h x
  have HM : Hid (RmI bare m) := hi
  have HO : Hid (WOk r ts) := rmi_wok hi hk he
  obtain ⟨do_, w_, at_, many, text⟩ := x
  have hk0 : wrB (k : Int) = true := by simp [wrB]; omega
  obtain rfl : w_ = (k : Int) := hxw
  have hk4 : (k : Int) < 4 := by omega
  have HP : Hid (m.p k = some (r, ts)) := he
  have HS : Hid (m.s k = some r) := by show m.s k = _; rw [HM.out.both k hk, he]; rfl
  have hps : (m.p k).isSome = true := by rw [he]; rfl
  have hss : (m.s k).isSome = true := by rw [HS.out]; rfl
  obtain rfl : do_ = 1 := hd
  have HZ : Hid (doC r.list (⟨1, r.me, r.next, r.seen, at_, 0, text⟩ : Dd) openN ≠ 0) := hz
  clear hz
  clear h hi he
  go_enter Try.func20, Try.ntmps20
  go_wp2_with (go_at_call 15; refine (isWriter_any _ _).mono ?_; rintro e w6 ⟨rfl, hw6⟩; rw [hk0, hw6]; clear hw6 w6)
  generalize World.alloc _ _ = w5 at *
  have c0 := HI.out.step.c0
  have c1 := HI.out.step.c1
  have c2 := HI.out.step.c2
  have c3 := HI.out.step.c3
  have c4 := HI.out.step.c4
  simp only [Nat.zero_add] at c0 c1 c2 c3 c4
  have g0 := HI.out.room.cells.log
  have g1 := HI.out.room.cells.wr k hk
  have g2 := HI.out.room.cells.sc k hk
  simp only [hps, hss, ptrOf, if_true] at g1 g2
  go_quiet (fail)
  go_wp2_with fail
  have HI6 : Hid (RIn w base R G pw sc bare K m ⟨1, k, at_, many, text⟩ [] (w5.drewN nq)) := HI.out.after (below_drewN (Below.refl _ _) nq)
  generalize w5.drewN nq = w6 at *
  clear HI c0 c1 c2 c3 c4 g0 g1 g2
  obtain ⟨S, lv, ov, tvs, hp, hs⟩ := HI6.out.wr hk HP.out
  obtain ⟨cc, hcc⟩ : ∃ cc, doC r.list (⟨1, r.me, r.next, r.seen, at_, 0, text⟩ : Dd) openN = cc := ⟨_, rfl⟩
  have HCC : Hid (doC r.list (⟨1, r.me, r.next, r.seen, at_, 0, text⟩ : Dd) openN = cc) := hcc
  clear hcc
  refine (put_no hp (by have := HO.out.len; omega) HO.out.fits at_ text HZ.out).mono ?_
  rintro e w7 ⟨rfl, hb⟩
  rw [HCC.out]
  have HI7 : Hid (RIn w base R G pw sc bare K m ⟨1, k, at_, many, text⟩ [] w7) := HI6.out.after hb
  clear hb hs hp HI6
  go_upto_region 17 with fail
  have HI8 : Hid (RIn w base R G pw sc bare K m ⟨1, k, at_, many, text⟩ [(w7.heap.size, ⟨0, 0, 0, 0, 0, 0, ⟨#[]⟩⟩)] (w7.alloc zObj)) := HI7.out.boxed ⟨0, 0, 0, 0, 0, 0, ⟨#[]⟩⟩
  generalize World.alloc _ _ = w8 at *
  generalize w7.heap.size = E1 at *
  obtain ⟨_, c0, c1, c2, c3, c4⟩ := HI8.out.step
  simp only [Nat.zero_add] at c0 c1 c2 c3 c4
  go_wp2_with fail
  obtain ⟨S2, bv, ov2, hq, hs2⟩ := HI8.out.scr hk HS.out
  refine (doSc_no hq (by have := HO.out.few; omega) HO.out.top ⟨1, 0, 0, 0, at_, 0, text⟩ HZ.out).mono ?_
  rintro e w9 ⟨rfl, hb⟩
  have hcc : doC (onTop r.base r.opens) (toldD ⟨1, 0, 0, 0, at_, 0, text⟩ r.me r.next r.seen) openN = cc := HCC.out
  rw [hcc]
  have HI9 : Hid (RIn w base R G pw sc bare K m ⟨1, k, at_, many, text⟩ [(E1, ⟨0, 0, 0, 0, 0, 0, ⟨#[]⟩⟩)] w9) := HI8.out.after hb
  clear hb hs2 hq HI8 HI7 c0 c1 c2 c3 c4 hcc
  have HI10 : Hid (RIn w base R G pw sc bare K m ⟨1, k, at_, many, text⟩ [(w9.heap.size, ⟨0, 0, 0, 0, 0, 0, ⟨#[]⟩⟩), (E1, ⟨0, 0, 0, 0, 0, 0, ⟨#[]⟩⟩)] (w9.alloc zObj)) := HI9.out.boxed ⟨0, 0, 0, 0, 0, 0, ⟨#[]⟩⟩
  go_upto_region 18 with fail
  generalize World.alloc _ _ = w10 at *
  generalize w9.heap.size = E2 at *
  obtain ⟨_, c0, c1, c2, c3, c4, c5, c6⟩ := HI10.out.deeds (E1, ⟨0, 0, 0, 0, 0, 0, ⟨#[]⟩⟩) (by simp)
  obtain ⟨_, b0, b1, b2, b3, b4, b5, b6⟩ := HI10.out.deeds (E2, ⟨0, 0, 0, 0, 0, 0, ⟨#[]⟩⟩) (by simp)
  simp only [Nat.zero_add] at c0 c1 c2 c3 c4 c5 c6 b0 b1 b2 b3 b4 b5 b6
  go_wp2_with fail
  go_ret2
  exact ⟨rfl, HI10.out.done⟩

set_option maxRecDepth 20000 in
set_option maxHeartbeats 6400000 in
theorem step2y {w : World} {base R G : Nat} {pw sc : Nat → Nat} {bare : Bool} {K : Nat → Prop} {m : Rm} (h : Room base R G pw sc bare K m w) (hi : RmI bare m) (x : RStep) (hd : x.do_ = 2) {k : Nat} (hk : k < 4) (hxw : x.w = k) {r : Wr} {ts : List (List Ch)} (he : m.p k = some (r, ts)) (hz : doC r.list (takeD r x) openN = 0) :
    Calls Try.prog 20 #[.pointer (some ⟨R, 0, none⟩), rsV x] w fun e w' => e = .returned (.tuple #[.bool true, .bool false]) ∧ RStepped w base R G bare K ⟨m.b, setP m.p k (some (⟨r.me, r.seen, r.next + 1, r.base, r.opens ++ [takeD r x], r.sent⟩, ts ++ [tookL r.list (takeD r x)])), setP m.s k (some ⟨r.me, r.seen, r.next + 1, r.base, r.opens ++ [takeD r x], r.sent⟩)⟩ w' := by
  have HI : Hid (RIn w base R G pw sc bare K m x [] (w.alloc (.cells (rsCells x) 28))) := rin_start h x
  have HM : Hid (RmI bare m) := hi
  have HO : Hid (WOk r ts) := rmi_wok hi hk he
  obtain ⟨do_, w_, at_, many, text⟩ := x
  have hk0 : wrB (k : Int) = true := by simp [wrB]; omega
  obtain rfl : w_ = (k : Int) := hxw
  have hk4 : (k : Int) < 4 := by omega
  have HP : Hid (m.p k = some (r, ts)) := he
  have HS : Hid (m.s k = some r) := by show m.s k = _; rw [HM.out.both k hk, he]; rfl
  have hps : (m.p k).isSome = true := by rw [he]; rfl
  have hss : (m.s k).isSome = true := by rw [HS.out]; rfl
  obtain rfl : do_ = 2 := hd
  have HZ : Hid (doC r.list (⟨2, r.me, r.next, r.seen, at_, many, ⟨#[]⟩⟩ : Dd) openN = 0) := hz
  clear hz
  clear h hi he
  go_enter Try.func20, Try.ntmps20
  go_wp2_with (go_at_call 15; refine (isWriter_any _ _).mono ?_; rintro e w6 ⟨rfl, hw6⟩; rw [hk0, hw6]; clear hw6 w6)
  generalize World.alloc _ _ = w5 at *
  have c0 := HI.out.step.c0
  have c1 := HI.out.step.c1
  have c2 := HI.out.step.c2
  have c3 := HI.out.step.c3
  have c4 := HI.out.step.c4
  simp only [Nat.zero_add] at c0 c1 c2 c3 c4
  have g0 := HI.out.room.cells.log
  have g1 := HI.out.room.cells.wr k hk
  have g2 := HI.out.room.cells.sc k hk
  simp only [hps, hss, ptrOf, if_true] at g1 g2
  go_quiet (fail)
  go_wp2_with fail
  have HI6 : Hid (RIn w base R G pw sc bare K m ⟨2, k, at_, many, text⟩ [] (w5.drewN nq)) := HI.out.after (below_drewN (Below.refl _ _) nq)
  generalize w5.drewN nq = w6 at *
  clear HI c0 c1 c2 c3 c4 g0 g1 g2
  obtain ⟨S, lv, ov, tvs, hp, hs⟩ := HI6.out.wr hk HP.out
  refine (take_yes hp (by have := HO.out.len; omega) HO.out.fits (by have := HO.out.few; omega) (by have := HO.out.n2; omega) at_ many HZ.out).mono ?_
  rintro e w7 ⟨rfl, hto⟩
  have hel : Wr.list ⟨r.me, r.seen, r.next + 1, r.base, r.opens ++ [(⟨2, r.me, r.next, r.seen, at_, many, ⟨#[]⟩⟩ : Dd)], r.sent⟩ = doL r.list (⟨2, r.me, r.next, r.seen, at_, many, ⟨#[]⟩⟩ : Dd) openN := onTop_snoc _ _ _
  have HI7 : Hid (RIn w base R G pw sc bare K ⟨m.b, setP m.p k (some (⟨r.me, r.seen, r.next + 1, r.base, r.opens ++ [(⟨2, r.me, r.next, r.seen, at_, many, ⟨#[]⟩⟩ : Dd)], r.sent⟩, ts ++ [tookL r.list (⟨2, r.me, r.next, r.seen, at_, many, ⟨#[]⟩⟩ : Dd)])), m.s⟩ ⟨2, k, at_, many, text⟩ [] w7) := hs ⟨r.me, r.seen, r.next + 1, r.base, r.opens ++ [(⟨2, r.me, r.next, r.seen, at_, many, ⟨#[]⟩⟩ : Dd)], r.sent⟩ (ts ++ [tookL r.list (⟨2, r.me, r.next, r.seen, at_, many, ⟨#[]⟩⟩ : Dd)]) w7 (by rw [hel]; exact hto)
  clear hto hs hp HI6 hel
  go_upto_region 21 with fail
  have HI8 : Hid (RIn w base R G pw sc bare K ⟨m.b, setP m.p k (some (⟨r.me, r.seen, r.next + 1, r.base, r.opens ++ [(⟨2, r.me, r.next, r.seen, at_, many, ⟨#[]⟩⟩ : Dd)], r.sent⟩, ts ++ [tookL r.list (⟨2, r.me, r.next, r.seen, at_, many, ⟨#[]⟩⟩ : Dd)])), m.s⟩ ⟨2, k, at_, many, text⟩ [(w7.heap.size, (⟨2, r.me, r.next, r.seen, at_, many, ⟨#[]⟩⟩ : Dd))] (w7.alloc (dObj (⟨2, r.me, r.next, r.seen, at_, many, ⟨#[]⟩⟩ : Dd)))) := HI7.out.boxed (⟨2, r.me, r.next, r.seen, at_, many, ⟨#[]⟩⟩ : Dd)
  generalize World.alloc _ _ = w8 at *
  generalize w7.heap.size = E1 at *
  obtain ⟨_, c0, c1, c2, c3, c4⟩ := HI8.out.step
  simp only [Nat.zero_add] at c0 c1 c2 c3 c4
  go_wp2_with fail
  obtain ⟨S2, bv, ov2, hq, hs2⟩ := HI8.out.scr hk HS.out
  refine (doSc_yes hq (by have := HO.out.few; omega) HO.out.top HO.out.n1 (by have := HO.out.n2; omega) ⟨2, 0, 0, 0, at_, many, ⟨#[]⟩⟩ HZ.out).mono ?_
  rintro e w9 ⟨rfl, hto⟩
  rw [show toldD ⟨2, 0, 0, 0, at_, many, ⟨#[]⟩⟩ r.me r.next r.seen = (⟨2, r.me, r.next, r.seen, at_, many, ⟨#[]⟩⟩ : Dd) from rfl]
  have HI9 : Hid (RIn w base R G pw sc bare K ⟨m.b, setP m.p k (some (⟨r.me, r.seen, r.next + 1, r.base, r.opens ++ [(⟨2, r.me, r.next, r.seen, at_, many, ⟨#[]⟩⟩ : Dd)], r.sent⟩, ts ++ [tookL r.list ((⟨2, r.me, r.next, r.seen, at_, many, ⟨#[]⟩⟩ : Dd))])), setP m.s k (some ⟨r.me, r.seen, r.next + 1, r.base, r.opens ++ [(⟨2, r.me, r.next, r.seen, at_, many, ⟨#[]⟩⟩ : Dd)], r.sent⟩)⟩ ⟨2, k, at_, many, text⟩ [(E1, (⟨2, r.me, r.next, r.seen, at_, many, ⟨#[]⟩⟩ : Dd))] w9) := hs2 ⟨r.me, r.seen, r.next + 1, r.base, r.opens ++ [(⟨2, r.me, r.next, r.seen, at_, many, ⟨#[]⟩⟩ : Dd)], r.sent⟩ w9 hto
  clear hto hs2 hq HI8 HI7 c0 c1 c2 c3 c4
  have HI10 : Hid (RIn w base R G pw sc bare K ⟨m.b, setP m.p k (some (⟨r.me, r.seen, r.next + 1, r.base, r.opens ++ [(⟨2, r.me, r.next, r.seen, at_, many, ⟨#[]⟩⟩ : Dd)], r.sent⟩, ts ++ [tookL r.list ((⟨2, r.me, r.next, r.seen, at_, many, ⟨#[]⟩⟩ : Dd))])), setP m.s k (some ⟨r.me, r.seen, r.next + 1, r.base, r.opens ++ [(⟨2, r.me, r.next, r.seen, at_, many, ⟨#[]⟩⟩ : Dd)], r.sent⟩)⟩ ⟨2, k, at_, many, text⟩ [(w9.heap.size, (⟨2, r.me, r.next, r.seen, at_, many, ⟨#[]⟩⟩ : Dd)), (E1, (⟨2, r.me, r.next, r.seen, at_, many, ⟨#[]⟩⟩ : Dd))] (w9.alloc (dObj (⟨2, r.me, r.next, r.seen, at_, many, ⟨#[]⟩⟩ : Dd)))) := HI9.out.boxed (⟨2, r.me, r.next, r.seen, at_, many, ⟨#[]⟩⟩ : Dd)
  go_upto_region 22 with fail
  generalize World.alloc _ _ = w10 at *
  generalize w9.heap.size = E2 at *
  obtain ⟨_, c0, c1, c2, c3, c4, c5, c6⟩ := HI10.out.deeds (E1, (⟨2, r.me, r.next, r.seen, at_, many, ⟨#[]⟩⟩ : Dd)) (by simp)
  obtain ⟨_, b0, b1, b2, b3, b4, b5, b6⟩ := HI10.out.deeds (E2, (⟨2, r.me, r.next, r.seen, at_, many, ⟨#[]⟩⟩ : Dd)) (by simp)
  simp only [Nat.zero_add] at c0 c1 c2 c3 c4 c5 c6 b0 b1 b2 b3 b4 b5 b6
  go_wp2_with fail
  go_ret2
  exact ⟨rfl, HI10.out.done⟩

set_option maxRecDepth 20000 in
set_option maxHeartbeats 6400000 in
theorem step2n {w : World} {base R G : Nat} {pw sc : Nat → Nat} {bare : Bool} {K : Nat → Prop} {m : Rm} (h : Room base R G pw sc bare K m w) (hi : RmI bare m) (x : RStep) (hd : x.do_ = 2) {k : Nat} (hk : k < 4) (hxw : x.w = k) {r : Wr} {ts : List (List Ch)} (he : m.p k = some (r, ts)) (hz : doC r.list (takeD r x) openN ≠ 0) :
    Calls Try.prog 20 #[.pointer (some ⟨R, 0, none⟩), rsV x] w fun e w' => e = .returned (.tuple #[.bool true, .bool false]) ∧ RStepped w base R G bare K m w' := by
  have HI : Hid (RIn w base R G pw sc bare K m x [] (w.alloc (.cells (rsCells x) 28))) := rin_start h x
  have HM : Hid (RmI bare m) := hi
  have HO : Hid (WOk r ts) := rmi_wok hi hk he
  obtain ⟨do_, w_, at_, many, text⟩ := x
  have hk0 : wrB (k : Int) = true := by simp [wrB]; omega
  obtain rfl : w_ = (k : Int) := hxw
  have hk4 : (k : Int) < 4 := by omega
  have HP : Hid (m.p k = some (r, ts)) := he
  have HS : Hid (m.s k = some r) := by show m.s k = _; rw [HM.out.both k hk, he]; rfl
  have hps : (m.p k).isSome = true := by rw [he]; rfl
  have hss : (m.s k).isSome = true := by rw [HS.out]; rfl
  obtain rfl : do_ = 2 := hd
  have HZ : Hid (doC r.list (⟨2, r.me, r.next, r.seen, at_, many, ⟨#[]⟩⟩ : Dd) openN ≠ 0) := hz
  clear hz
  clear h hi he
  go_enter Try.func20, Try.ntmps20
  go_wp2_with (go_at_call 15; refine (isWriter_any _ _).mono ?_; rintro e w6 ⟨rfl, hw6⟩; rw [hk0, hw6]; clear hw6 w6)
  generalize World.alloc _ _ = w5 at *
  have c0 := HI.out.step.c0
  have c1 := HI.out.step.c1
  have c2 := HI.out.step.c2
  have c3 := HI.out.step.c3
  have c4 := HI.out.step.c4
  simp only [Nat.zero_add] at c0 c1 c2 c3 c4
  have g0 := HI.out.room.cells.log
  have g1 := HI.out.room.cells.wr k hk
  have g2 := HI.out.room.cells.sc k hk
  simp only [hps, hss, ptrOf, if_true] at g1 g2
  go_quiet (fail)
  go_wp2_with fail
  have HI6 : Hid (RIn w base R G pw sc bare K m ⟨2, k, at_, many, text⟩ [] (w5.drewN nq)) := HI.out.after (below_drewN (Below.refl _ _) nq)
  generalize w5.drewN nq = w6 at *
  clear HI c0 c1 c2 c3 c4 g0 g1 g2
  obtain ⟨S, lv, ov, tvs, hp, hs⟩ := HI6.out.wr hk HP.out
  obtain ⟨cc, hcc⟩ : ∃ cc, doC r.list (⟨2, r.me, r.next, r.seen, at_, many, ⟨#[]⟩⟩ : Dd) openN = cc := ⟨_, rfl⟩
  have HCC : Hid (doC r.list (⟨2, r.me, r.next, r.seen, at_, many, ⟨#[]⟩⟩ : Dd) openN = cc) := hcc
  clear hcc
  refine (take_no hp (by have := HO.out.len; omega) HO.out.fits at_ many HZ.out).mono ?_
  rintro e w7 ⟨rfl, hb⟩
  rw [HCC.out]
  have HI7 : Hid (RIn w base R G pw sc bare K m ⟨2, k, at_, many, text⟩ [] w7) := HI6.out.after hb
  clear hb hs hp HI6
  go_upto_region 21 with fail
  have HI8 : Hid (RIn w base R G pw sc bare K m ⟨2, k, at_, many, text⟩ [(w7.heap.size, ⟨0, 0, 0, 0, 0, 0, ⟨#[]⟩⟩)] (w7.alloc zObj)) := HI7.out.boxed ⟨0, 0, 0, 0, 0, 0, ⟨#[]⟩⟩
  generalize World.alloc _ _ = w8 at *
  generalize w7.heap.size = E1 at *
  obtain ⟨_, c0, c1, c2, c3, c4⟩ := HI8.out.step
  simp only [Nat.zero_add] at c0 c1 c2 c3 c4
  go_wp2_with fail
  obtain ⟨S2, bv, ov2, hq, hs2⟩ := HI8.out.scr hk HS.out
  refine (doSc_no hq (by have := HO.out.few; omega) HO.out.top ⟨2, 0, 0, 0, at_, many, ⟨#[]⟩⟩ HZ.out).mono ?_
  rintro e w9 ⟨rfl, hb⟩
  have hcc : doC (onTop r.base r.opens) (toldD ⟨2, 0, 0, 0, at_, many, ⟨#[]⟩⟩ r.me r.next r.seen) openN = cc := HCC.out
  rw [hcc]
  have HI9 : Hid (RIn w base R G pw sc bare K m ⟨2, k, at_, many, text⟩ [(E1, ⟨0, 0, 0, 0, 0, 0, ⟨#[]⟩⟩)] w9) := HI8.out.after hb
  clear hb hs2 hq HI8 HI7 c0 c1 c2 c3 c4 hcc
  have HI10 : Hid (RIn w base R G pw sc bare K m ⟨2, k, at_, many, text⟩ [(w9.heap.size, ⟨0, 0, 0, 0, 0, 0, ⟨#[]⟩⟩), (E1, ⟨0, 0, 0, 0, 0, 0, ⟨#[]⟩⟩)] (w9.alloc zObj)) := HI9.out.boxed ⟨0, 0, 0, 0, 0, 0, ⟨#[]⟩⟩
  go_upto_region 22 with fail
  generalize World.alloc _ _ = w10 at *
  generalize w9.heap.size = E2 at *
  obtain ⟨_, c0, c1, c2, c3, c4, c5, c6⟩ := HI10.out.deeds (E1, ⟨0, 0, 0, 0, 0, 0, ⟨#[]⟩⟩) (by simp)
  obtain ⟨_, b0, b1, b2, b3, b4, b5, b6⟩ := HI10.out.deeds (E2, ⟨0, 0, 0, 0, 0, 0, ⟨#[]⟩⟩) (by simp)
  simp only [Nat.zero_add] at c0 c1 c2 c3 c4 c5 c6 b0 b1 b2 b3 b4 b5 b6
  go_wp2_with fail
  go_ret2
  exact ⟨rfl, HI10.out.done⟩

end Go.Proofs.Ytfpemdbiplfkgac
