/-
  A step of the room: one that hears.
-/
import Derived.Test.YtfpemdbiplfkgacWBox
namespace Go.Proofs.Ytfpemdbiplfkgac
open Go.RowKit

theorem hsent {bare : Bool} {m : Rm} (h : RmI bare m) {k : Nat} (hk : k < 4) {r : Wr} {ts : List (List Ch)} (he : m.p k = some (r, ts)) : r.sent ≤ r.opens.length := by
  obtain ⟨_, _, c, hw, _⟩ := h.some k hk r ts he
  exact hw.sent

set_option maxRecDepth 20000 in
set_option maxHeartbeats 6400000 in
theorem step4n {w : World} {base R G : Nat} {pw sc : Nat → Nat} {bare : Bool} {K : Nat → Prop} {m : Rm} (h : Room base R G pw sc bare K m w) (hi : RmI bare m) (x : RStep) (hd : x.do_ = 4) {k : Nat} (hk : k < 4) (hxw : x.w = k) {r : Wr} {ts : List (List Ch)} (he : m.p k = some (r, ts)) (hn : ¬ r.seen < m.b.ds.length) :
    Calls Try.prog 20 #[.pointer (some ⟨R, 0, none⟩), rsV x] w fun e w' => e = .returned (.tuple #[.bool true, .bool false]) ∧ RStepped w base R G bare K m w' := by
  have HIS : Hid (isD m.b ((r.seen : Int) + 1) = false) := is_no hn
  obtain ⟨d, hnd⟩ : ∃ d, nthD m.b ((r.seen : Int) + 1) = d := ⟨_, rfl⟩
  have HND : Hid (nthD m.b ((r.seen : Int) + 1) = d) := hnd
  clear hnd hn
  have HI : Hid (RIn w base R G pw sc bare K m x [] (w.alloc (.cells (rsCells x) 28))) := rin_start h x
  have HM : Hid (RmI bare m) := hi
  have HO : Hid (WOk r ts) := rmi_wok hi hk he
  obtain ⟨do_, w_, at_, many, text⟩ := x
  have hk0 : wrB (k : Int) = true := by simp [wrB]; omega
  obtain rfl : w_ = (k : Int) := hxw
  have hk4 : (k : Int) < 4 := by omega
  have HP : Hid (m.p k = some (r, ts)) := he
  have HS : Hid (m.s k = some r) := by show m.s k = _; rw [HM.out.both k hk, he]; rfl
  have hps : (m.p k).isSome = true := by rw [he]; rfl
  have hss : (m.s k).isSome = true := by rw [HS.out]; rfl
  obtain rfl : do_ = 4 := hd
  have HKL : Hid (∀ k, K k → k < w.heap.size) := fun k e => (h.kl e).2
  clear h hi he
  go_enter Try.func20, Try.ntmps20
  go_wp2_with (go_at_call 15; refine (isWriter_any _ _).mono ?_; rintro e w6 ⟨rfl, hw6⟩; rw [hk0, hw6]; clear hw6 w6)
  generalize World.alloc _ _ = w5 at *
  have c0 := HI.out.step.c0
  have c1 := HI.out.step.c1
  have c2 := HI.out.step.c2
  have c3 := HI.out.step.c3
  have c4 := HI.out.step.c4
  simp only [Nat.zero_add] at c0 c1 c2 c3 c4
  have g0 := HI.out.room.cells.log
  have g1 := HI.out.room.cells.wr k hk
  have g2 := HI.out.room.cells.sc k hk
  simp only [hps, hss, ptrOf, if_true] at g1 g2
  go_quiet (fail)
  go_wp2_with fail
  have HIk : Hid (RIn w base R G pw sc bare K m ⟨4, k, at_, many, text⟩ [] (w5.drewN nq)) := HI.out.after (below_drewN (Below.refl _ _) nq)
  generalize w5.drewN nq = w6 at *
  clear HI c0 c1 c2 c3 c4 g0 g1 g2
  refine wp_region_grow (fun wk => RIn w base R G pw sc bare K m ⟨4, k, at_, many, text⟩ [] wk) (fun i => i == 11 || i == 12) (fun wk => RIn w base R G pw sc bare K m ⟨4, k, at_, many, text⟩ [] wk) (by kernel_rfl) (by kernel_rfl) (by kernel_rfl) (fun _ h => h) (RIn.shut) (HIk.out.after (Below.refl _ _).drew) ?_
  refine wpGrow_big (some 229) w rfl (.pointer (some ⟨R, 0, none⟩)) rfl (by kernel_rfl) (fun wk hwk => ?_) ?_
  · refine growUpon_same ?_
    generalize hA : Act.eval _ = ρ
    have s0 : ρ (.tmp 0) = .pointer (some ⟨R, 0, none⟩) := by rw [← hA]; kernel_rfl
    clear hA
    go_simp
  go_big_quiet_op
  refine wpGrow_big (some 230) w rfl (.pointer (some ⟨R, 0, none⟩)) rfl (by kernel_rfl) (fun wk hwk => ?_) ?_
  · refine growUpon_same ?_
    generalize hA : Act.eval _ = ρ
    have s229 : ρ (.tmp 229) = .pointer (some ⟨R, 0, none⟩) := by rw [← hA]; kernel_rfl
    clear hA
    go_simp
  go_big_quiet_op
  refine wpGrow_big (some 231) w rfl (.pointer (some ⟨R, 0, none⟩)) rfl (by kernel_rfl) (fun wk hwk => ?_) ?_
  · refine growUpon_same ?_
    generalize hA : Act.eval _ = ρ
    have s230 : ρ (.tmp 230) = .pointer (some ⟨R, 0, none⟩) := by rw [← hA]; kernel_rfl
    clear hA
    go_simp
  go_big_quiet_op
  refine wpGrow_big (some 232) w rfl (.pointer (some ⟨G, 0, none⟩)) rfl (by kernel_rfl) (fun wk hwk => ?_) ?_
  · refine growUpon_same ?_
    generalize hA : Act.eval _ = ρ
    have s231 : ρ (.tmp 231) = .pointer (some ⟨R, 0, none⟩) := by rw [← hA]; kernel_rfl
    clear hA
    have g0 := hwk.room.cells.log
    go_simp
  go_big_quiet_op
  refine wpGrow_big (some 233) w rfl (.pointer (some ⟨pw k, 0, none⟩)) rfl (by kernel_rfl) (fun wk hwk => ?_) ?_
  · refine growUpon_same ?_
    generalize hA : Act.eval _ = ρ
    have s6 : ρ (.tmp 6) = .pointer (some ⟨pw k, 0, none⟩) := by rw [← hA]; kernel_rfl
    clear hA
    go_simp
  go_big_quiet_op
  refine wpGrow_big (some 234) w rfl (.int .i64 ((r.seen : Int))) rfl (by kernel_rfl) (fun wk hwk => ?_) ?_
  · generalize hA : Act.eval _ = ρ
    have s233 : ρ (.tmp 233) = .pointer (some ⟨pw k, 0, none⟩) := by rw [← hA]; kernel_rfl
    have sf : ρ (.func 17) = .func (.func 17) #[] #[] := by rw [← hA]; kernel_rfl
    clear hA
    unfold growUpon
    go_simp
    obtain ⟨S, lv, ov, tvs, hp, _⟩ := hwk.wr hk HP.out
    refine (seen_pw hp).mono ?_
    rintro e w7 ⟨rfl, rfl⟩
    exact ⟨rfl, Below.refl _ _⟩
  go_big_quiet_op
  refine wpGrow_big (some 235) w rfl (.int .i64 ((r.seen : Int) + 1)) rfl (by kernel_rfl) (fun wk hwk => ?_) ?_
  · refine growUpon_same ?_
    generalize hA : Act.eval _ = ρ
    have s234 : ρ (.tmp 234) = .int .i64 ((r.seen : Int)) := by rw [← hA]; kernel_rfl
    have k1 : ρ (.const (.int .i64 1)) = .int .i64 1 := by rw [← hA]; kernel_rfl
    clear hA
    have hsn := HO.out.seen
    go_simp
    rw [wrapEq]
    unfold wrap64
    omega
  go_big_quiet_op
  refine wpGrow_big (some 236) w rfl (.tuple #[ddV d, .bool false]) rfl (by kernel_rfl) (fun wk hwk => ?_) ?_
  · generalize hA : Act.eval _ = ρ
    have s232 : ρ (.tmp 232) = .pointer (some ⟨G, 0, none⟩) := by rw [← hA]; kernel_rfl
    have s235 : ρ (.tmp 235) = .int .i64 ((r.seen : Int) + 1) := by rw [← hA]; kernel_rfl
    have sf : ρ (.func 16) = .func (.func 16) #[] #[] := by rw [← hA]; kernel_rfl
    clear hA
    unfold growUpon
    go_simp
    obtain ⟨S, dv, lv, hl, _⟩ := hwk.log
    refine (deed_lg hl HM.out.good.small _).mono ?_
    rintro e w7 ⟨rfl, hb⟩
    exact ⟨by rw [HND.out, HIS.out], hb⟩
  go_big_quiet_op
  refine wpGrow_big (some 228) w rfl (.tuple #[ddV d, .bool false]) rfl (by kernel_rfl) (fun wk hwk => ?_) ?_
  · refine growUpon_same ?_
    generalize hA : Act.eval _ = ρ
    have s236 : ρ (.tmp 236) = .tuple #[ddV d, .bool false] := by rw [← hA]; kernel_rfl
    clear hA
    go_simp
  go_big_quiet_op
  refine wpGrow_big (some 237) w rfl (ddV d) rfl (by kernel_rfl) (fun wk hwk => ?_) ?_
  · refine growUpon_same ?_
    generalize hA : Act.eval _ = ρ
    have s228 : ρ (.tmp 228) = .tuple #[ddV d, .bool false] := by rw [← hA]; kernel_rfl
    clear hA
    go_simp
  go_big_quiet_op
  refine wpGrow_big (some 238) w rfl (.bool false) rfl (by kernel_rfl) (fun wk hwk => ?_) ?_
  · refine growUpon_same ?_
    generalize hA : Act.eval _ = ρ
    have s228 : ρ (.tmp 228) = .tuple #[ddV d, .bool false] := by rw [← hA]; kernel_rfl
    clear hA
    go_simp
  go_big_quiet_op
  refine wpGrow_bigSpine (some 25) w rfl rfl rfl (fun u => ∃ E, u = .pointer (some ⟨E, 0, none⟩)) (fun u wk => ∃ E, u = .pointer (some ⟨E, 0, none⟩) ∧ RBox w base R G pw sc bare K m ⟨4, k, at_, many, text⟩ [] E ⟨0, 0, 0, 0, 0, 0, ⟨#[]⟩⟩ wk) (⟨.pointer (some ⟨0, 0, none⟩), 0, rfl⟩) (fun _ _ ⟨_, _, h⟩ => h.ri.fewer (fun _ e => by cases e)) (fun _ _ _ ⟨E, e, h⟩ hb => ⟨E, e, RBox.shut _ _ h hb⟩) (fun wk hwk => ?_) (fun u11 hu11 => ?_)
  · generalize hA : Act.eval _ = ρ
    clear hA
    have hq := hwk.lay HKL.out
    go_simp
    exact ⟨⟨_, rfl⟩, _, rfl, hq⟩
  obtain ⟨E, rfl⟩ := hu11
  go_big_quiet_op
  refine wpGrow_bigStore rfl rfl rfl (fun wk => RBox w base R G pw sc bare K m ⟨4, k, at_, many, text⟩ [] E d wk) (fun _ h => h.ri.fewer (fun _ e => by cases e)) (RBox.shut) (fun wk hwk => ?_) ?_
  · generalize hA : Act.eval _ = ρ
    have s25 : ρ (.tmp 25) = .pointer (some ⟨E, 0, none⟩) := by rw [← hA]; kernel_rfl
    have s237 : ρ (.tmp 237) = ddV d := by rw [← hA]; kernel_rfl
    clear hA
    obtain ⟨E', he, hq⟩ := hwk
    obtain rfl : E = E' := by simpa using he
    clear he
    have hst := hq.store d
    obtain ⟨hlt, c0, c1, c2, c3, c4, c5, c6⟩ := hq.ri.deeds (E, ⟨0, 0, 0, 0, 0, 0, ⟨#[]⟩⟩) (by simp)
    simp only [Nat.zero_add] at hlt c0 c1 c2 c3 c4 c5 c6
    have f0 := hq.free 0 (by omega)
    have f1 := hq.free 1 (by omega)
    have f2 := hq.free 2 (by omega)
    have f3 := hq.free 3 (by omega)
    have f4 := hq.free 4 (by omega)
    have f5 := hq.free 5 (by omega)
    have f6 := hq.free 6 (by omega)
    go_simp
    exact hst
  refine wpGrow_big (some 26) w rfl (.bool false) rfl (by kernel_rfl) (fun wk hwk => ?_) ?_
  · refine growUpon_same ?_
    generalize hA : Act.eval _ = ρ
    have s238 : ρ (.tmp 238) = .bool false := by rw [← hA]; kernel_rfl
    clear hA
    go_simp
  go_big_quiet_op
  refine wpGrow_nil (fun w9 hw9 => ?_)
  have H9 : Hid (RIn w base R G pw sc bare K m ⟨4, k, at_, many, text⟩ [(E, d)] w9) := hw9.ri
  clear hw9 HIk
  go_wp2_with fail
  go_ret2
  exact ⟨rfl, H9.out.done⟩

set_option maxRecDepth 20000 in
set_option maxHeartbeats 6400000 in
theorem step4o {w : World} {base R G : Nat} {pw sc : Nat → Nat} {bare : Bool} {K : Nat → Prop} {m : Rm} (h : Room base R G pw sc bare K m w) (hi : RmI bare m) (x : RStep) (hd : x.do_ = 4) {k : Nat} (hk : k < 4) (hxw : x.w = k) {r : Wr} {ts : List (List Ch)} (he : m.p k = some (r, ts)) {d : Dd} (hsl : r.seen < m.b.ds.length) (hde : m.b.ds[r.seen] = d) (hne : d.by_ ≠ r.me) (hb0 : doC r.base d ((r.seen : Int) + 1) = 0) (hz : doC r.list d ((r.seen : Int) + 1) = 0) (hel : Wr.list ⟨r.me, r.seen + 1, r.next, doL r.base d ((r.seen : Int) + 1), r.opens, r.sent⟩ = doL r.list d ((r.seen : Int) + 1)) (hsy : saysC m.b k (Wr.least ⟨r.me, r.seen + 1, r.next, doL r.base d ((r.seen : Int) + 1), r.opens, r.sent⟩) = 0) :
    Calls Try.prog 20 #[.pointer (some ⟨R, 0, none⟩), rsV x] w fun e w' => e = .returned (.tuple #[.bool true, .bool false]) ∧ RStepped w base R G bare K ⟨saysB m.b k (Wr.least (⟨r.me, r.seen + 1, r.next, doL r.base d ((r.seen : Int) + 1), r.opens, r.sent⟩ : Wr)), setP m.p k (some (⟨r.me, r.seen + 1, r.next, doL r.base d ((r.seen : Int) + 1), r.opens, r.sent⟩, ts)), setP m.s k (some ⟨r.me, r.seen + 1, r.next, doL r.base d ((r.seen : Int) + 1), r.opens, r.sent⟩)⟩ w' := by
  have HIS : Hid (isD m.b ((r.seen : Int) + 1) = true) := (is_yes hsl).1
  have HND : Hid (nthD m.b ((r.seen : Int) + 1) = d) := (is_yes hsl).2.trans hde
  clear hsl hde
  have HNE : Hid (d.by_ ≠ r.me) := hne
  have HB0 : Hid (doC r.base d ((r.seen : Int) + 1) = 0) := hb0
  have HZ : Hid (doC r.list d ((r.seen : Int) + 1) = 0) := hz
  clear hne hb0 hz
  have HEL : Hid (Wr.list ⟨r.me, r.seen + 1, r.next, doL r.base d ((r.seen : Int) + 1), r.opens, r.sent⟩ = doL r.list d ((r.seen : Int) + 1)) := hel
  have HSY : Hid (saysC m.b k (Wr.least ⟨r.me, r.seen + 1, r.next, doL r.base d ((r.seen : Int) + 1), r.opens, r.sent⟩) = 0) := hsy
  clear hel hsy
  have HI : Hid (RIn w base R G pw sc bare K m x [] (w.alloc (.cells (rsCells x) 28))) := rin_start h x
  have HM : Hid (RmI bare m) := hi
  have HO : Hid (WOk r ts) := rmi_wok hi hk he
  obtain ⟨do_, w_, at_, many, text⟩ := x
  have hk0 : wrB (k : Int) = true := by simp [wrB]; omega
  obtain rfl : w_ = (k : Int) := hxw
  have hk4 : (k : Int) < 4 := by omega
  have HP : Hid (m.p k = some (r, ts)) := he
  have HS : Hid (m.s k = some r) := by show m.s k = _; rw [HM.out.both k hk, he]; rfl
  have hps : (m.p k).isSome = true := by rw [he]; rfl
  have hss : (m.s k).isSome = true := by rw [HS.out]; rfl
  obtain rfl : do_ = 4 := hd
  have HKL : Hid (∀ k, K k → k < w.heap.size) := fun k e => (h.kl e).2
  clear h hi he
  go_enter Try.func20, Try.ntmps20
  go_wp2_with (go_at_call 15; refine (isWriter_any _ _).mono ?_; rintro e w6 ⟨rfl, hw6⟩; rw [hk0, hw6]; clear hw6 w6)
  generalize World.alloc _ _ = w5 at *
  have c0 := HI.out.step.c0
  have c1 := HI.out.step.c1
  have c2 := HI.out.step.c2
  have c3 := HI.out.step.c3
  have c4 := HI.out.step.c4
  simp only [Nat.zero_add] at c0 c1 c2 c3 c4
  have g0 := HI.out.room.cells.log
  have g1 := HI.out.room.cells.wr k hk
  have g2 := HI.out.room.cells.sc k hk
  simp only [hps, hss, ptrOf, if_true] at g1 g2
  go_quiet (fail)
  go_wp2_with fail
  have HIk : Hid (RIn w base R G pw sc bare K m ⟨4, k, at_, many, text⟩ [] (w5.drewN nq)) := HI.out.after (below_drewN (Below.refl _ _) nq)
  generalize w5.drewN nq = w6 at *
  clear HI c0 c1 c2 c3 c4 g0 g1 g2
  refine wp_region_grow (fun wk => RIn w base R G pw sc bare K m ⟨4, k, at_, many, text⟩ [] wk) (fun i => i == 11 || i == 12) (fun wk => RIn w base R G pw sc bare K m ⟨4, k, at_, many, text⟩ [] wk) (by kernel_rfl) (by kernel_rfl) (by kernel_rfl) (fun _ h => h) (RIn.shut) (HIk.out.after (Below.refl _ _).drew) ?_
  refine wpGrow_big (some 229) w rfl (.pointer (some ⟨R, 0, none⟩)) rfl (by kernel_rfl) (fun wk hwk => ?_) ?_
  · refine growUpon_same ?_
    generalize hA : Act.eval _ = ρ
    have s0 : ρ (.tmp 0) = .pointer (some ⟨R, 0, none⟩) := by rw [← hA]; kernel_rfl
    clear hA
    go_simp
  go_big_quiet_op
  refine wpGrow_big (some 230) w rfl (.pointer (some ⟨R, 0, none⟩)) rfl (by kernel_rfl) (fun wk hwk => ?_) ?_
  · refine growUpon_same ?_
    generalize hA : Act.eval _ = ρ
    have s229 : ρ (.tmp 229) = .pointer (some ⟨R, 0, none⟩) := by rw [← hA]; kernel_rfl
    clear hA
    go_simp
  go_big_quiet_op
  refine wpGrow_big (some 231) w rfl (.pointer (some ⟨R, 0, none⟩)) rfl (by kernel_rfl) (fun wk hwk => ?_) ?_
  · refine growUpon_same ?_
    generalize hA : Act.eval _ = ρ
    have s230 : ρ (.tmp 230) = .pointer (some ⟨R, 0, none⟩) := by rw [← hA]; kernel_rfl
    clear hA
    go_simp
  go_big_quiet_op
  refine wpGrow_big (some 232) w rfl (.pointer (some ⟨G, 0, none⟩)) rfl (by kernel_rfl) (fun wk hwk => ?_) ?_
  · refine growUpon_same ?_
    generalize hA : Act.eval _ = ρ
    have s231 : ρ (.tmp 231) = .pointer (some ⟨R, 0, none⟩) := by rw [← hA]; kernel_rfl
    clear hA
    have g0 := hwk.room.cells.log
    go_simp
  go_big_quiet_op
  refine wpGrow_big (some 233) w rfl (.pointer (some ⟨pw k, 0, none⟩)) rfl (by kernel_rfl) (fun wk hwk => ?_) ?_
  · refine growUpon_same ?_
    generalize hA : Act.eval _ = ρ
    have s6 : ρ (.tmp 6) = .pointer (some ⟨pw k, 0, none⟩) := by rw [← hA]; kernel_rfl
    clear hA
    go_simp
  go_big_quiet_op
  refine wpGrow_big (some 234) w rfl (.int .i64 ((r.seen : Int))) rfl (by kernel_rfl) (fun wk hwk => ?_) ?_
  · generalize hA : Act.eval _ = ρ
    have s233 : ρ (.tmp 233) = .pointer (some ⟨pw k, 0, none⟩) := by rw [← hA]; kernel_rfl
    have sf : ρ (.func 17) = .func (.func 17) #[] #[] := by rw [← hA]; kernel_rfl
    clear hA
    unfold growUpon
    go_simp
    obtain ⟨S, lv, ov, tvs, hp, _⟩ := hwk.wr hk HP.out
    refine (seen_pw hp).mono ?_
    rintro e w7 ⟨rfl, rfl⟩
    exact ⟨rfl, Below.refl _ _⟩
  go_big_quiet_op
  refine wpGrow_big (some 235) w rfl (.int .i64 ((r.seen : Int) + 1)) rfl (by kernel_rfl) (fun wk hwk => ?_) ?_
  · refine growUpon_same ?_
    generalize hA : Act.eval _ = ρ
    have s234 : ρ (.tmp 234) = .int .i64 ((r.seen : Int)) := by rw [← hA]; kernel_rfl
    have k1 : ρ (.const (.int .i64 1)) = .int .i64 1 := by rw [← hA]; kernel_rfl
    clear hA
    have hsn := HO.out.seen
    go_simp
    rw [wrapEq]
    unfold wrap64
    omega
  go_big_quiet_op
  refine wpGrow_big (some 236) w rfl (.tuple #[ddV d, .bool true]) rfl (by kernel_rfl) (fun wk hwk => ?_) ?_
  · generalize hA : Act.eval _ = ρ
    have s232 : ρ (.tmp 232) = .pointer (some ⟨G, 0, none⟩) := by rw [← hA]; kernel_rfl
    have s235 : ρ (.tmp 235) = .int .i64 ((r.seen : Int) + 1) := by rw [← hA]; kernel_rfl
    have sf : ρ (.func 16) = .func (.func 16) #[] #[] := by rw [← hA]; kernel_rfl
    clear hA
    unfold growUpon
    go_simp
    obtain ⟨S, dv, lv, hl, _⟩ := hwk.log
    refine (deed_lg hl HM.out.good.small _).mono ?_
    rintro e w7 ⟨rfl, hb⟩
    exact ⟨by rw [HND.out, HIS.out], hb⟩
  go_big_quiet_op
  refine wpGrow_big (some 228) w rfl (.tuple #[ddV d, .bool true]) rfl (by kernel_rfl) (fun wk hwk => ?_) ?_
  · refine growUpon_same ?_
    generalize hA : Act.eval _ = ρ
    have s236 : ρ (.tmp 236) = .tuple #[ddV d, .bool true] := by rw [← hA]; kernel_rfl
    clear hA
    go_simp
  go_big_quiet_op
  refine wpGrow_big (some 237) w rfl (ddV d) rfl (by kernel_rfl) (fun wk hwk => ?_) ?_
  · refine growUpon_same ?_
    generalize hA : Act.eval _ = ρ
    have s228 : ρ (.tmp 228) = .tuple #[ddV d, .bool true] := by rw [← hA]; kernel_rfl
    clear hA
    go_simp
  go_big_quiet_op
  refine wpGrow_big (some 238) w rfl (.bool true) rfl (by kernel_rfl) (fun wk hwk => ?_) ?_
  · refine growUpon_same ?_
    generalize hA : Act.eval _ = ρ
    have s228 : ρ (.tmp 228) = .tuple #[ddV d, .bool true] := by rw [← hA]; kernel_rfl
    clear hA
    go_simp
  go_big_quiet_op
  refine wpGrow_bigSpine (some 25) w rfl rfl rfl (fun u => ∃ E, u = .pointer (some ⟨E, 0, none⟩)) (fun u wk => ∃ E, u = .pointer (some ⟨E, 0, none⟩) ∧ RBox w base R G pw sc bare K m ⟨4, k, at_, many, text⟩ [] E ⟨0, 0, 0, 0, 0, 0, ⟨#[]⟩⟩ wk) (⟨.pointer (some ⟨0, 0, none⟩), 0, rfl⟩) (fun _ _ ⟨_, _, h⟩ => h.ri.fewer (fun _ e => by cases e)) (fun _ _ _ ⟨E, e, h⟩ hb => ⟨E, e, RBox.shut _ _ h hb⟩) (fun wk hwk => ?_) (fun u11 hu11 => ?_)
  · generalize hA : Act.eval _ = ρ
    clear hA
    have hq := hwk.lay HKL.out
    go_simp
    exact ⟨⟨_, rfl⟩, _, rfl, hq⟩
  obtain ⟨E, rfl⟩ := hu11
  go_big_quiet_op
  refine wpGrow_bigStore rfl rfl rfl (fun wk => RBox w base R G pw sc bare K m ⟨4, k, at_, many, text⟩ [] E d wk) (fun _ h => h.ri.fewer (fun _ e => by cases e)) (RBox.shut) (fun wk hwk => ?_) ?_
  · generalize hA : Act.eval _ = ρ
    have s25 : ρ (.tmp 25) = .pointer (some ⟨E, 0, none⟩) := by rw [← hA]; kernel_rfl
    have s237 : ρ (.tmp 237) = ddV d := by rw [← hA]; kernel_rfl
    clear hA
    obtain ⟨E', he, hq⟩ := hwk
    obtain rfl : E = E' := by simpa using he
    clear he
    have hst := hq.store d
    obtain ⟨hlt, c0, c1, c2, c3, c4, c5, c6⟩ := hq.ri.deeds (E, ⟨0, 0, 0, 0, 0, 0, ⟨#[]⟩⟩) (by simp)
    simp only [Nat.zero_add] at hlt c0 c1 c2 c3 c4 c5 c6
    have f0 := hq.free 0 (by omega)
    have f1 := hq.free 1 (by omega)
    have f2 := hq.free 2 (by omega)
    have f3 := hq.free 3 (by omega)
    have f4 := hq.free 4 (by omega)
    have f5 := hq.free 5 (by omega)
    have f6 := hq.free 6 (by omega)
    go_simp
    exact hst
  refine wpGrow_big (some 26) w rfl (.bool true) rfl (by kernel_rfl) (fun wk hwk => ?_) ?_
  · refine growUpon_same ?_
    generalize hA : Act.eval _ = ρ
    have s238 : ρ (.tmp 238) = .bool true := by rw [← hA]; kernel_rfl
    clear hA
    go_simp
  go_big_quiet_op
  refine wpGrow_nil (fun w9 hw9 => ?_)
  have H9 : Hid (RIn w base R G pw sc bare K m ⟨4, k, at_, many, text⟩ [(E, d)] w9) := hw9.ri
  clear hw9 HIk
  obtain ⟨_, c0, c1, c2, c3, c4, c5, c6⟩ := H9.out.deeds (E, d) (by simp)
  simp only [Nat.zero_add] at c0 c1 c2 c3 c4 c5 c6
  go_wp2_with fail
  obtain ⟨S, lv, ov, tvs, hp, hs⟩ := H9.out.wr hk HP.out
  refine (hears_pw hp (by have := HO.out.len; omega) HO.out.fits (by have := HO.out.seen; omega) d HNE.out).mono ?_
  rintro e w10 ⟨rfl, h0, -⟩
  rw [HZ.out]
  have HI10 : Hid (RIn w base R G pw sc bare K ⟨m.b, setP m.p k (some (⟨r.me, r.seen + 1, r.next, doL r.base d ((r.seen : Int) + 1), r.opens, r.sent⟩, ts)), m.s⟩ ⟨4, k, at_, many, text⟩ [(E, d)] w10) := hs ⟨r.me, r.seen + 1, r.next, doL r.base d ((r.seen : Int) + 1), r.opens, r.sent⟩ ts w10 (by rw [HEL.out]; exact h0 HZ.out)
  clear h0 hs hp H9 c0 c1 c2 c3 c4 c5 c6
  obtain ⟨_, c0, c1, c2, c3, c4, c5, c6⟩ := HI10.out.deeds (E, d) (by simp)
  simp only [Nat.zero_add] at c0 c1 c2 c3 c4 c5 c6
  go_wp2_with fail
  obtain ⟨S2, bv, ov2, hq, hs2⟩ := HI10.out.scr hk HS.out
  have hz2 : doC (onTop r.base r.opens) d ((r.seen : Int) + 1) = 0 := HZ.out
  refine (hearSc_other hq (by have := HO.out.few; omega) HO.out.top (by have := HO.out.seen; omega) (by have := HO.out.base; omega) HO.out.tame d HNE.out HB0.out).mono ?_
  rintro e w11 ⟨rfl, h0, -⟩
  rw [hz2]
  have HI11 : Hid (RIn w base R G pw sc bare K ⟨m.b, setP m.p k (some (⟨r.me, r.seen + 1, r.next, doL r.base d ((r.seen : Int) + 1), r.opens, r.sent⟩, ts)), setP m.s k (some ⟨r.me, r.seen + 1, r.next, doL r.base d ((r.seen : Int) + 1), r.opens, r.sent⟩)⟩ ⟨4, k, at_, many, text⟩ [(E, d)] w11) := hs2 ⟨r.me, r.seen + 1, r.next, doL r.base d ((r.seen : Int) + 1), r.opens, r.sent⟩ w11 (h0 hz2)
  clear h0 hs2 hq hz2 HI10 c0 c1 c2 c3 c4 c5 c6
  go_wp2_with fail
  refine wp_region_grow (fun wk => RLog w base R G pw sc bare K (setP m.p k (some (⟨r.me, r.seen + 1, r.next, doL r.base d ((r.seen : Int) + 1), r.opens, r.sent⟩, ts))) (setP m.s k (some ⟨r.me, r.seen + 1, r.next, doL r.base d ((r.seen : Int) + 1), r.opens, r.sent⟩)) ⟨4, k, at_, many, text⟩ [(E, d)] wk) (fun i => i == 8) (fun wk => RIn w base R G pw sc bare K ⟨m.b, setP m.p k (some (⟨r.me, r.seen + 1, r.next, doL r.base d ((r.seen : Int) + 1), r.opens, r.sent⟩, ts)), setP m.s k (some ⟨r.me, r.seen + 1, r.next, doL r.base d ((r.seen : Int) + 1), r.opens, r.sent⟩)⟩ ⟨4, k, at_, many, text⟩ [(E, d)] wk) (by kernel_rfl) (by kernel_rfl) (by kernel_rfl) (fun _ h => ⟨_, h⟩) (RIn.shut) (HI11.out.after (Below.refl _ _).drew) ?_
  refine wpGrow_big (some 261) w rfl (.pointer (some ⟨R, 0, none⟩)) rfl (by kernel_rfl) (fun wk hwk => ?_) ?_
  · refine growUpon_same ?_
    generalize hA : Act.eval _ = ρ
    have s0 : ρ (.tmp 0) = .pointer (some ⟨R, 0, none⟩) := by rw [← hA]; kernel_rfl
    clear hA
    go_simp
  go_big_quiet_op
  refine wpGrow_big (some 262) w rfl (.pointer (some ⟨R, 0, none⟩)) rfl (by kernel_rfl) (fun wk hwk => ?_) ?_
  · refine growUpon_same ?_
    generalize hA : Act.eval _ = ρ
    have s261 : ρ (.tmp 261) = .pointer (some ⟨R, 0, none⟩) := by rw [← hA]; kernel_rfl
    clear hA
    go_simp
  go_big_quiet_op
  refine wpGrow_big (some 263) w rfl (.pointer (some ⟨R, 0, none⟩)) rfl (by kernel_rfl) (fun wk hwk => ?_) ?_
  · refine growUpon_same ?_
    generalize hA : Act.eval _ = ρ
    have s262 : ρ (.tmp 262) = .pointer (some ⟨R, 0, none⟩) := by rw [← hA]; kernel_rfl
    clear hA
    go_simp
  go_big_quiet_op
  refine wpGrow_big (some 264) w rfl (.pointer (some ⟨G, 0, none⟩)) rfl (by kernel_rfl) (fun wk hwk => ?_) ?_
  · refine growUpon_same ?_
    generalize hA : Act.eval _ = ρ
    have s263 : ρ (.tmp 263) = .pointer (some ⟨R, 0, none⟩) := by rw [← hA]; kernel_rfl
    clear hA
    obtain ⟨b, hr⟩ := hwk
    have g0 := hr.room.cells.log
    go_simp
  go_big_quiet_op
  refine wpGrow_big (some 265) w rfl (.pointer (some ⟨w.heap.size, 1, none⟩)) rfl (by kernel_rfl) (fun wk hwk => ?_) ?_
  · refine growUpon_same ?_
    generalize hA : Act.eval _ = ρ
    have s3 : ρ (.tmp 3) = .pointer (some ⟨w.heap.size, 0, none⟩) := by rw [← hA]; kernel_rfl
    clear hA
    go_simp
  go_big_quiet_op
  refine wpGrow_big (some 266) w rfl (.int .i64 ((k : Int))) rfl (by kernel_rfl) (fun wk hwk => ?_) ?_
  · refine growUpon_same ?_
    generalize hA : Act.eval _ = ρ
    have s265 : ρ (.tmp 265) = .pointer (some ⟨w.heap.size, 1, none⟩) := by rw [← hA]; kernel_rfl
    clear hA
    obtain ⟨b, hr⟩ := hwk
    have c1 := hr.step.c1
    simp only [Nat.zero_add] at c1
    go_simp
  go_big_quiet_op
  refine wpGrow_big (some 267) w rfl (.pointer (some ⟨pw k, 0, none⟩)) rfl (by kernel_rfl) (fun wk hwk => ?_) ?_
  · refine growUpon_same ?_
    generalize hA : Act.eval _ = ρ
    have s6 : ρ (.tmp 6) = .pointer (some ⟨pw k, 0, none⟩) := by rw [← hA]; kernel_rfl
    clear hA
    go_simp
  go_big_quiet_op
  refine wpGrow_big (some 268) w rfl (.int .i64 (Wr.least (⟨r.me, r.seen + 1, r.next, doL r.base d ((r.seen : Int) + 1), r.opens, r.sent⟩ : Wr))) rfl (by kernel_rfl) (fun wk hwk => ?_) ?_
  · generalize hA : Act.eval _ = ρ
    have s267 : ρ (.tmp 267) = .pointer (some ⟨pw k, 0, none⟩) := by rw [← hA]; kernel_rfl
    have sf : ρ (.func 45) = .func (.func 45) #[] #[] := by rw [← hA]; kernel_rfl
    clear hA
    unfold growUpon
    go_simp
    obtain ⟨b, hr⟩ := hwk
    obtain ⟨S, lv, ov, tvs, hp, _⟩ := hr.wr hk (setP_same _ _ _)
    refine (least_pw hp).mono ?_
    rintro e w7 ⟨rfl, hb⟩
    exact ⟨rfl, hb⟩
  go_big_quiet_op
  refine wpGrow_bigSpine (some 269) w rfl rfl rfl (fun u => u = .int .i64 0) (fun u wk => RIn w base R G pw sc bare K ⟨saysB m.b k (Wr.least (⟨r.me, r.seen + 1, r.next, doL r.base d ((r.seen : Int) + 1), r.opens, r.sent⟩ : Wr)), setP m.p k (some (⟨r.me, r.seen + 1, r.next, doL r.base d ((r.seen : Int) + 1), r.opens, r.sent⟩, ts)), setP m.s k (some ⟨r.me, r.seen + 1, r.next, doL r.base d ((r.seen : Int) + 1), r.opens, r.sent⟩)⟩ ⟨4, k, at_, many, text⟩ [(E, d)] wk) (⟨_, rfl⟩) (fun _ _ h => ⟨_, h⟩) (fun _ => RIn.shut) (fun wk hwk => ?_) (fun u8 hu8 => ?_)
  · generalize hA : Act.eval _ = ρ
    have s264 : ρ (.tmp 264) = .pointer (some ⟨G, 0, none⟩) := by rw [← hA]; kernel_rfl
    have s266 : ρ (.tmp 266) = .int .i64 ((k : Int)) := by rw [← hA]; kernel_rfl
    have s268 : ρ (.tmp 268) = .int .i64 (Wr.least (⟨r.me, r.seen + 1, r.next, doL r.base d ((r.seen : Int) + 1), r.opens, r.sent⟩ : Wr)) := by rw [← hA]; kernel_rfl
    have sf : ρ (.func 55) = .func (.func 55) #[] #[] := by rw [← hA]; kernel_rfl
    clear hA
    go_simp
    obtain ⟨S, dv, lv, hl, hs⟩ := hwk.log
    refine (says_lg hl _ _).mono ?_
    rintro e w7 ⟨rfl, hto⟩
    exact ⟨_, rfl, by rw [HSY.out], hs _ _ hto⟩
  subst hu8
  go_big_quiet_op
  refine wpGrow_big (some 270) w rfl (.bool true) rfl (by kernel_rfl) (fun wk hwk => ?_) ?_
  · refine growUpon_same ?_
    generalize hA : Act.eval _ = ρ
    have s269 : ρ (.tmp 269) = .int .i64 0 := by rw [← hA]; kernel_rfl
    have k1 : ρ (.const (.int .i64 0)) = .int .i64 0 := by rw [← hA]; kernel_rfl
    clear hA
    go_simp
  go_big_quiet_op
  refine wpGrow_big (some 4) w rfl (.bool true) rfl (by kernel_rfl) (fun wk hwk => ?_) ?_
  · refine growUpon_same ?_
    generalize hA : Act.eval _ = ρ
    have s270 : ρ (.tmp 270) = .bool true := by rw [← hA]; kernel_rfl
    clear hA
    go_simp
  go_big_quiet_op
  refine wpGrow_big (some 5) w rfl (.bool false) rfl (by kernel_rfl) (fun wk hwk => ?_) ?_
  · refine growUpon_same ?_
    generalize hA : Act.eval _ = ρ
    have k0 : ρ (.const (.bool false)) = .bool false := by rw [← hA]; kernel_rfl
    clear hA
    go_simp
  go_big_quiet_op
  refine wpGrow_nil (fun w12 hw12 => ?_)
  have H12 : Hid (RIn w base R G pw sc bare K ⟨saysB m.b k (Wr.least (⟨r.me, r.seen + 1, r.next, doL r.base d ((r.seen : Int) + 1), r.opens, r.sent⟩ : Wr)), setP m.p k (some (⟨r.me, r.seen + 1, r.next, doL r.base d ((r.seen : Int) + 1), r.opens, r.sent⟩, ts)), setP m.s k (some ⟨r.me, r.seen + 1, r.next, doL r.base d ((r.seen : Int) + 1), r.opens, r.sent⟩)⟩ ⟨4, k, at_, many, text⟩ [(E, d)] w12) := hw12
  clear hw12
  go_wp2_with fail
  go_ret2
  exact ⟨rfl, H12.out.done⟩

set_option maxRecDepth 20000 in
set_option maxHeartbeats 6400000 in
theorem step4f {w : World} {base R G : Nat} {pw sc : Nat → Nat} {bare : Bool} {K : Nat → Prop} {m : Rm} (h : Room base R G pw sc bare K m w) (hi : RmI bare m) (x : RStep) (hd : x.do_ = 4) {k : Nat} (hk : k < 4) (hxw : x.w = k) {r : Wr} {ts : List (List Ch)} (he : m.p k = some (r, ts)) {d : Dd} (hsl : r.seen < m.b.ds.length) (hde : m.b.ds[r.seen] = d) (hne : d.by_ ≠ r.me) (hb0 : doC r.base d ((r.seen : Int) + 1) = 0) (hz : doC r.list d ((r.seen : Int) + 1) = 9) :
    Calls Try.prog 20 #[.pointer (some ⟨R, 0, none⟩), rsV x] w fun e w' => e = .returned (.tuple #[.bool true, .bool true]) ∧ Below base w w' := by
  have HIS : Hid (isD m.b ((r.seen : Int) + 1) = true) := (is_yes hsl).1
  have HND : Hid (nthD m.b ((r.seen : Int) + 1) = d) := (is_yes hsl).2.trans hde
  clear hsl hde
  have HNE : Hid (d.by_ ≠ r.me) := hne
  have HB0 : Hid (doC r.base d ((r.seen : Int) + 1) = 0) := hb0
  have HZ : Hid (doC r.list d ((r.seen : Int) + 1) = 9) := hz
  clear hne hb0 hz
  have HI : Hid (RIn w base R G pw sc bare K m x [] (w.alloc (.cells (rsCells x) 28))) := rin_start h x
  have HM : Hid (RmI bare m) := hi
  have HO : Hid (WOk r ts) := rmi_wok hi hk he
  obtain ⟨do_, w_, at_, many, text⟩ := x
  have hk0 : wrB (k : Int) = true := by simp [wrB]; omega
  obtain rfl : w_ = (k : Int) := hxw
  have hk4 : (k : Int) < 4 := by omega
  have HP : Hid (m.p k = some (r, ts)) := he
  have HS : Hid (m.s k = some r) := by show m.s k = _; rw [HM.out.both k hk, he]; rfl
  have hps : (m.p k).isSome = true := by rw [he]; rfl
  have hss : (m.s k).isSome = true := by rw [HS.out]; rfl
  obtain rfl : do_ = 4 := hd
  have HKL : Hid (∀ k, K k → k < w.heap.size) := fun k e => (h.kl e).2
  clear h hi he
  go_enter Try.func20, Try.ntmps20
  go_wp2_with (go_at_call 15; refine (isWriter_any _ _).mono ?_; rintro e w6 ⟨rfl, hw6⟩; rw [hk0, hw6]; clear hw6 w6)
  generalize World.alloc _ _ = w5 at *
  have c0 := HI.out.step.c0
  have c1 := HI.out.step.c1
  have c2 := HI.out.step.c2
  have c3 := HI.out.step.c3
  have c4 := HI.out.step.c4
  simp only [Nat.zero_add] at c0 c1 c2 c3 c4
  have g0 := HI.out.room.cells.log
  have g1 := HI.out.room.cells.wr k hk
  have g2 := HI.out.room.cells.sc k hk
  simp only [hps, hss, ptrOf, if_true] at g1 g2
  go_quiet (fail)
  go_wp2_with fail
  have HIk : Hid (RIn w base R G pw sc bare K m ⟨4, k, at_, many, text⟩ [] (w5.drewN nq)) := HI.out.after (below_drewN (Below.refl _ _) nq)
  generalize w5.drewN nq = w6 at *
  clear HI c0 c1 c2 c3 c4 g0 g1 g2
  refine wp_region_grow (fun wk => RIn w base R G pw sc bare K m ⟨4, k, at_, many, text⟩ [] wk) (fun i => i == 11 || i == 12) (fun wk => RIn w base R G pw sc bare K m ⟨4, k, at_, many, text⟩ [] wk) (by kernel_rfl) (by kernel_rfl) (by kernel_rfl) (fun _ h => h) (RIn.shut) (HIk.out.after (Below.refl _ _).drew) ?_
  refine wpGrow_big (some 229) w rfl (.pointer (some ⟨R, 0, none⟩)) rfl (by kernel_rfl) (fun wk hwk => ?_) ?_
  · refine growUpon_same ?_
    generalize hA : Act.eval _ = ρ
    have s0 : ρ (.tmp 0) = .pointer (some ⟨R, 0, none⟩) := by rw [← hA]; kernel_rfl
    clear hA
    go_simp
  go_big_quiet_op
  refine wpGrow_big (some 230) w rfl (.pointer (some ⟨R, 0, none⟩)) rfl (by kernel_rfl) (fun wk hwk => ?_) ?_
  · refine growUpon_same ?_
    generalize hA : Act.eval _ = ρ
    have s229 : ρ (.tmp 229) = .pointer (some ⟨R, 0, none⟩) := by rw [← hA]; kernel_rfl
    clear hA
    go_simp
  go_big_quiet_op
  refine wpGrow_big (some 231) w rfl (.pointer (some ⟨R, 0, none⟩)) rfl (by kernel_rfl) (fun wk hwk => ?_) ?_
  · refine growUpon_same ?_
    generalize hA : Act.eval _ = ρ
    have s230 : ρ (.tmp 230) = .pointer (some ⟨R, 0, none⟩) := by rw [← hA]; kernel_rfl
    clear hA
    go_simp
  go_big_quiet_op
  refine wpGrow_big (some 232) w rfl (.pointer (some ⟨G, 0, none⟩)) rfl (by kernel_rfl) (fun wk hwk => ?_) ?_
  · refine growUpon_same ?_
    generalize hA : Act.eval _ = ρ
    have s231 : ρ (.tmp 231) = .pointer (some ⟨R, 0, none⟩) := by rw [← hA]; kernel_rfl
    clear hA
    have g0 := hwk.room.cells.log
    go_simp
  go_big_quiet_op
  refine wpGrow_big (some 233) w rfl (.pointer (some ⟨pw k, 0, none⟩)) rfl (by kernel_rfl) (fun wk hwk => ?_) ?_
  · refine growUpon_same ?_
    generalize hA : Act.eval _ = ρ
    have s6 : ρ (.tmp 6) = .pointer (some ⟨pw k, 0, none⟩) := by rw [← hA]; kernel_rfl
    clear hA
    go_simp
  go_big_quiet_op
  refine wpGrow_big (some 234) w rfl (.int .i64 ((r.seen : Int))) rfl (by kernel_rfl) (fun wk hwk => ?_) ?_
  · generalize hA : Act.eval _ = ρ
    have s233 : ρ (.tmp 233) = .pointer (some ⟨pw k, 0, none⟩) := by rw [← hA]; kernel_rfl
    have sf : ρ (.func 17) = .func (.func 17) #[] #[] := by rw [← hA]; kernel_rfl
    clear hA
    unfold growUpon
    go_simp
    obtain ⟨S, lv, ov, tvs, hp, _⟩ := hwk.wr hk HP.out
    refine (seen_pw hp).mono ?_
    rintro e w7 ⟨rfl, rfl⟩
    exact ⟨rfl, Below.refl _ _⟩
  go_big_quiet_op
  refine wpGrow_big (some 235) w rfl (.int .i64 ((r.seen : Int) + 1)) rfl (by kernel_rfl) (fun wk hwk => ?_) ?_
  · refine growUpon_same ?_
    generalize hA : Act.eval _ = ρ
    have s234 : ρ (.tmp 234) = .int .i64 ((r.seen : Int)) := by rw [← hA]; kernel_rfl
    have k1 : ρ (.const (.int .i64 1)) = .int .i64 1 := by rw [← hA]; kernel_rfl
    clear hA
    have hsn := HO.out.seen
    go_simp
    rw [wrapEq]
    unfold wrap64
    omega
  go_big_quiet_op
  refine wpGrow_big (some 236) w rfl (.tuple #[ddV d, .bool true]) rfl (by kernel_rfl) (fun wk hwk => ?_) ?_
  · generalize hA : Act.eval _ = ρ
    have s232 : ρ (.tmp 232) = .pointer (some ⟨G, 0, none⟩) := by rw [← hA]; kernel_rfl
    have s235 : ρ (.tmp 235) = .int .i64 ((r.seen : Int) + 1) := by rw [← hA]; kernel_rfl
    have sf : ρ (.func 16) = .func (.func 16) #[] #[] := by rw [← hA]; kernel_rfl
    clear hA
    unfold growUpon
    go_simp
    obtain ⟨S, dv, lv, hl, _⟩ := hwk.log
    refine (deed_lg hl HM.out.good.small _).mono ?_
    rintro e w7 ⟨rfl, hb⟩
    exact ⟨by rw [HND.out, HIS.out], hb⟩
  go_big_quiet_op
  refine wpGrow_big (some 228) w rfl (.tuple #[ddV d, .bool true]) rfl (by kernel_rfl) (fun wk hwk => ?_) ?_
  · refine growUpon_same ?_
    generalize hA : Act.eval _ = ρ
    have s236 : ρ (.tmp 236) = .tuple #[ddV d, .bool true] := by rw [← hA]; kernel_rfl
    clear hA
    go_simp
  go_big_quiet_op
  refine wpGrow_big (some 237) w rfl (ddV d) rfl (by kernel_rfl) (fun wk hwk => ?_) ?_
  · refine growUpon_same ?_
    generalize hA : Act.eval _ = ρ
    have s228 : ρ (.tmp 228) = .tuple #[ddV d, .bool true] := by rw [← hA]; kernel_rfl
    clear hA
    go_simp
  go_big_quiet_op
  refine wpGrow_big (some 238) w rfl (.bool true) rfl (by kernel_rfl) (fun wk hwk => ?_) ?_
  · refine growUpon_same ?_
    generalize hA : Act.eval _ = ρ
    have s228 : ρ (.tmp 228) = .tuple #[ddV d, .bool true] := by rw [← hA]; kernel_rfl
    clear hA
    go_simp
  go_big_quiet_op
  refine wpGrow_bigSpine (some 25) w rfl rfl rfl (fun u => ∃ E, u = .pointer (some ⟨E, 0, none⟩)) (fun u wk => ∃ E, u = .pointer (some ⟨E, 0, none⟩) ∧ RBox w base R G pw sc bare K m ⟨4, k, at_, many, text⟩ [] E ⟨0, 0, 0, 0, 0, 0, ⟨#[]⟩⟩ wk) (⟨.pointer (some ⟨0, 0, none⟩), 0, rfl⟩) (fun _ _ ⟨_, _, h⟩ => h.ri.fewer (fun _ e => by cases e)) (fun _ _ _ ⟨E, e, h⟩ hb => ⟨E, e, RBox.shut _ _ h hb⟩) (fun wk hwk => ?_) (fun u11 hu11 => ?_)
  · generalize hA : Act.eval _ = ρ
    clear hA
    have hq := hwk.lay HKL.out
    go_simp
    exact ⟨⟨_, rfl⟩, _, rfl, hq⟩
  obtain ⟨E, rfl⟩ := hu11
  go_big_quiet_op
  refine wpGrow_bigStore rfl rfl rfl (fun wk => RBox w base R G pw sc bare K m ⟨4, k, at_, many, text⟩ [] E d wk) (fun _ h => h.ri.fewer (fun _ e => by cases e)) (RBox.shut) (fun wk hwk => ?_) ?_
  · generalize hA : Act.eval _ = ρ
    have s25 : ρ (.tmp 25) = .pointer (some ⟨E, 0, none⟩) := by rw [← hA]; kernel_rfl
    have s237 : ρ (.tmp 237) = ddV d := by rw [← hA]; kernel_rfl
    clear hA
    obtain ⟨E', he, hq⟩ := hwk
    obtain rfl : E = E' := by simpa using he
    clear he
    have hst := hq.store d
    obtain ⟨hlt, c0, c1, c2, c3, c4, c5, c6⟩ := hq.ri.deeds (E, ⟨0, 0, 0, 0, 0, 0, ⟨#[]⟩⟩) (by simp)
    simp only [Nat.zero_add] at hlt c0 c1 c2 c3 c4 c5 c6
    have f0 := hq.free 0 (by omega)
    have f1 := hq.free 1 (by omega)
    have f2 := hq.free 2 (by omega)
    have f3 := hq.free 3 (by omega)
    have f4 := hq.free 4 (by omega)
    have f5 := hq.free 5 (by omega)
    have f6 := hq.free 6 (by omega)
    go_simp
    exact hst
  refine wpGrow_big (some 26) w rfl (.bool true) rfl (by kernel_rfl) (fun wk hwk => ?_) ?_
  · refine growUpon_same ?_
    generalize hA : Act.eval _ = ρ
    have s238 : ρ (.tmp 238) = .bool true := by rw [← hA]; kernel_rfl
    clear hA
    go_simp
  go_big_quiet_op
  refine wpGrow_nil (fun w9 hw9 => ?_)
  have H9 : Hid (RIn w base R G pw sc bare K m ⟨4, k, at_, many, text⟩ [(E, d)] w9) := hw9.ri
  clear hw9 HIk
  obtain ⟨_, c0, c1, c2, c3, c4, c5, c6⟩ := H9.out.deeds (E, d) (by simp)
  simp only [Nat.zero_add] at c0 c1 c2 c3 c4 c5 c6
  go_wp2_with fail
  obtain ⟨S, lv, ov, tvs, hp, hs⟩ := H9.out.wr hk HP.out
  refine (hears_pw hp (by have := HO.out.len; omega) HO.out.fits (by have := HO.out.seen; omega) d HNE.out).mono ?_
  rintro e w10 ⟨rfl, -, h0⟩
  have h0' := h0 (by rw [HZ.out]; decide)
  rw [HZ.out]
  have HI10 : Hid (RIn w base R G pw sc bare K m ⟨4, k, at_, many, text⟩ [(E, d)] w10) := H9.out.after h0'
  clear h0 h0' hs hp H9 c0 c1 c2 c3 c4 c5 c6
  obtain ⟨_, c0, c1, c2, c3, c4, c5, c6⟩ := HI10.out.deeds (E, d) (by simp)
  simp only [Nat.zero_add] at c0 c1 c2 c3 c4 c5 c6
  go_wp2_with fail
  obtain ⟨S2, bv, ov2, hq, hs2⟩ := HI10.out.scr hk HS.out
  have hz2 : doC (onTop r.base r.opens) d ((r.seen : Int) + 1) = 9 := HZ.out
  refine (hearSc_other hq (by have := HO.out.few; omega) HO.out.top (by have := HO.out.seen; omega) (by have := HO.out.base; omega) HO.out.tame d HNE.out HB0.out).mono ?_
  rintro e w11 ⟨rfl, -, h1⟩
  have h1' := h1 (by rw [hz2]; decide)
  rw [hz2]
  have HI11 : Hid (RIn w base R G pw sc bare K m ⟨4, k, at_, many, text⟩ [(E, d)] w11) := HI10.out.after h1'
  clear h1 h1' hs2 hq hz2 HI10 c0 c1 c2 c3 c4 c5 c6
  go_wp2_with fail
  go_ret2
  exact ⟨rfl, HI11.out.below⟩

set_option maxRecDepth 20000 in
set_option maxHeartbeats 6400000 in
theorem step4w {w : World} {base R G : Nat} {pw sc : Nat → Nat} {bare : Bool} {K : Nat → Prop} {m : Rm} (h : Room base R G pw sc bare K m w) (hi : RmI bare m) (x : RStep) (hd : x.do_ = 4) {k : Nat} (hk : k < 4) (hxw : x.w = k) {r : Wr} {t : List Ch} {ts1 : List (List Ch)} (he : m.p k = some (r, t :: ts1)) {d : Dd} (hsl : r.seen < m.b.ds.length) (hde : m.b.ds[r.seen] = d) (hbm : d.by_ = r.me) {es : List Dd} {s : Nat} (hop : r.opens = d :: es) (hsn : r.sent = s + 1) (hb0 : doC r.base d ((r.seen : Int) + 1) = 0) (hel : Wr.list ⟨r.me, r.seen + 1, r.next, doL r.base d ((r.seen : Int) + 1), es, s⟩ = r.list.map (ackF d.no ((r.seen : Int) + 1) t)) (hsy : saysC m.b k (Wr.least ⟨r.me, r.seen + 1, r.next, doL r.base d ((r.seen : Int) + 1), es, s⟩) = 0) :
    Calls Try.prog 20 #[.pointer (some ⟨R, 0, none⟩), rsV x] w fun e w' => e = .returned (.tuple #[.bool true, .bool false]) ∧ RStepped w base R G bare K ⟨saysB m.b k (Wr.least (⟨r.me, r.seen + 1, r.next, doL r.base d ((r.seen : Int) + 1), es, s⟩ : Wr)), setP m.p k (some (⟨r.me, r.seen + 1, r.next, doL r.base d ((r.seen : Int) + 1), es, s⟩, (ts1.map fun (u : List Ch) => u.map (numF d.no ((r.seen : Int) + 1))))), setP m.s k (some ⟨r.me, r.seen + 1, r.next, doL r.base d ((r.seen : Int) + 1), es, s⟩)⟩ w' := by
  have HIS : Hid (isD m.b ((r.seen : Int) + 1) = true) := (is_yes hsl).1
  have HND : Hid (nthD m.b ((r.seen : Int) + 1) = d) := (is_yes hsl).2.trans hde
  clear hsl hde
  have HBM : Hid (d.by_ = r.me) := hbm
  have HB0 : Hid (doC r.base d ((r.seen : Int) + 1) = 0) := hb0
  have HOP : Hid (r.opens = d :: es) := hop
  have HSN : Hid (r.sent = s + 1) := hsn
  have HEL : Hid (Wr.list ⟨r.me, r.seen + 1, r.next, doL r.base d ((r.seen : Int) + 1), es, s⟩ = r.list.map (ackF d.no ((r.seen : Int) + 1) t)) := hel
  have HSY : Hid (saysC m.b k (Wr.least ⟨r.me, r.seen + 1, r.next, doL r.base d ((r.seen : Int) + 1), es, s⟩) = 0) := hsy
  clear hel hsy hbm hb0 hop hsn
  have HI : Hid (RIn w base R G pw sc bare K m x [] (w.alloc (.cells (rsCells x) 28))) := rin_start h x
  have HM : Hid (RmI bare m) := hi
  have HO : Hid (WOk r (t :: ts1)) := rmi_wok hi hk he
  obtain ⟨do_, w_, at_, many, text⟩ := x
  have hk0 : wrB (k : Int) = true := by simp [wrB]; omega
  obtain rfl : w_ = (k : Int) := hxw
  have hk4 : (k : Int) < 4 := by omega
  have HP : Hid (m.p k = some (r, t :: ts1)) := he
  have HS : Hid (m.s k = some r) := by show m.s k = _; rw [HM.out.both k hk, he]; rfl
  have hps : (m.p k).isSome = true := by rw [he]; rfl
  have hss : (m.s k).isSome = true := by rw [HS.out]; rfl
  obtain rfl : do_ = 4 := hd
  have HKL : Hid (∀ k, K k → k < w.heap.size) := fun k e => (h.kl e).2
  clear h hi he
  go_enter Try.func20, Try.ntmps20
  go_wp2_with (go_at_call 15; refine (isWriter_any _ _).mono ?_; rintro e w6 ⟨rfl, hw6⟩; rw [hk0, hw6]; clear hw6 w6)
  generalize World.alloc _ _ = w5 at *
  have c0 := HI.out.step.c0
  have c1 := HI.out.step.c1
  have c2 := HI.out.step.c2
  have c3 := HI.out.step.c3
  have c4 := HI.out.step.c4
  simp only [Nat.zero_add] at c0 c1 c2 c3 c4
  have g0 := HI.out.room.cells.log
  have g1 := HI.out.room.cells.wr k hk
  have g2 := HI.out.room.cells.sc k hk
  simp only [hps, hss, ptrOf, if_true] at g1 g2
  go_quiet (fail)
  go_wp2_with fail
  have HIk : Hid (RIn w base R G pw sc bare K m ⟨4, k, at_, many, text⟩ [] (w5.drewN nq)) := HI.out.after (below_drewN (Below.refl _ _) nq)
  generalize w5.drewN nq = w6 at *
  clear HI c0 c1 c2 c3 c4 g0 g1 g2
  refine wp_region_grow (fun wk => RIn w base R G pw sc bare K m ⟨4, k, at_, many, text⟩ [] wk) (fun i => i == 11 || i == 12) (fun wk => RIn w base R G pw sc bare K m ⟨4, k, at_, many, text⟩ [] wk) (by kernel_rfl) (by kernel_rfl) (by kernel_rfl) (fun _ h => h) (RIn.shut) (HIk.out.after (Below.refl _ _).drew) ?_
  refine wpGrow_big (some 229) w rfl (.pointer (some ⟨R, 0, none⟩)) rfl (by kernel_rfl) (fun wk hwk => ?_) ?_
  · refine growUpon_same ?_
    generalize hA : Act.eval _ = ρ
    have s0 : ρ (.tmp 0) = .pointer (some ⟨R, 0, none⟩) := by rw [← hA]; kernel_rfl
    clear hA
    go_simp
  go_big_quiet_op
  refine wpGrow_big (some 230) w rfl (.pointer (some ⟨R, 0, none⟩)) rfl (by kernel_rfl) (fun wk hwk => ?_) ?_
  · refine growUpon_same ?_
    generalize hA : Act.eval _ = ρ
    have s229 : ρ (.tmp 229) = .pointer (some ⟨R, 0, none⟩) := by rw [← hA]; kernel_rfl
    clear hA
    go_simp
  go_big_quiet_op
  refine wpGrow_big (some 231) w rfl (.pointer (some ⟨R, 0, none⟩)) rfl (by kernel_rfl) (fun wk hwk => ?_) ?_
  · refine growUpon_same ?_
    generalize hA : Act.eval _ = ρ
    have s230 : ρ (.tmp 230) = .pointer (some ⟨R, 0, none⟩) := by rw [← hA]; kernel_rfl
    clear hA
    go_simp
  go_big_quiet_op
  refine wpGrow_big (some 232) w rfl (.pointer (some ⟨G, 0, none⟩)) rfl (by kernel_rfl) (fun wk hwk => ?_) ?_
  · refine growUpon_same ?_
    generalize hA : Act.eval _ = ρ
    have s231 : ρ (.tmp 231) = .pointer (some ⟨R, 0, none⟩) := by rw [← hA]; kernel_rfl
    clear hA
    have g0 := hwk.room.cells.log
    go_simp
  go_big_quiet_op
  refine wpGrow_big (some 233) w rfl (.pointer (some ⟨pw k, 0, none⟩)) rfl (by kernel_rfl) (fun wk hwk => ?_) ?_
  · refine growUpon_same ?_
    generalize hA : Act.eval _ = ρ
    have s6 : ρ (.tmp 6) = .pointer (some ⟨pw k, 0, none⟩) := by rw [← hA]; kernel_rfl
    clear hA
    go_simp
  go_big_quiet_op
  refine wpGrow_big (some 234) w rfl (.int .i64 ((r.seen : Int))) rfl (by kernel_rfl) (fun wk hwk => ?_) ?_
  · generalize hA : Act.eval _ = ρ
    have s233 : ρ (.tmp 233) = .pointer (some ⟨pw k, 0, none⟩) := by rw [← hA]; kernel_rfl
    have sf : ρ (.func 17) = .func (.func 17) #[] #[] := by rw [← hA]; kernel_rfl
    clear hA
    unfold growUpon
    go_simp
    obtain ⟨S, lv, ov, tvs, hp, _⟩ := hwk.wr hk HP.out
    refine (seen_pw hp).mono ?_
    rintro e w7 ⟨rfl, rfl⟩
    exact ⟨rfl, Below.refl _ _⟩
  go_big_quiet_op
  refine wpGrow_big (some 235) w rfl (.int .i64 ((r.seen : Int) + 1)) rfl (by kernel_rfl) (fun wk hwk => ?_) ?_
  · refine growUpon_same ?_
    generalize hA : Act.eval _ = ρ
    have s234 : ρ (.tmp 234) = .int .i64 ((r.seen : Int)) := by rw [← hA]; kernel_rfl
    have k1 : ρ (.const (.int .i64 1)) = .int .i64 1 := by rw [← hA]; kernel_rfl
    clear hA
    have hsn := HO.out.seen
    go_simp
    rw [wrapEq]
    unfold wrap64
    omega
  go_big_quiet_op
  refine wpGrow_big (some 236) w rfl (.tuple #[ddV d, .bool true]) rfl (by kernel_rfl) (fun wk hwk => ?_) ?_
  · generalize hA : Act.eval _ = ρ
    have s232 : ρ (.tmp 232) = .pointer (some ⟨G, 0, none⟩) := by rw [← hA]; kernel_rfl
    have s235 : ρ (.tmp 235) = .int .i64 ((r.seen : Int) + 1) := by rw [← hA]; kernel_rfl
    have sf : ρ (.func 16) = .func (.func 16) #[] #[] := by rw [← hA]; kernel_rfl
    clear hA
    unfold growUpon
    go_simp
    obtain ⟨S, dv, lv, hl, _⟩ := hwk.log
    refine (deed_lg hl HM.out.good.small _).mono ?_
    rintro e w7 ⟨rfl, hb⟩
    exact ⟨by rw [HND.out, HIS.out], hb⟩
  go_big_quiet_op
  refine wpGrow_big (some 228) w rfl (.tuple #[ddV d, .bool true]) rfl (by kernel_rfl) (fun wk hwk => ?_) ?_
  · refine growUpon_same ?_
    generalize hA : Act.eval _ = ρ
    have s236 : ρ (.tmp 236) = .tuple #[ddV d, .bool true] := by rw [← hA]; kernel_rfl
    clear hA
    go_simp
  go_big_quiet_op
  refine wpGrow_big (some 237) w rfl (ddV d) rfl (by kernel_rfl) (fun wk hwk => ?_) ?_
  · refine growUpon_same ?_
    generalize hA : Act.eval _ = ρ
    have s228 : ρ (.tmp 228) = .tuple #[ddV d, .bool true] := by rw [← hA]; kernel_rfl
    clear hA
    go_simp
  go_big_quiet_op
  refine wpGrow_big (some 238) w rfl (.bool true) rfl (by kernel_rfl) (fun wk hwk => ?_) ?_
  · refine growUpon_same ?_
    generalize hA : Act.eval _ = ρ
    have s228 : ρ (.tmp 228) = .tuple #[ddV d, .bool true] := by rw [← hA]; kernel_rfl
    clear hA
    go_simp
  go_big_quiet_op
  refine wpGrow_bigSpine (some 25) w rfl rfl rfl (fun u => ∃ E, u = .pointer (some ⟨E, 0, none⟩)) (fun u wk => ∃ E, u = .pointer (some ⟨E, 0, none⟩) ∧ RBox w base R G pw sc bare K m ⟨4, k, at_, many, text⟩ [] E ⟨0, 0, 0, 0, 0, 0, ⟨#[]⟩⟩ wk) (⟨.pointer (some ⟨0, 0, none⟩), 0, rfl⟩) (fun _ _ ⟨_, _, h⟩ => h.ri.fewer (fun _ e => by cases e)) (fun _ _ _ ⟨E, e, h⟩ hb => ⟨E, e, RBox.shut _ _ h hb⟩) (fun wk hwk => ?_) (fun u11 hu11 => ?_)
  · generalize hA : Act.eval _ = ρ
    clear hA
    have hq := hwk.lay HKL.out
    go_simp
    exact ⟨⟨_, rfl⟩, _, rfl, hq⟩
  obtain ⟨E, rfl⟩ := hu11
  go_big_quiet_op
  refine wpGrow_bigStore rfl rfl rfl (fun wk => RBox w base R G pw sc bare K m ⟨4, k, at_, many, text⟩ [] E d wk) (fun _ h => h.ri.fewer (fun _ e => by cases e)) (RBox.shut) (fun wk hwk => ?_) ?_
  · generalize hA : Act.eval _ = ρ
    have s25 : ρ (.tmp 25) = .pointer (some ⟨E, 0, none⟩) := by rw [← hA]; kernel_rfl
    have s237 : ρ (.tmp 237) = ddV d := by rw [← hA]; kernel_rfl
    clear hA
    obtain ⟨E', he, hq⟩ := hwk
    obtain rfl : E = E' := by simpa using he
    clear he
    have hst := hq.store d
    obtain ⟨hlt, c0, c1, c2, c3, c4, c5, c6⟩ := hq.ri.deeds (E, ⟨0, 0, 0, 0, 0, 0, ⟨#[]⟩⟩) (by simp)
    simp only [Nat.zero_add] at hlt c0 c1 c2 c3 c4 c5 c6
    have f0 := hq.free 0 (by omega)
    have f1 := hq.free 1 (by omega)
    have f2 := hq.free 2 (by omega)
    have f3 := hq.free 3 (by omega)
    have f4 := hq.free 4 (by omega)
    have f5 := hq.free 5 (by omega)
    have f6 := hq.free 6 (by omega)
    go_simp
    exact hst
  refine wpGrow_big (some 26) w rfl (.bool true) rfl (by kernel_rfl) (fun wk hwk => ?_) ?_
  · refine growUpon_same ?_
    generalize hA : Act.eval _ = ρ
    have s238 : ρ (.tmp 238) = .bool true := by rw [← hA]; kernel_rfl
    clear hA
    go_simp
  go_big_quiet_op
  refine wpGrow_nil (fun w9 hw9 => ?_)
  have H9 : Hid (RIn w base R G pw sc bare K m ⟨4, k, at_, many, text⟩ [(E, d)] w9) := hw9.ri
  clear hw9 HIk
  obtain ⟨_, c0, c1, c2, c3, c4, c5, c6⟩ := H9.out.deeds (E, d) (by simp)
  simp only [Nat.zero_add] at c0 c1 c2 c3 c4 c5 c6
  go_wp2_with fail
  obtain ⟨S, lv, ov, tvs, hp, hs⟩ := H9.out.wr hk HP.out
  have hp' : PwAt w9 base S (pw k) lv ov tvs r.list (d :: es) (t :: ts1) r.me r.next r.seen ((s : Int) + 1) := by
    have h1 := hp
    rw [HOP.out, HSN.out] at h1
    exact h1
  have hfew : es.length ≤ 1000 ∧ s ≤ 1000 := by
    have h1 := HO.out.few
    have h2 := hsent HM.out hk HP.out
    rw [HSN.out] at h2
    rw [HOP.out, List.length_cons] at h1 h2
    omega
  refine (heard_own hp' HBM.out (by have := HO.out.len; omega) hfew.1 HO.out.took (by have := HO.out.seen; omega) hfew.2).mono ?_
  rintro e w10 ⟨rfl, hto⟩
  have HI10 : Hid (RIn w base R G pw sc bare K ⟨m.b, setP m.p k (some (⟨r.me, r.seen + 1, r.next, doL r.base d ((r.seen : Int) + 1), es, s⟩, (ts1.map fun (u : List Ch) => u.map (numF d.no ((r.seen : Int) + 1))))), m.s⟩ ⟨4, k, at_, many, text⟩ [(E, d)] w10) := hs ⟨r.me, r.seen + 1, r.next, doL r.base d ((r.seen : Int) + 1), es, s⟩ (ts1.map fun (u : List Ch) => u.map (numF d.no ((r.seen : Int) + 1))) w10 (by rw [HEL.out]; exact hto)
  clear hto hs hp hp' H9 c0 c1 c2 c3 c4 c5 c6
  obtain ⟨_, c0, c1, c2, c3, c4, c5, c6⟩ := HI10.out.deeds (E, d) (by simp)
  simp only [Nat.zero_add] at c0 c1 c2 c3 c4 c5 c6
  go_wp2_with fail
  obtain ⟨S2, bv, ov2, hq, hs2⟩ := HI10.out.scr hk HS.out
  have hq' : ScAt w10 base S2 (sc k) bv ov2 r.base (d :: es) r.me r.seen r.next ((s : Int) + 1) := by
    have h1 := hq
    rw [HOP.out, HSN.out] at h1
    exact h1
  refine (hearSc_own hq' hfew.1 (by have := HO.out.seen; omega) hfew.2 (by have := HO.out.base; omega) HO.out.tame HBM.out HB0.out).mono ?_
  rintro e w11 ⟨rfl, hto⟩
  have HI11 : Hid (RIn w base R G pw sc bare K ⟨m.b, setP m.p k (some (⟨r.me, r.seen + 1, r.next, doL r.base d ((r.seen : Int) + 1), es, s⟩, (ts1.map fun (u : List Ch) => u.map (numF d.no ((r.seen : Int) + 1))))), setP m.s k (some ⟨r.me, r.seen + 1, r.next, doL r.base d ((r.seen : Int) + 1), es, s⟩)⟩ ⟨4, k, at_, many, text⟩ [(E, d)] w11) := hs2 ⟨r.me, r.seen + 1, r.next, doL r.base d ((r.seen : Int) + 1), es, s⟩ w11 hto
  clear hto hs2 hq hq' hfew HI10 c0 c1 c2 c3 c4 c5 c6
  go_wp2_with fail
  refine wp_region_grow (fun wk => RLog w base R G pw sc bare K (setP m.p k (some (⟨r.me, r.seen + 1, r.next, doL r.base d ((r.seen : Int) + 1), es, s⟩, (ts1.map fun (u : List Ch) => u.map (numF d.no ((r.seen : Int) + 1)))))) (setP m.s k (some ⟨r.me, r.seen + 1, r.next, doL r.base d ((r.seen : Int) + 1), es, s⟩)) ⟨4, k, at_, many, text⟩ [(E, d)] wk) (fun i => i == 8) (fun wk => RIn w base R G pw sc bare K ⟨m.b, setP m.p k (some (⟨r.me, r.seen + 1, r.next, doL r.base d ((r.seen : Int) + 1), es, s⟩, (ts1.map fun (u : List Ch) => u.map (numF d.no ((r.seen : Int) + 1))))), setP m.s k (some ⟨r.me, r.seen + 1, r.next, doL r.base d ((r.seen : Int) + 1), es, s⟩)⟩ ⟨4, k, at_, many, text⟩ [(E, d)] wk) (by kernel_rfl) (by kernel_rfl) (by kernel_rfl) (fun _ h => ⟨_, h⟩) (RIn.shut) (HI11.out.after (Below.refl _ _).drew) ?_
  refine wpGrow_big (some 261) w rfl (.pointer (some ⟨R, 0, none⟩)) rfl (by kernel_rfl) (fun wk hwk => ?_) ?_
  · refine growUpon_same ?_
    generalize hA : Act.eval _ = ρ
    have s0 : ρ (.tmp 0) = .pointer (some ⟨R, 0, none⟩) := by rw [← hA]; kernel_rfl
    clear hA
    go_simp
  go_big_quiet_op
  refine wpGrow_big (some 262) w rfl (.pointer (some ⟨R, 0, none⟩)) rfl (by kernel_rfl) (fun wk hwk => ?_) ?_
  · refine growUpon_same ?_
    generalize hA : Act.eval _ = ρ
    have s261 : ρ (.tmp 261) = .pointer (some ⟨R, 0, none⟩) := by rw [← hA]; kernel_rfl
    clear hA
    go_simp
  go_big_quiet_op
  refine wpGrow_big (some 263) w rfl (.pointer (some ⟨R, 0, none⟩)) rfl (by kernel_rfl) (fun wk hwk => ?_) ?_
  · refine growUpon_same ?_
    generalize hA : Act.eval _ = ρ
    have s262 : ρ (.tmp 262) = .pointer (some ⟨R, 0, none⟩) := by rw [← hA]; kernel_rfl
    clear hA
    go_simp
  go_big_quiet_op
  refine wpGrow_big (some 264) w rfl (.pointer (some ⟨G, 0, none⟩)) rfl (by kernel_rfl) (fun wk hwk => ?_) ?_
  · refine growUpon_same ?_
    generalize hA : Act.eval _ = ρ
    have s263 : ρ (.tmp 263) = .pointer (some ⟨R, 0, none⟩) := by rw [← hA]; kernel_rfl
    clear hA
    obtain ⟨b, hr⟩ := hwk
    have g0 := hr.room.cells.log
    go_simp
  go_big_quiet_op
  refine wpGrow_big (some 265) w rfl (.pointer (some ⟨w.heap.size, 1, none⟩)) rfl (by kernel_rfl) (fun wk hwk => ?_) ?_
  · refine growUpon_same ?_
    generalize hA : Act.eval _ = ρ
    have s3 : ρ (.tmp 3) = .pointer (some ⟨w.heap.size, 0, none⟩) := by rw [← hA]; kernel_rfl
    clear hA
    go_simp
  go_big_quiet_op
  refine wpGrow_big (some 266) w rfl (.int .i64 ((k : Int))) rfl (by kernel_rfl) (fun wk hwk => ?_) ?_
  · refine growUpon_same ?_
    generalize hA : Act.eval _ = ρ
    have s265 : ρ (.tmp 265) = .pointer (some ⟨w.heap.size, 1, none⟩) := by rw [← hA]; kernel_rfl
    clear hA
    obtain ⟨b, hr⟩ := hwk
    have c1 := hr.step.c1
    simp only [Nat.zero_add] at c1
    go_simp
  go_big_quiet_op
  refine wpGrow_big (some 267) w rfl (.pointer (some ⟨pw k, 0, none⟩)) rfl (by kernel_rfl) (fun wk hwk => ?_) ?_
  · refine growUpon_same ?_
    generalize hA : Act.eval _ = ρ
    have s6 : ρ (.tmp 6) = .pointer (some ⟨pw k, 0, none⟩) := by rw [← hA]; kernel_rfl
    clear hA
    go_simp
  go_big_quiet_op
  refine wpGrow_big (some 268) w rfl (.int .i64 (Wr.least (⟨r.me, r.seen + 1, r.next, doL r.base d ((r.seen : Int) + 1), es, s⟩ : Wr))) rfl (by kernel_rfl) (fun wk hwk => ?_) ?_
  · generalize hA : Act.eval _ = ρ
    have s267 : ρ (.tmp 267) = .pointer (some ⟨pw k, 0, none⟩) := by rw [← hA]; kernel_rfl
    have sf : ρ (.func 45) = .func (.func 45) #[] #[] := by rw [← hA]; kernel_rfl
    clear hA
    unfold growUpon
    go_simp
    obtain ⟨b, hr⟩ := hwk
    obtain ⟨S, lv, ov, tvs, hp, _⟩ := hr.wr hk (setP_same _ _ _)
    refine (least_pw hp).mono ?_
    rintro e w7 ⟨rfl, hb⟩
    exact ⟨rfl, hb⟩
  go_big_quiet_op
  refine wpGrow_bigSpine (some 269) w rfl rfl rfl (fun u => u = .int .i64 0) (fun u wk => RIn w base R G pw sc bare K ⟨saysB m.b k (Wr.least (⟨r.me, r.seen + 1, r.next, doL r.base d ((r.seen : Int) + 1), es, s⟩ : Wr)), setP m.p k (some (⟨r.me, r.seen + 1, r.next, doL r.base d ((r.seen : Int) + 1), es, s⟩, (ts1.map fun (u : List Ch) => u.map (numF d.no ((r.seen : Int) + 1))))), setP m.s k (some ⟨r.me, r.seen + 1, r.next, doL r.base d ((r.seen : Int) + 1), es, s⟩)⟩ ⟨4, k, at_, many, text⟩ [(E, d)] wk) (⟨_, rfl⟩) (fun _ _ h => ⟨_, h⟩) (fun _ => RIn.shut) (fun wk hwk => ?_) (fun u8 hu8 => ?_)
  · generalize hA : Act.eval _ = ρ
    have s264 : ρ (.tmp 264) = .pointer (some ⟨G, 0, none⟩) := by rw [← hA]; kernel_rfl
    have s266 : ρ (.tmp 266) = .int .i64 ((k : Int)) := by rw [← hA]; kernel_rfl
    have s268 : ρ (.tmp 268) = .int .i64 (Wr.least (⟨r.me, r.seen + 1, r.next, doL r.base d ((r.seen : Int) + 1), es, s⟩ : Wr)) := by rw [← hA]; kernel_rfl
    have sf : ρ (.func 55) = .func (.func 55) #[] #[] := by rw [← hA]; kernel_rfl
    clear hA
    go_simp
    obtain ⟨S, dv, lv, hl, hs⟩ := hwk.log
    refine (says_lg hl _ _).mono ?_
    rintro e w7 ⟨rfl, hto⟩
    exact ⟨_, rfl, by rw [HSY.out], hs _ _ hto⟩
  subst hu8
  go_big_quiet_op
  refine wpGrow_big (some 270) w rfl (.bool true) rfl (by kernel_rfl) (fun wk hwk => ?_) ?_
  · refine growUpon_same ?_
    generalize hA : Act.eval _ = ρ
    have s269 : ρ (.tmp 269) = .int .i64 0 := by rw [← hA]; kernel_rfl
    have k1 : ρ (.const (.int .i64 0)) = .int .i64 0 := by rw [← hA]; kernel_rfl
    clear hA
    go_simp
  go_big_quiet_op
  refine wpGrow_big (some 4) w rfl (.bool true) rfl (by kernel_rfl) (fun wk hwk => ?_) ?_
  · refine growUpon_same ?_
    generalize hA : Act.eval _ = ρ
    have s270 : ρ (.tmp 270) = .bool true := by rw [← hA]; kernel_rfl
    clear hA
    go_simp
  go_big_quiet_op
  refine wpGrow_big (some 5) w rfl (.bool false) rfl (by kernel_rfl) (fun wk hwk => ?_) ?_
  · refine growUpon_same ?_
    generalize hA : Act.eval _ = ρ
    have k0 : ρ (.const (.bool false)) = .bool false := by rw [← hA]; kernel_rfl
    clear hA
    go_simp
  go_big_quiet_op
  refine wpGrow_nil (fun w12 hw12 => ?_)
  have H12 : Hid (RIn w base R G pw sc bare K ⟨saysB m.b k (Wr.least (⟨r.me, r.seen + 1, r.next, doL r.base d ((r.seen : Int) + 1), es, s⟩ : Wr)), setP m.p k (some (⟨r.me, r.seen + 1, r.next, doL r.base d ((r.seen : Int) + 1), es, s⟩, (ts1.map fun (u : List Ch) => u.map (numF d.no ((r.seen : Int) + 1))))), setP m.s k (some ⟨r.me, r.seen + 1, r.next, doL r.base d ((r.seen : Int) + 1), es, s⟩)⟩ ⟨4, k, at_, many, text⟩ [(E, d)] w12) := hw12
  clear hw12
  go_wp2_with fail
  go_ret2
  exact ⟨rfl, H12.out.done⟩

end Go.Proofs.Ytfpemdbiplfkgac
