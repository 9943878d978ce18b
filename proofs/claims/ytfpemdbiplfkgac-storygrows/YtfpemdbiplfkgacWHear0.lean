/-
  A step of the room: one that clears.
-/
import Derived.Test.YtfpemdbiplfkgacWBox
import Derived.Test.YtfpemdbiplfkgacWStB
import Derived.Test.YtfpemdbiplfkgacWStC
import Derived.Test.YtfpemdbiplfkgacWStD
import Derived.Test.YtfpemdbiplfkgacWSteps
namespace Go.Proofs.Ytfpemdbiplfkgac
open Go Go.RowKit

theorem ret_b2 {a b c : Bool} (h : a = b) : Ending.returned (.tuple #[.bool a, .bool c]) = .returned (.tuple #[.bool b, .bool c]) := by rw [h]

def leastP (b : Bk) (seen j : Nat) : Int := ((b.ds.drop seen).take j).foldl (fun l d => min l d.seen) (leastL b)
theorem leastP_succ {b : Bk} {seen j : Nat} (h : seen + j < b.ds.length) : leastP b seen (j + 1) = min (leastP b seen j) b.ds[seen + j].seen := by
  have hj : j < (b.ds.drop seen).length := by rw [List.length_drop]; omega
  unfold leastP
  rw [take_snocD _ _ hj, List.foldl_append, List.getElem_drop]
  rfl
theorem leastP_all {b : Bk} {seen j : Nat} (h : b.ds.length ≤ seen + j) : leastP b seen j = leastM b seen := by
  unfold leastP leastM
  rw [List.take_of_length_le (by rw [List.length_drop]; omega)]
theorem leastM_le (b : Bk) (seen : Nat) : leastM b seen ≤ leastL b ∧ ∀ d ∈ b.ds.drop seen, leastM b seen ≤ d.seen := by
  have key : ∀ (ds : List Dd) (n : Int), ds.foldl (fun l d => min l d.seen) n ≤ n ∧ ∀ d ∈ ds, ds.foldl (fun l d => min l d.seen) n ≤ d.seen := by
    intro ds
    induction ds with
    | nil => intro n; exact ⟨Int.le_refl _, fun d hd => by cases hd⟩
    | cons e ds ih =>
      intro n
      obtain ⟨h1, h2⟩ := ih (min n e.seen)
      rw [List.foldl_cons]
      refine ⟨by omega, fun d hd => ?_⟩
      rcases List.mem_cons.1 hd with rfl | hd
      · omega
      · exact h2 d hd
  exact key _ _

theorem hseenl {bare : Bool} {m : Rm} (h : RmI bare m) {k : Nat} (hk : k < 4) {r : Wr} {ts : List (List Ch)} (he : m.p k = some (r, ts)) : r.seen ≤ m.b.ds.length := by
  obtain ⟨_, _, c, hw, _⟩ := h.some k hk r ts he
  exact hw.seen

set_option maxRecDepth 20000 in
set_option maxHeartbeats 6400000 in
theorem step5b {w : World} {base R G : Nat} {pw sc : Nat → Nat} {bare : Bool} {K : Nat → Prop} {m : Rm} (h : Room base R G pw sc bare K m w) (hi : RmI bare m) (x : RStep) (hd : x.do_ = 5) {k : Nat} (hk : k < 4) (hxw : x.w = k) {r : Wr} {ts : List (List Ch)} (he : m.p k = some (r, ts)) (hb : bare = true) :
    Calls Try.prog 20 #[.pointer (some ⟨R, 0, none⟩), rsV x] w fun e w' => e = .returned (.tuple #[.bool true, .bool false]) ∧ RStepped w base R G bare K m w' := by
  have HI : Hid (RIn w base R G pw sc bare K m x [] (w.alloc (.cells (rsCells x) 28))) := rin_start h x
  have HM : Hid (RmI bare m) := hi
  obtain ⟨do_, w_, at_, many, text⟩ := x
  have hk0 : wrB (k : Int) = true := by simp [wrB]; omega
  obtain rfl : w_ = (k : Int) := hxw
  have hk4 : (k : Int) < 4 := by omega
  have HP : Hid (m.p k = some (r, ts)) := he
  have HS : Hid (m.s k = some r) := by show m.s k = _; rw [HM.out.both k hk, he]; rfl
  have hps : (m.p k).isSome = true := by rw [he]; rfl
  have hss : (m.s k).isSome = true := by rw [HS.out]; rfl
  obtain rfl : do_ = 5 := hd
  subst hb
  clear h hi he
  go_enter Try.func20, Try.ntmps20
  go_wp2_with (go_at_call 15; refine (isWriter_any _ _).mono ?_; rintro e w6 ⟨rfl, hw6⟩; rw [hk0, hw6]; clear hw6 w6)
  generalize World.alloc _ _ = w5 at *
  have c0 := HI.out.step.c0
  have c1 := HI.out.step.c1
  have c2 := HI.out.step.c2
  have c3 := HI.out.step.c3
  have c4 := HI.out.step.c4
  simp only [Nat.zero_add] at c0 c1 c2 c3 c4
  have g0 := HI.out.room.cells.log
  have g1 := HI.out.room.cells.wr k hk
  have g2 := HI.out.room.cells.sc k hk
  have g9 := HI.out.room.cells.bare
  simp only [hps, hss, ptrOf, if_true] at g1 g2
  go_quiet (fail)
  have HI6 : Hid (RIn w base R G pw sc true K m ⟨5, k, at_, many, text⟩ [] (w5.drewN nq)) := HI.out.after (below_drewN (Below.refl _ _) nq)
  go_wp2
  go_ret2
  exact ⟨rfl, HI6.out.done⟩

set_option maxRecDepth 20000 in
set_option maxHeartbeats 6400000 in
theorem step5c {w : World} {base R G : Nat} {pw sc : Nat → Nat} {bare : Bool} {K : Nat → Prop} {m : Rm} (h : Room base R G pw sc bare K m w) (hi : RmI bare m) (x : RStep) (hd : x.do_ = 5) {k : Nat} (hk : k < 4) (hxw : x.w = k) {r : Wr} {ts : List (List Ch)} (he : m.p k = some (r, ts)) (hb : bare = false) (hel : Wr.list ⟨r.me, r.seen, r.next, ofL (leastM m.b r.seen) r.base, r.opens, r.sent⟩ = ofL (leastM m.b r.seen) r.list) :
    Calls Try.prog 20 #[.pointer (some ⟨R, 0, none⟩), rsV x] w fun e w' => e = .returned (.tuple #[.bool true, .bool false]) ∧ RStepped w base R G bare K (clearM m k r ts) w' := by
  subst hb
  have HI : Hid (RIn w base R G pw sc false K m x [] (w.alloc (.cells (rsCells x) 28))) := rin_start h x
  have HM : Hid (RmI false m) := hi
  have HO : Hid (WOk r ts) := rmi_wok hi hk he
  obtain ⟨do_, w_, at_, many, text⟩ := x
  have hk0 : wrB (k : Int) = true := by simp [wrB]; omega
  obtain rfl : w_ = (k : Int) := hxw
  have hk4 : (k : Int) < 4 := by omega
  have HP : Hid (m.p k = some (r, ts)) := he
  have HS : Hid (m.s k = some r) := by show m.s k = _; rw [HM.out.both k hk, he]; rfl
  have hps : (m.p k).isSome = true := by rw [he]; rfl
  have hss : (m.s k).isSome = true := by rw [HS.out]; rfl
  obtain rfl : do_ = 5 := hd
  have HEL : Hid (Wr.list ⟨r.me, r.seen, r.next, ofL (leastM m.b r.seen) r.base, r.opens, r.sent⟩ = ofL (leastM m.b r.seen) r.list) := hel
  clear hel
  have hseen := HO.out.seen
  have hsml := HM.out.good.small
  have HSL : Hid (r.seen + 0 ≤ m.b.ds.length) := hseenl hi hk he
  clear h hi he
  go_enter Try.func20, Try.ntmps20
  go_wp2_with (go_at_call 15; refine (isWriter_any _ _).mono ?_; rintro e w6 ⟨rfl, hw6⟩; rw [hk0, hw6]; clear hw6 w6)
  generalize World.alloc _ _ = w5 at *
  have c0 := HI.out.step.c0
  have c1 := HI.out.step.c1
  have c2 := HI.out.step.c2
  have c3 := HI.out.step.c3
  have c4 := HI.out.step.c4
  simp only [Nat.zero_add] at c0 c1 c2 c3 c4
  have g0 := HI.out.room.cells.log
  have g1 := HI.out.room.cells.wr k hk
  have g2 := HI.out.room.cells.sc k hk
  have g9 := HI.out.room.cells.bare
  simp only [hps, hss, ptrOf, if_true] at g1 g2
  go_quiet (fail)
  go_wp2_with fail
  have HI6 : Hid (RIn w base R G pw sc false K m ⟨5, k, at_, many, text⟩ [] (w5.drewN nq)) := HI.out.after (below_drewN (Below.refl _ _) nq)
  generalize w5.drewN nq = w6 at *
  clear HI c0 c1 c2 c3 c4 g0 g1 g2 g9
  obtain ⟨S, dv, lv, hl, _⟩ := HI6.out.log
  refine (least_lg hl HM.out.good).mono ?_
  rintro e w7 ⟨rfl, hb7⟩
  have HI7 : Hid (RIn w base R G pw sc false K m ⟨5, k, at_, many, text⟩ [] w7) := HI6.out.after hb7
  clear hb7 hl HI6
  go_wp2_with fail
  obtain ⟨S2, lv2, ov, tvs, hp, _⟩ := HI7.out.wr hk HP.out
  refine (seen_pw hp).mono ?_
  rintro e w8 ⟨rfl, rfl⟩
  clear hp
  go_wp2_with fail
  go_loopw [29, 30] (fun n i wr => ∃ j : Nat, r.seen + j ≤ m.b.ds.length ∧ i = .int .i64 ((r.seen : Int) + 1 + j) ∧ n = .int .i64 (leastP m.b r.seen j) ∧ Hid (RIn w base R G pw sc false K m ⟨5, k, at_, many, text⟩ [] wr)) (fun _ i _ => m.b.ds.length + 1 - (intOf i).toNat)
  case atStart => exact ⟨0, HSL.out, by go_num, rfl, HI7.out⟩
  case round =>
    obtain ⟨j, hj, rfl, rfl, HW⟩ := hrel
    have g0 := HW.out.room.cells.log
    go_wp2_with fail
    obtain ⟨S, dv, lv, hl, _⟩ := HW.out.log
    refine (len_lg hl).mono ?_
    rintro e w9 ⟨rfl, rfl⟩
    clear hl
    by_cases hlt : r.seen + j < m.b.ds.length
    · have HLP : Hid (leastP m.b r.seen (j + 1) = min (leastP m.b r.seen j) m.b.ds[r.seen + j].seen) := leastP_succ hlt
      have HND : Hid (nthD m.b ((r.seen : Int) + 1 + j) = m.b.ds[r.seen + j] ∧ isD m.b ((r.seen : Int) + 1 + j) = true) := by
        have h1 := is_yes hlt
        rw [show (((r.seen + j : Nat) : Int) + 1) = (r.seen : Int) + 1 + j by omega] at h1
        exact ⟨h1.2, h1.1⟩
      generalize m.b.ds[r.seen + j] = d at *
      generalize leastP m.b r.seen j = n at *
      go_wp2_with fail
      obtain ⟨S, dv, lv, hl, _⟩ := HW.out.log
      refine (deed_lg hl HM.out.good.small _).mono ?_
      rintro e w10 ⟨rfl, hb⟩
      rw [HND.out.1, HND.out.2]
      have HI10 : Hid (RIn w base R G pw sc false K m ⟨5, k, at_, many, text⟩ [] w10) := HW.out.after hb
      clear hb hl g0
      have HI11 : Hid (RIn w base R G pw sc false K m ⟨5, k, at_, many, text⟩ [] (w10.alloc (dObj d))) := (HI10.out.boxed d).fewer (fun _ e => by cases e)
      go_wp2_with fail
      go_roundw
      case rel => exact ⟨j + 1, by omega, by go_num, by rw [HLP.out], HI11.out⟩
      case measure => simp [intOf]; omega
    · have hjj : r.seen + j = m.b.ds.length := by omega
      rw [leastP_all (by omega)]
      obtain ⟨least, hle⟩ : ∃ least, leastM m.b r.seen = least := ⟨_, rfl⟩
      have HLE : Hid (leastM m.b r.seen = least) := hle
      rw [hle]
      clear hle
      go_wp2_with fail
      obtain ⟨S, lv, ov, tvs, hp, _⟩ := HW.out.wr hk HP.out
      refine (chars_pw hp (by have := HO.out.len; omega)).mono ?_
      rintro e w10 ⟨v10, rfl, ho, hb⟩
      have HI10 : Hid (RIn w base R G pw sc false K m ⟨5, k, at_, many, text⟩ [] w10) := HW.out.after hb
      obtain ⟨va, vc, rfl, _⟩ := ho.lst.len
      clear hb hp ho g0 HW
      go_wp2_with fail
      obtain ⟨S, lv, ov, tvs, hp, hs⟩ := HI10.out.wr hk HP.out
      refine (clear_pw hp (by have := HO.out.len; omega) least).mono ?_
      rintro e w11 ⟨rfl, hto⟩
      have HI11 : Hid (RIn w base R G pw sc false K ⟨m.b, setP m.p k (some (⟨r.me, r.seen, r.next, ofL (leastM m.b r.seen) r.base, r.opens, r.sent⟩, ts)), m.s⟩ ⟨5, k, at_, many, text⟩ [] w11) := hs ⟨r.me, r.seen, r.next, ofL (leastM m.b r.seen) r.base, r.opens, r.sent⟩ ts w11 (by rw [HEL.out, HLE.out]; exact hto)
      clear hto hs hp HI10
      go_wp2_with fail
      obtain ⟨S2, bv, ov2, hq, hs2⟩ := HI11.out.scr hk HS.out
      refine (clear_sc hq (by have := HO.out.base; omega) HO.out.tame least).mono ?_
      rintro e w12 ⟨rfl, hto⟩
      have HI12 : Hid (RIn w base R G pw sc false K ⟨m.b, setP m.p k (some (⟨r.me, r.seen, r.next, ofL (leastM m.b r.seen) r.base, r.opens, r.sent⟩, ts)), setP m.s k (some ⟨r.me, r.seen, r.next, ofL (leastM m.b r.seen) r.base, r.opens, r.sent⟩)⟩ ⟨5, k, at_, many, text⟩ [] w12) := hs2 ⟨r.me, r.seen, r.next, ofL (leastM m.b r.seen) r.base, r.opens, r.sent⟩ w12 (by have h1 := hto; rw [← HLE.out] at h1; exact h1)
      clear hto hs2 hq HI11
      go_wp2_with fail
      obtain ⟨S, lv, ov, tvs, hp, _⟩ := HI12.out.wr hk (setP_same _ _ _)
      have hlen : (Wr.list ⟨r.me, r.seen, r.next, ofL (leastM m.b r.seen) r.base, r.opens, r.sent⟩).length = (ofL least r.list).length := by rw [HEL.out, HLE.out]
      have hle2 : (ofL least r.list).length ≤ r.list.length := ofL_le _ _
      have hl200 := HO.out.len
      refine (chars_pw hp (by rw [hlen]; omega)).mono ?_
      rintro e w13 ⟨v13, rfl, ho, hb⟩
      have HI13 : Hid (RIn w base R G pw sc false K ⟨m.b, setP m.p k (some (⟨r.me, r.seen, r.next, ofL (leastM m.b r.seen) r.base, r.opens, r.sent⟩, ts)), setP m.s k (some ⟨r.me, r.seen, r.next, ofL (leastM m.b r.seen) r.base, r.opens, r.sent⟩)⟩ ⟨5, k, at_, many, text⟩ [] w13) := HI12.out.after hb
      obtain ⟨va3, vc3, rfl, _⟩ := ho.lst.len
      rw [hlen]
      clear hb hp ho HI12 hlen
      generalize (ofL least r.list).length = n3 at *
      generalize r.list.length = n0 at *
      go_wp2_with fail
      go_ret2
      exact ⟨ret_b2 (by simp), HI13.out.done⟩

end Go.Proofs.Ytfpemdbiplfkgac

/-
  A step of the room, whatever it is: what it leaves, and that what always holds still does.
-/
namespace Go.Proofs.Ytfpemdbiplfkgac
open Go Go.RowKit

theorem rmi_set {bare : Bool} {m : Rm} (h : RmI bare m) {k : Nat} {b' : Bk} (hg : Good b') (hh : ∀ j : Nat, j < 4 → j ≠ k → m.b.here j = false → b'.here j = false) (ho : ∀ j : Nat, j < 4 → j ≠ k → ∀ c r, WI m.b c r → r.me = j → WI b' c r)
    {r : Wr} {ts : List (List Ch)} (hme : r.me = k) (hrel : Rel r ts) {c : Int} (hw : WI b' c r) (hc : bare = true → c = 0) : RmI bare ⟨b', setP m.p k (some (r, ts)), setP m.s k (some r)⟩ := by
  refine ⟨hg, fun j hj => ?_, fun j hj he => ?_, fun j hj r0 ts0 he => ?_⟩
  · show setP m.s k (some r) j = (setP m.p k (some (r, ts)) j).map (·.1)
    by_cases e : j = k
    · subst e; rw [setP_same, setP_same]; rfl
    · rw [setP_other _ _ e, setP_other _ _ e]; exact h.both j hj
  · have he' : setP m.p k (some (r, ts)) j = none := he
    by_cases e : j = k
    · subst e; rw [setP_same] at he'; cases he'
    · rw [setP_other _ _ e] at he'
      exact hh j hj e (h.none j hj he')
  · have he' : setP m.p k (some (r, ts)) j = some (r0, ts0) := he
    by_cases e : j = k
    · subst e
      rw [setP_same] at he'
      obtain ⟨rfl, rfl⟩ := Prod.mk.inj (Option.some.inj he')
      exact ⟨hme, hrel, c, hw, hc⟩
    · rw [setP_other _ _ e] at he'
      obtain ⟨h1, h2, c', h3, h4⟩ := h.some j hj r0 ts0 he'
      exact ⟨h1, h2, c', ho j hj e c' r0 h3 h1, h4⟩

theorem rmi_joinC {bare : Bool} {m : Rm} (h : RmI bare m) {k : Nat} (hk : k < 4) (he : m.p k = none) : joinC m.b k = 0 := by
  have h1 := h.none k hk he
  have hw : wrB (k : Int) = true := by simp [wrB]; omega
  rw [joinC, if_neg (by rw [hw]; simp), if_neg (by rw [h1]; simp)]

theorem rmi_join {bare : Bool} {m : Rm} (h : RmI bare m) {k : Nat} (hk : k < 4) (he : m.p k = none) : RmI bare (joinM m k) := by
  have hj := rmi_joinC h hk he
  refine rmi_set h (good_join _ h.good) (fun j _ hne e => ?_) (fun j _ hne c r hw hme => hw.other_joins (by rw [hme]; omega)) rfl (Rel.comes_in h.good k) (WI.comes_in h.good hj) (fun _ => rfl)
  rw [joinB, if_pos hj]
  show setF m.b.here k true j = false
  rw [setF_other _ _ (by omega)]
  exact e

theorem rmi_do {bare : Bool} {m : Rm} (h : RmI bare m) {k : Nat} (hk : k < 4) {r : Wr} {ts : List (List Ch)} (he : m.p k = some (r, ts)) {d : Dd} (hb : d.by_ = r.me) (hn : d.no = r.next) (hs : d.seen = r.seen) (hz : doC r.list d openN = 0) :
    RmI bare ⟨m.b, setP m.p k (some (⟨r.me, r.seen, r.next + 1, r.base, r.opens ++ [d], r.sent⟩, ts ++ [tookL r.list d])), setP m.s k (some ⟨r.me, r.seen, r.next + 1, r.base, r.opens ++ [d], r.sent⟩)⟩ := by
  obtain ⟨h1, h2, c, h3, h4⟩ := h.some k hk r ts he
  exact rmi_set h h.good (fun j _ _ e => e) (fun j _ _ c r hw _ => hw) h1 (h2.does hb hn hz) (h3.does h.good hb hn hs hz) h4

theorem rmi_send {bare : Bool} {m : Rm} (h : RmI bare m) {k : Nat} (hk : k < 4) {r : Wr} {ts : List (List Ch)} (he : m.p k = some (r, ts)) {d : Dd} (hd : r.opens[r.sent]? = some d) (hc : comesC m.b d = 0) :
    RmI bare ⟨comesB m.b d, setP m.p k (some (⟨r.me, r.seen, r.next, r.base, r.opens, r.sent + 1⟩, ts)), setP m.s k (some ⟨r.me, r.seen, r.next, r.base, r.opens, r.sent + 1⟩)⟩ := by
  obtain ⟨h1, h2, c, h3, h4⟩ := h.some k hk r ts he
  have hb := (h3.own d (List.mem_of_getElem? hd)).1
  refine rmi_set h (good_comes d h.good) (fun j _ _ e => ?_) (fun j _ hne c r' hw hme => hw.other_comes (by rw [hb, h1, hme]; omega) hc) h1 (h2.sends _) (h3.sent_ok hd hc) h4
  rw [comes_eq hc]
  exact e

theorem rmi_says {bare : Bool} {m : Rm} (h : RmI bare m) {k : Nat} {r : Wr} {ts : List (List Ch)} {c : Int} (h1 : r.me = k) (h2 : Rel r ts) (h3 : WI m.b c r) (h4 : bare = true → c = 0) :
    RmI bare ⟨saysB m.b k r.least, setP m.p k (some (r, ts)), setP m.s k (some r)⟩ ∧ saysC m.b k r.least = 0 := by
  obtain ⟨s1, s2⟩ := h3.says
  rw [h1] at s1 s2
  refine ⟨rmi_set h (good_says _ _ h.good) (fun j _ _ e => ?_) (fun j _ hne c r' hw hme => hw.other_says (by rw [hme]; omega)) h1 h2 s2 h4, s1⟩
  unfold saysB
  split
  · exact e
  · exact e

theorem rmi_clear {m : Rm} (h : RmI false m) {k : Nat} (hk : k < 4) {r : Wr} {ts : List (List Ch)} (he : m.p k = some (r, ts)) :
    RmI false (clearM m k r ts) ∧ Wr.list ⟨r.me, r.seen, r.next, ofL (leastM m.b r.seen) r.base, r.opens, r.sent⟩ = ofL (leastM m.b r.seen) r.list := by
  obtain ⟨h1, h2, c, h3, _⟩ := h.some k hk r ts he
  obtain ⟨l1, l2⟩ := leastM_le m.b r.seen
  obtain ⟨c', w1, w2⟩ := h3.clears h.good l1 l2
  exact ⟨rmi_set h h.good (fun j _ _ e => e) (fun j _ _ c r hw _ => hw) h1 (h2.clears h3 h.good (h3.opens_least l1 l2)) w1 (fun e => by cases e), w2⟩

/-- A STEP. -/
theorem step_room {w : World} {base R G : Nat} {pw sc : Nat → Nat} {bare : Bool} {K : Nat → Prop} {m : Rm} (h : Room base R G pw sc bare K m w) (hi : RmI bare m) (x : RStep) :
    Calls Try.prog 20 #[.pointer (some ⟨R, 0, none⟩), rsV x] w fun e w' => e = .returned (.tuple #[.bool true, .bool (overRm m x)]) ∧ (overRm m x = false → RStepped w base R G bare K (stepRm bare m x) w' ∧ RmI bare (stepRm bare m x)) ∧ Below base w w' := by
  by_cases hw : wrB x.w = true
  · obtain ⟨k, hxw, hk⟩ := wr_nat hw
    have hkt : x.w.toNat = k := by omega
    have hk4 : k < 4 := by omega
    cases hp : m.p k with
    | none =>
      have ho : overRm m x = false := by rw [overRm, if_pos hw, hkt, hp]
      rw [ho]
      by_cases h0 : x.do_ = 0
      · have hs : stepRm bare m x = joinM m k := by rw [stepRm, if_pos hw, hkt, hp]; simp only [h0, if_true]
        rw [hs]
        exact (step0 h hi x h0 hk4 hxw hp (rmi_joinC hi hk4 hp)).mono fun e w' ⟨he, ht⟩ => ⟨he, fun _ => ⟨ht, rmi_join hi hk4 hp⟩, ht.below⟩
      · have hs : stepRm bare m x = m := by rw [stepRm, if_pos hw, hkt, hp]; simp only [h0, if_false]
        rw [hs]
        exact (step_none h hi x h0 hk4 hxw hp).mono fun e w' ⟨he, ht⟩ => ⟨he, fun _ => ⟨ht, hi⟩, ht.below⟩
    | some q =>
      obtain ⟨r, ts⟩ := q
      have hso : stepRm bare m x = (if x.do_ = 1 then doM m k r ts (putD r x) else if x.do_ = 2 then doM m k r ts (takeD r x) else if x.do_ = 3 then sendM m k r ts else if x.do_ = 4 then hearM m k r ts else if x.do_ = 5 then (if bare = true then m else clearM m k r ts) else m) := by rw [stepRm, if_pos hw, hkt, hp]
      have hov : overRm m x = (if x.do_ = 3 then (match r.opens[r.sent]? with | none => false | some d => decide (comesC m.b d ≠ 0)) else if x.do_ = 4 then (if h : r.seen < m.b.ds.length then decide (m.b.ds[r.seen].by_ ≠ r.me ∧ doC r.list m.b.ds[r.seen] ((r.seen : Int) + 1) ≠ 0) else false) else false) := by rw [overRm, if_pos hw, hkt, hp]; rfl
      obtain ⟨m1, m2, c, m3, m4⟩ := hi.some k hk4 r ts hp
      by_cases d1 : x.do_ = 1
      · rw [hso, hov, if_pos d1, if_neg (by omega), if_neg (by omega)]
        by_cases hz : doC r.list (putD r x) openN = 0
        · rw [doM, if_pos hz]
          exact (step1y h hi x d1 hk4 hxw hp hz).mono fun e w' ⟨he, ht⟩ => ⟨he, fun _ => ⟨ht, rmi_do hi hk4 hp rfl rfl rfl hz⟩, ht.below⟩
        · rw [doM, if_neg hz]
          exact (step1n h hi x d1 hk4 hxw hp hz).mono fun e w' ⟨he, ht⟩ => ⟨he, fun _ => ⟨ht, hi⟩, ht.below⟩
      · by_cases d2 : x.do_ = 2
        · rw [hso, hov, if_neg d1, if_pos d2, if_neg (by omega), if_neg (by omega)]
          by_cases hz : doC r.list (takeD r x) openN = 0
          · rw [doM, if_pos hz]
            exact (step2y h hi x d2 hk4 hxw hp hz).mono fun e w' ⟨he, ht⟩ => ⟨he, fun _ => ⟨ht, rmi_do hi hk4 hp rfl rfl rfl hz⟩, ht.below⟩
          · rw [doM, if_neg hz]
            exact (step2n h hi x d2 hk4 hxw hp hz).mono fun e w' ⟨he, ht⟩ => ⟨he, fun _ => ⟨ht, hi⟩, ht.below⟩
        · by_cases d3 : x.do_ = 3
          · rw [hso, hov, if_neg d1, if_neg d2, if_pos d3, if_pos d3, sendM]
            cases hd : r.opens[r.sent]? with
            | none =>
              have hl : r.sent = r.opens.length := by
                have := m3.sent
                rw [List.getElem?_eq_none_iff] at hd
                omega
              exact (step3n h hi x d3 hk4 hxw hp hl).mono fun e w' ⟨he, ht⟩ => ⟨he, fun _ => ⟨ht, hi⟩, ht.below⟩
            | some d =>
              refine (step3s h hi x d3 hk4 hxw hp hd (m3.sends hi.good hd)).mono fun e w' ⟨he, ht⟩ => ⟨he, fun ho => ⟨ht, rmi_send hi hk4 hp hd ?_⟩, ht.below⟩
              simpa using ho
          · by_cases d4 : x.do_ = 4
            · rw [hso, hov, if_neg d1, if_neg d2, if_neg d3, if_pos d4, if_neg d3, if_pos d4, hearM]
              by_cases hs : r.seen < m.b.ds.length
              · rw [dif_pos hs, dif_pos hs]
                have hb0 := (m3.base_next hi.good hs).1
                by_cases hb : m.b.ds[r.seen].by_ = r.me
                · obtain ⟨es, hes, hsn⟩ := m3.own_first hs hb
                  cases ts with
                  | nil => exact absurd (tkTop_len m2.tk) (by rw [hes]; simp)
                  | cons t ts1 =>
                    obtain ⟨r1, r2⟩ := m2.hears_own m3 hi.good hs hes
                    obtain ⟨w1, _, _⟩ := m3.hears_own hi.good hs hes hsn hb
                    obtain ⟨s, hss⟩ : ∃ s, r.sent = s + 1 := ⟨r.sent - 1, by omega⟩
                    rw [hss, Nat.add_sub_cancel] at r1 w1
                    obtain ⟨q1, q2⟩ := rmi_says hi (r := ⟨r.me, r.seen + 1, r.next, doL r.base m.b.ds[r.seen] ((r.seen : Int) + 1), es, s⟩) m1 r1 w1 m4
                    have ho : decide (m.b.ds[r.seen].by_ ≠ r.me ∧ doC r.list m.b.ds[r.seen] ((r.seen : Int) + 1) ≠ 0) = false := by simp [hb]
                    rw [ho]
                    refine (step4w h hi x d4 hk4 hxw hp hs rfl hb hes hss hb0 r2 q2).mono fun e w' ⟨he, ht⟩ => ⟨he, fun _ => ?_, ht.below⟩
                    simp only [hb, decide_true, if_true, hes, List.tail_cons, hss, Nat.add_sub_cancel]
                    exact ⟨ht, q1⟩
                · obtain ⟨c1, c2⟩ := m3.hears_other hi.good hs hb
                  rcases c1 with c1 | c1
                  · obtain ⟨e1, w1⟩ := c2 c1
                    obtain ⟨q1, q2⟩ := rmi_says hi (r := ⟨r.me, r.seen + 1, r.next, doL r.base m.b.ds[r.seen] ((r.seen : Int) + 1), r.opens, r.sent⟩) m1 (m2.hears_other m3 hi.good hs hb) w1 m4
                    have ho : decide (m.b.ds[r.seen].by_ ≠ r.me ∧ doC r.list m.b.ds[r.seen] ((r.seen : Int) + 1) ≠ 0) = false := by simp [c1]
                    rw [ho]
                    refine (step4o h hi x d4 hk4 hxw hp hs rfl hb hb0 c1 e1.symm q2).mono fun e w' ⟨he, ht⟩ => ⟨he, fun _ => ?_, ht.below⟩
                    simp only [hb, decide_false, Bool.false_eq_true, if_false]
                    exact ⟨ht, q1⟩
                  · have ho : decide (m.b.ds[r.seen].by_ ≠ r.me ∧ doC r.list m.b.ds[r.seen] ((r.seen : Int) + 1) ≠ 0) = true := by simp [c1, hb]
                    rw [ho]
                    exact (step4f h hi x d4 hk4 hxw hp hs rfl hb hb0 c1).mono fun e w' ⟨he, hbl⟩ => ⟨he, fun e => (by cases e), hbl⟩
              · rw [dif_neg hs, dif_neg hs]
                exact (step4n h hi x d4 hk4 hxw hp hs).mono fun e w' ⟨he, ht⟩ => ⟨he, fun _ => ⟨ht, hi⟩, ht.below⟩
            · by_cases d5 : x.do_ = 5
              · rw [hso, hov, if_neg d1, if_neg d2, if_neg d3, if_neg d4, if_pos d5, if_neg d3, if_neg d4]
                cases bare with
                | true =>
                  rw [if_pos rfl]
                  exact (step5b h hi x d5 hk4 hxw hp rfl).mono fun e w' ⟨he, ht⟩ => ⟨he, fun _ => ⟨ht, hi⟩, ht.below⟩
                | false =>
                  obtain ⟨q1, q2⟩ := rmi_clear hi hk4 hp
                  rw [if_neg (by simp)]
                  exact (step5c h hi x d5 hk4 hxw hp rfl q2).mono fun e w' ⟨he, ht⟩ => ⟨he, fun _ => ⟨ht, q1⟩, ht.below⟩
              · rw [hso, hov, if_neg d1, if_neg d2, if_neg d3, if_neg d4, if_neg d5, if_neg d3, if_neg d4]
                exact (step_idle h hi x d1 d2 d3 d4 d5 hk4 hxw hp).mono fun e w' ⟨he, ht⟩ => ⟨he, fun _ => ⟨ht, hi⟩, ht.below⟩
  · have hw' : wrB x.w = false := by simpa using hw
    have ho : overRm m x = false := by rw [overRm, if_neg hw]
    have hs : stepRm bare m x = m := by rw [stepRm, if_neg hw]
    rw [ho, hs]
    exact (step_away h x hw').mono fun e w' ⟨he, ht⟩ => ⟨he, fun _ => ⟨ht, hi⟩, ht.below⟩

end Go.Proofs.Ytfpemdbiplfkgac

/-
  To hear its own, a deed that it was not asked to send.
-/
namespace Go.Proofs.Ytfpemdbiplfkgac
open Go.RowKit

set_option maxRecDepth 20000 in
set_option maxHeartbeats 1600000 in
theorem hearOwn_zero {w : World} {base P : Nat} {S : Nat → Prop} {lv ov tv : Value} {tvs : List Value} {l t : List Ch} {d : Dd} {es : List Dd} {ts : List (List Ch)} {me next : Int} {seen : Nat} (h : PwAt w base S P lv ov (tv :: tvs) l (d :: es) (t :: ts) me next seen (0 : Int)) (hl : l.length ≤ 1000) (hes : es.length ≤ 1000) (hts : ∀ u ∈ t :: ts, u.length ≤ 1000) (hsn : seen ≤ 1000) :
    Calls Try.prog 61 #[.pointer (some ⟨P, 0, none⟩), ddV d] w fun e w' => e = .returned (.int .i64 0) ∧ (∃ ov', PwAt w' base S P lv ov' tvs (l.map (ackF d.no ((seen : Int) + 1) t)) es (ts.map fun u => u.map (numF d.no ((seen : Int) + 1))) me next ((seen : Int) + 1) 0) ∧ Kept S w w' := by
  have HLO : Hid (∀ k, S k → k < w.heap.size) := fun k hk => (h.lo k hk).2
  have HL : Hid (∀ l' : List Ch, l'.length = l.length → l'.length ≤ 1000) := fun l' e => by rw [e]; exact hl
  have HT0 : Hid (t.length ≤ 1000) := hts t (by simp)
  have HTS : Hid (∀ u ∈ ts, u.length ≤ 1000) := fun u hu => hts u (by simp [hu])
  obtain ⟨g, cap, rfl⟩ := h.topen.place (by simp)
  have hl1 : (d :: es).length = es.length + 1 := rfl
  rw [hl1] at h
  have HA : Hid (PwAt w base S P lv (.slice (some ⟨g, 0, none⟩) (es.length + 1) cap) (tv :: tvs) l (d :: es) (t :: ts) me next seen (0 : Int)) := h
  obtain ⟨ta, tcap, htf, _⟩ := h.tooks.1.lst.len
  have HSEP : Hid (∀ k, tv.ownBlock = some k → S k ∧ k ≠ P ∧ ¬ Turned lv tvs k) := fun k e => by
    have h1 := h.tB tv (by simp) k e
    refine ⟨h1.1, h1.2.1, fun e' => ?_⟩
    rcases e' with e' | ⟨u, hu, e'⟩
    · exact h1.2.2.1 e'
    · exact (List.pairwise_cons.1 h.tD).1 u hu k e e'
  have HONE : Hid (∀ y ∈ es.zip tvs, y.2.oneCell' = true) := fun y hy => h.tooks.2.one y.2 (List.of_mem_zip hy).2
  have HZL : Hid ((es.zip tvs).length = es.length) := zip_len (by have := h.len; simpa using this)
  have c4 := h.cells.opens
  have c5 := h.cells.sent
  have c2 := h.cells.seen
  have hPlt := h.cells.lt
  obtain ⟨⟨hglt, g0, g1, g2, g3, g4, g5, g6⟩, g7⟩ := h.topen.nth (i := 0) rfl (by simp) (by simp)
  simp only [Nat.zero_mul, Nat.zero_add, List.getElem_cons_zero] at g0 g1 g2 g3 g4 g5 g6 g7
  have hE : ∀ o, (w.alloc (dObj d)).cell? o = (w.alloc (dObj d)).cell? o := fun _ => rfl
  have HB0 : Hid (DdAt (w.alloc (dObj d)) w.heap.size 0 d) := ddat_start w d
  have hpos : ((es.length : Int) + 1 == 0) = false := by simp; omega
  generalize hn : es.length = n at *
  have HN : Hid (es.length = n) := hn
  generalize t.length = tn at htf
  subst htf
  obtain ⟨kind, by_, no, dseen, at_, many, text⟩ := d
  simp only at g0 g1 g2 g3 g4 g5 g6
  clear h hts hl hl1 hn hE
  go_enter Try.func61, Try.ntmps61
  go_wp2
  go_quiet (fail)
  go_wp2_with fail
  clear c2 c4 c5 g0 g1 g2 g3 g4 g5 g6 g7
  have HB0' : Hid (Below w.heap.size w ((w.alloc (dObj ⟨kind, by_, no, dseen, at_, many, text⟩)).drewN nq)) := below_drewN (below1 _ _) _
  have HD0 : Hid (DdAt ((w.alloc (dObj ⟨kind, by_, no, dseen, at_, many, text⟩)).drewN nq) w.heap.size 0 ⟨kind, by_, no, dseen, at_, many, text⟩) := HB0.out.below (below_drewN (Below.refl _ _) _)
  have HS0 : Hid (((w.alloc (dObj ⟨kind, by_, no, dseen, at_, many, text⟩)).drewN nq).heap.size = w.heap.size + 1) := by show _ = _; simp
  generalize (w.alloc (dObj ⟨kind, by_, no, dseen, at_, many, text⟩)).drewN nq = w0 at *
  have HBX : Hid (OoAt (w0.alloc (ooObj ⟨kind, by_, no, dseen, at_, many, text⟩ (.slice ta tn tcap))) (w.heap.size + 1) 0 ⟨kind, by_, no, dseen, at_, many, text⟩ (.slice ta tn tcap)) := by
    rw [← HS0.out]
    refine ⟨⟨by simp, ?_, ?_, ?_, ?_, ?_, ?_, ?_⟩, ?_⟩ <;> simp [go_sem]
  have HB1 : Hid (Below w.heap.size w (w0.alloc (ooObj ⟨kind, by_, no, dseen, at_, many, text⟩ (.slice ta tn tcap)))) := below_after HB0'.out (below1 _ _)
  have HD1 : Hid (DdAt (w0.alloc (ooObj ⟨kind, by_, no, dseen, at_, many, text⟩ (.slice ta tn tcap))) w.heap.size 0 ⟨kind, by_, no, dseen, at_, many, text⟩) := HD0.out.below (below1 _ _)
  have hA1 := HA.out.below HB1.out
  have hown1 := hA1.ownO
  rw [zip_cons] at hown1
  have HA1 : Hid _ := hA1
  refine (delete_first hown1 (by rw [HZL.out]) hes HONE.out).mono ?_
  rintro e w2 ⟨rfl, ho2, hk2⟩
  have hdr := HA1.out.dropped ho2 hk2
  have hgP : g ≠ P := (HA1.out.oB g rfl).2.1
  have hgl : g < w.heap.size := HLO.out g (HA1.out.oB g rfl).1
  have hPl : P < w.heap.size := HLO.out P HA1.out.hP
  have hc2 : PwC w2 P lv (.slice (some ⟨g, 0, none⟩) (n + 1) cap) me next seen (0 : Int) := HA1.out.cells.kept hk2.size (hk2.block P HA1.out.cells.lt (fun e => hgP e.symm))
  have hsz2 : (w2.setCell ⟨P, 4, none⟩ (.slice (some ⟨g, 0, none⟩) n cap)).heap.size = w2.heap.size := by simp [World.setCell]
  have HW3 : Hid (HW w base P S lv (.slice (some ⟨g, 0, none⟩) n cap) tvs l es ts me next seen (0 : Int) ⟨kind, by_, no, dseen, at_, many, text⟩ (.slice ta tn tcap) t (w2.setCell ⟨P, 4, none⟩ (.slice (some ⟨g, 0, none⟩) n cap))) := by
    have e1 : (w2.setCell ⟨P, 4, none⟩ (.slice (some ⟨g, 0, none⟩) n cap)).heap[w.heap.size]? = (w0.alloc (ooObj ⟨kind, by_, no, dseen, at_, many, text⟩ (.slice ta tn tcap))).heap[w.heap.size]? := by
      rw [Below.heap_setCell _ _ _ _ (by show w.heap.size ≠ P; omega)]
      exact hk2.block _ HD1.out.lt (by omega)
    have e2 : (w2.setCell ⟨P, 4, none⟩ (.slice (some ⟨g, 0, none⟩) n cap)).heap[w.heap.size + 1]? = (w0.alloc (ooObj ⟨kind, by_, no, dseen, at_, many, text⟩ (.slice ta tn tcap))).heap[w.heap.size + 1]? := by
      rw [Below.heap_setCell _ _ _ _ (by show w.heap.size + 1 ≠ P; omega)]
      exact hk2.block _ HBX.out.deed.lt (by omega)
    exact ⟨hdr.1, (Kept.of_below HB1.out).trans' hdr.2.2, HD1.out.of_block' (by rw [hsz2]; exact Nat.lt_of_lt_of_le HD1.out.lt hk2.size) e1, HBX.out.of_block (by rw [hsz2]; exact Nat.lt_of_lt_of_le HBX.out.deed.lt hk2.size) e2, hdr.2.1, HSEP.out⟩
  have HW4 : Hid (HW w base P S lv (.slice (some ⟨g, 0, none⟩) n cap) tvs l es ts me next seen 0 ⟨kind, by_, no, dseen, at_, many, text⟩ (.slice ta tn tcap) t ((w2.setCell ⟨P, 4, none⟩ (.slice (some ⟨g, 0, none⟩) n cap)).setCell ⟨P, 5, none⟩ (.int .i64 0))) := HW3.out.wrote HLO.out (HW3.out.at_.cells.setSent _)
  have HW5 : Hid (HW w base P S lv (.slice (some ⟨g, 0, none⟩) n cap) tvs l es ts me next ((seen : Int) + 1) 0 ⟨kind, by_, no, dseen, at_, many, text⟩ (.slice ta tn tcap) t (((w2.setCell ⟨P, 4, none⟩ (.slice (some ⟨g, 0, none⟩) n cap)).setCell ⟨P, 5, none⟩ (.int .i64 0)).setCell ⟨P, 2, none⟩ (.int .i64 ((seen : Int) + 1)))) := HW4.out.wrote HLO.out (HW4.out.at_.cells.setSeen _)
  have hP2 := hc2.lt
  have e4 := hc2.opens
  have e5 := hc2.sent
  have e2 := hc2.seen
  have f4 := hc2.free 4 (by omega)
  have f5 := hc2.free 5 (by omega)
  have f2 := hc2.free 2 (by omega)
  have d0 := HW5.out.deed
  have hdd : ∀ o, ((((w2.setCell ⟨P, 4, none⟩ (.slice (some ⟨g, 0, none⟩) n cap)).setCell ⟨P, 5, none⟩ (.int .i64 0)).setCell ⟨P, 2, none⟩ (.int .i64 ((seen : Int) + 1)))).cell? ⟨w.heap.size, o, none⟩ = w2.cell? ⟨w.heap.size, o, none⟩ := fun o => by
    simp [go_sem]
  obtain ⟨_, q0, q1, q2, q3, q4, q5, q6⟩ := d0
  simp only [Nat.zero_add] at q0 q1 q2 q3 q4 q5 q6
  rw [hdd] at q0 q1 q2 q3 q4 q5 q6
  have hne1 : ¬ w.heap.size = P := by omega
  have hne2 : ¬ P = w.heap.size := by omega
  clear ho2 hk2 hdr hc2 hdd hA1 hown1 HW3 HW4 HD0 HD1 HB0 HB1 HB0' HA1 HBX hsz2
  go_wp2_with fail
  refine (comesIn_pw HW5.out.at_ (HL.out l rfl) (by rw [HN.out]; exact hes) HTS.out ⟨kind, by_, no, dseen, at_, many, text⟩).mono ?_
  rintro e w6 ⟨rfl, hat6, hk6⟩
  have HW6 : Hid _ := HW5.out.turned HLO.out hat6 hk6
  clear hat6 hk6 HW5 e4 e5 e2 f4 f5 f2 q0 q1 q2 q3 q4 q5 q6
  obtain ⟨⟨hlt6, q0, q1, q2, q3, q4, q5, q6⟩, q7⟩ := HW6.out.box
  simp only [Nat.zero_add] at q0 q1 q2 q3 q4 q5 q6 q7
  go_wp2_with fail
  refine (goesOut_pw HW6.out.at_ HW6.out.own (fun k e e' => (HW6.out.tS k e).2.2 (.inl e')) (HL.out _ (by simp)) HT0.out ⟨kind, by_, no, dseen, at_, many, text⟩).mono ?_
  rintro e w7 ⟨rfl, hat7, hk7⟩
  have HE : Hid ((∃ ov', PwAt w7 base S P lv ov' tvs (l.map (ackF no ((seen : Int) + 1) t)) es (ts.map fun u => u.map (numF no ((seen : Int) + 1))) me next ((seen : Int) + 1) 0) ∧ Kept S w w7) := by
    refine ⟨⟨.slice (some ⟨g, 0, none⟩) n cap, ?_⟩, HW6.out.kept.trans' (kept_sub hk7 (fun k e => (HW6.out.at_.lB k e).1))⟩
    rw [← ack_comp]
    exact hat7
  clear hat7 hk7 HW6 q0 q1 q2 q3 q4 q5 q6 q7
  go_wp2
  go_ret
  exact ⟨rfl, HE.out⟩


theorem heard_own0 {w : World} {base P : Nat} {S : Nat → Prop} {lv ov : Value} {tvs : List Value} {l t : List Ch} {d : Dd} {es : List Dd} {ts : List (List Ch)} {me next : Int} {seen : Nat} (h : PwAt w base S P lv ov tvs l (d :: es) (t :: ts) me next seen 0) (hb : d.by_ = me) (hl : l.length ≤ 1000) (hes : es.length ≤ 1000) (hts : ∀ u ∈ t :: ts, u.length ≤ 1000) (hsn : seen ≤ 1000) :
    Calls Try.prog 26 #[.pointer (some ⟨P, 0, none⟩), ddV d] w fun e w' => e = .returned (.int .i64 0) ∧ PwTo w base S P (l.map (ackF d.no ((seen : Int) + 1) t)) es (ts.map fun u => u.map (numF d.no ((seen : Int) + 1))) me next ((seen : Int) + 1) 0 w' := by
  have hlo := h.lo
  cases tvs with
  | nil => exact absurd h.len (by simp)
  | cons tv tvs =>
    refine (hearsOwn_pw h d hb (fun c w' => c = 0 ∧ PwTo w base S P (l.map (ackF d.no ((seen : Int) + 1) t)) es (ts.map fun u => u.map (numF d.no ((seen : Int) + 1))) me next ((seen : Int) + 1) 0 w') (fun wk hj => ?_)).mono ?_
    · refine (hearOwn_zero (h.below hj.below) hl hes hts hsn).mono ?_
      rintro e w' ⟨rfl, ⟨ov', hat⟩, hk⟩
      have hs1 := hj.below.size
      have hs2 := hk.size
      have hba := h.base_le
      refine ⟨0, rfl, rfl, PwTo.of (hat.mono (fun k e => .inl e) (fun k e => ?_)) ((Kept.of_below hj.below).trans' hk)⟩
      rcases e with e | e
      · have := hlo k e; omega
      · omega
    · rintro e w' ⟨c, rfl, rfl, ht⟩
      exact ⟨rfl, ht⟩

end Go.Proofs.Ytfpemdbiplfkgac
