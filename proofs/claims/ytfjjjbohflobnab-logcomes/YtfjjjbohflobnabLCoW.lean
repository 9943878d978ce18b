/-
  The walk of LogComes.
-/
import Derived.Test.YtfjjjbohflobnabLRun
import Derived.Test.YtfjjjbohflobnabLReW
import Derived.Test.YtfjjjbohflobnabLRow
namespace Go.Proofs.Ytfjjjbohflobnab
open Go.RowKit

/-- A log on its way, and a list that lies beside it. -/
structure CE (w : World) (G B : Nat) (K : Nat → Prop) (g b : Bk) (va : Value) (L : List Ch) (wk : World) : Prop where
  duo : Duo w.heap.size G B K g b wk
  below : Below w.heap.size w wk
  was : Lst wk va L
  hk : ∀ k, va.ownBlock = some k → K k

theorem CE.after {w wk w' : World} {G B : Nat} {K : Nat → Prop} {g b : Bk} {va : Value} {L : List Ch} (h : CE w G B K g b va L wk) (hb : Below wk.heap.size wk w') : CE w G B K g b va L w' :=
  ⟨h.duo.after hb, below_after h.below hb, h.was.below hb, h.hk⟩

theorem CE.log {w wk : World} {G B : Nat} {K : Nat → Prop} {g b : Bk} {va : Value} {L : List Ch} (h : CE w G B K g b va L wk) :
    ∃ LL dv lv, LogAt wk w.heap.size LL G dv lv g ∧ ∀ g' w', LogTo wk w.heap.size LL G g' w' → CE w G B K g' b va L w' := by
  obtain ⟨LL, dv, lv, hL, hs⟩ := h.duo.log
  refine ⟨LL, dv, lv, hL, fun g' w' ht => ?_⟩
  obtain ⟨h1, h2, h3⟩ := hs g' w' ht
  exact ⟨h1, h.below.trans h3, h.was.of_block h3.size (fun k e => h2 k (h.hk k e)), h.hk⟩

theorem ce_start {w wr wk : World} {G B : Nat} {b : Bk} {va : Value} {L : List Ch} (hr : RI w G B b wr) (hb : Below wr.heap.size wr wk) (ho : Own wk wr.heap.size va L) : CE w G B (fun k => wr.heap.size ≤ k ∧ k < wk.heap.size) b b va L wk :=
  ⟨hr.duo.add hb (fun _ e => .inr e), below_after hr.below hb, ho.lst, fun k e => World.ownsRow.lt ho k e⟩

/-- A writer that goes and comes again. -/
theorem comes_again {b : Bk} (h : Good b) {n : Int} (hn : wrB n = true) :
    joinC (leaveB b n) n = 0 ∧ joinN (leaveB b n) n = lastAt b.ds n + 1 ∧ (joinB (leaveB b n) n).ds = b.ds ∧ (joinB (leaveB b n) n).isHere n = true ∧ joinC (joinB (leaveB b n) n) n = 6 ∧ (joinB (leaveB b n) n).said n = b.len := by
  have hds : (leaveB b n).ds = b.ds := by unfold leaveB; split <;> rfl
  have hla : (leaveB b n).last = b.last := by unfold leaveB; split <;> rfl
  have hhe : (leaveB b n).here n = false := by
    rcases leave_codes b n with ⟨_, hc⟩ | ⟨hh, hc⟩
    · rw [leaveB, if_pos hc]
      exact setF_same _ _ _
    · rw [leaveB, if_neg (by rw [hc]; decide)]
      rw [isHere_yes hn] at hh
      exact hh
  have hj : joinC (leaveB b n) n = 0 := by rw [joinC, if_neg (by simp [hn]), if_neg (by simp [hhe])]
  have hb : joinB (leaveB b n) n = ⟨(leaveB b n).ds, setF (leaveB b n).here n true, (leaveB b n).last, setF (leaveB b n).said n (leaveB b n).len⟩ := by rw [joinB, if_pos hj]
  refine ⟨hj, by rw [joinN, if_pos hj, hla, h.last], by rw [hb]; exact hds, ?_, ?_, ?_⟩
  · rw [hb, isHere_yes hn]
    exact setF_same _ _ _
  · rw [joinC, if_neg (by simp [hn]), hb, if_pos (setF_same _ _ _)]
  · rw [hb]
    show setF _ n _ n = _
    rw [setF_same]
    show ((leaveB b n).ds.length : Int) = _
    rw [hds]
    rfl

theorem chars_of_ds {a b : Bk} (h : a.ds = b.ds) : a.chars = b.chars := by unfold Bk.chars; rw [h]

theorem lastAt_step {ds : List Dd} {j : Nat} (hj : j < ds.length) (n : Int) : lastAt (ds.take (j + 1)) n = if ds[j].by_ = n then ds[j].no else lastAt (ds.take j) n := by
  rw [take_snocD ds j hj, lastAt_snoc]
  show (if n = ds[j].by_ then ds[j].no else lastAt (ds.take j) n) = _
  by_cases e : ds[j].by_ = n
  · rw [if_pos e.symm, if_pos e]
  · rw [if_neg (fun x => e x.symm), if_neg e]

/-- What is asked behind all: who has said all can't say less, and can say it again. -/
theorem says_less {b : Bk} {n : Int} (h : b.isHere n = true) (hs : b.said n = b.len) : saysC b n (b.len - 1) = 8 := by
  unfold saysC
  rw [if_neg (by simp [h]), if_pos (by omega)]
theorem says_all {b : Bk} {n : Int} (h : b.isHere n = true) (hs : b.said n = b.len) : saysC b n b.len = 0 := by
  unfold saysC
  rw [if_neg (by simp [h]), if_neg (by omega)]

set_option maxRecDepth 20000 in
set_option maxHeartbeats 3200000 in
theorem logComes_any (v : Value) (xs : List LStep) (n : Int) (w : World) (h : SLst w v xs) (hf : ∀ x ∈ xs, FitX x) :
    Calls Try.prog 9 #[v, .int .i64 n] w fun e w' => e = .returned (.bool true) ∧ Below w.heap.size w w' := by
  have HD : Hid (SLst w v xs) := h
  have HF : Hid (∀ x ∈ xs, FitX x) := hf
  obtain ⟨a, cap, rfl⟩ := h.len
  clear h hf
  go_enter Try.func9, Try.ntmps9
  go_wp2_with fail
  refine (lbegun_any _).mono ?_
  rintro e w1 ⟨rfl, hb1⟩
  have HB1 : Hid (Below w.heap.size w w1) := hb1
  clear hb1
  go_wp2_with fail
  refine (greatL_any _ xs _ (HD.out.below HB1.out)).mono ?_
  rintro e w2 ⟨gr, rfl, hgr, rfl⟩
  cases gr
  · obtain ⟨hl, _⟩ := hgr rfl
    clear hgr
    cases hwn : wrB n
    · go_wp2_with (go_at_call 12; refine (isWriter_any _ _).mono ?_; rintro e w2 ⟨rfl, rfl⟩; rw [hwn])
      go_ret
      exact ⟨rfl, HB1.out⟩
    go_wp2_with fail
    refine (isWriter_any _ _).mono ?_
    rintro e w2 ⟨rfl, rfl⟩
    rw [hwn]
    go_wp2_with fail
    refine (new_lg _).mono ?_
    rintro e w3 ⟨rfl, rfl⟩
    have HR0 : Hid (RI w w2.heap.size (w2.heap.size + 1) (runTo xs 0) ((w2.alloc (.cells logZero 71)).alloc (.cells bookZero 42))) := ri_start HB1.out
    clear HB1
    go_wp2
    generalize World.alloc _ _ = w4 at *
    generalize w2.heap.size + 1 = B at *
    generalize w2.heap.size = G at *
    go_loopw [7] (fun i wr => ∃ k : Nat, k ≤ xs.length ∧ i = .int .i64 k ∧ Hid (RI w G B (runTo xs k) wr)) (fun i _ => xs.length - (intOf i).toNat)
    case atStart => exact ⟨0, Nat.zero_le _, rfl, HR0⟩
    case round =>
      obtain ⟨k, hk, rfl, HR⟩ := hrel
      clear HR0
      by_cases hlt : k < xs.length
      · have HG : Hid (Good (runTo xs k)) := runTo_good xs k
        have hkl : k < xs.length := hlt
        obtain ⟨bb, off, rfl, hr⟩ := (HD.out.below HR.out.below).row (by omega)
        obtain ⟨_, c0, c1, c2, c3, c4, c5, c6, c7, c8, c9, c10⟩ := hr.at_ k hkl
        have HSU : Hid (runTo xs (k + 1) = stepB (runTo xs k) xs[k]) := runTo_succ hkl
        have HFX : Hid (FitX xs[k]) := HF.out _ (List.getElem_mem hkl)
        generalize xs[k] = x at c0 c1 c2 c3 c4 c5 c6 c7 c8 c9 c10 HSU HFX
        clear hr
        obtain ⟨do_, w_, n_, ⟨kind, by_, no, seen, at_, many, text⟩, right⟩ := x
        simp only at c0 c1 c2 c3 c4 c5 c6 c7 c8 c9 c10
        go_wp2_with fail
        clear c0 c1 c2 c3 c4 c5 c6 c7 c8 c9 c10
        refine (step_any HR.out.duo HG.out ⟨do_, w_, n_, ⟨kind, by_, no, seen, at_, many, text⟩, right⟩ HFX.out).mono ?_
        rintro e w7 ⟨rfl, hst⟩
        rw [← HSU.out] at hst
        have HR7 : Hid (RI w G B (runTo xs (k + 1)) w7) := HR.out.stepped hst
        clear hst HR HSU HFX HG
        go_wp2
        go_roundw
        case rel => exact ⟨k + 1, by omega, by go_num, HR7⟩
        case measure => simp [intOf]; omega
      · have HG : Hid (Good (runTo xs k)) := runTo_good xs k
        generalize runTo xs k = b1 at *
        clear HF HD
        go_wp2_with fail
        clear hlt hk
        refine (duo_chars HR.out.duo).mono ?_
        rintro e w5 ⟨vw, rfl, ho5, hb5⟩
        obtain ⟨KK, hKK⟩ : ∃ K, CE w G B K b1 b1 vw b1.chars w5 := ⟨_, ce_start HR.out hb5 ho5⟩
        have HC5 : Hid (CE w G B KK b1 b1 vw b1.chars w5) := hKK
        have HG2 : Hid (Good (leaveB b1 n)) := good_leave n HG.out
        have HB2 : Hid (leaveB b1 n = leaveB b1 n) := rfl
        obtain ⟨aw, capw, rfl, _⟩ := ho5.lst.len
        clear ho5 hb5 hKK
        go_wp2_with fail
        refine (duo_here HC5.out.duo _).mono ?_
        rintro e wx ⟨rfl, rfl⟩
        rcases leave_codes b1 n with ⟨hh, hcd⟩ | ⟨hh, hcd⟩
        · rw [hh]
          have HCD : Hid (leaveC b1 n = 0) := hcd
          clear hh hcd
          go_wp2_with fail
          obtain ⟨LL, dv, lv, hL, hs⟩ := HC5.out.log
          refine (leave_lg hL n).mono ?_
          rintro e w7 ⟨rfl, hto⟩
          rw [HCD.out]
          have HC7 : Hid (CE w G B KK (leaveB b1 n) b1 (.slice aw b1.chars.length capw) b1.chars w7) := hs _ _ hto
          clear hL hs hto HC5
          generalize hb2 : leaveB b1 n = b2 at *
          have HB2 : Hid (b2 = leaveB b1 n) := hb2.symm
          clear hb2
          have HQ : Hid _ := comes_again HG.out hwn
          have HB3 : Hid (CE w G B KK b2 b1 (.slice aw b1.chars.length capw) b1.chars w7) := HC7.out
          have HG3 : Hid (Good (joinB b2 n)) := good_join n HG2.out
          obtain ⟨q1, q2, q3, q4, q5, q6⟩ := comes_again HG.out hwn
          rw [← HB2.out] at q1 q2 q3 q4 q5 q6
          have HJ1 : Hid (joinC b2 n = 0) := q1
          have HJ2 : Hid (joinN b2 n = lastAt b1.ds n + 1) := q2
          have HJ3 : Hid ((joinB b2 n).ds = b1.ds) := q3
          have HJ4 : Hid ((joinB b2 n).isHere n = true) := q4
          have HJ5 : Hid (joinC (joinB b2 n) n = 6) := q5
          have HJ6 : Hid ((joinB b2 n).said n = ((joinB b2 n).ds.length : Int)) := by show _ = _; rw [q6, q3]; rfl
          clear q1 q2 q3 q4 q5 q6 HQ
          go_wp2_with fail
          obtain ⟨LL, dv, lv, hL, hs⟩ := HB3.out.log
          refine (join_lg hL HG2.out n).mono ?_
          rintro e w8 ⟨rfl, hto⟩
          rw [HJ1.out, HJ2.out]
          have HC8 : Hid (CE w G B KK (joinB b2 n) b1 (.slice aw b1.chars.length capw) b1.chars w8) := hs _ _ hto
          clear hL hs hto HB3 HC7
          generalize joinB b2 n = b3 at *
          have hsm : b3.ds.length ≤ 120 := HG3.out.small
          go_wp2
          go_loopw [11, 12] (fun la i wq => ∃ j : Nat, j ≤ b3.ds.length ∧ i = .int .i64 ((j : Int) + 1) ∧ la = .int .i64 (lastAt (b3.ds.take j) n) ∧ Hid (CE w G B KK b3 b1 (.slice aw b1.chars.length capw) b1.chars wq)) (fun _ i _ => b3.ds.length + 1 - (intOf i).toNat)
          case atStart => exact ⟨0, Nat.zero_le _, rfl, rfl, HC8⟩
          case round =>
            obtain ⟨j, hj, rfl, rfl, HC⟩ := hrel
            clear HC8
            by_cases hlt : j < b3.ds.length
            · obtain ⟨h1, h2⟩ := nth_at hlt
              have H1 : Hid (nthD b3 ((j : Int) + 1) = b3.ds[j]) := h1
              have H2 : Hid (isD b3 ((j : Int) + 1) = true) := h2
              have HLA : Hid (lastAt (b3.ds.take (j + 1)) n = _) := lastAt_step hlt n
              generalize b3.ds[j] = d at *
              clear h1 h2
              obtain ⟨kind, by_, no, seen, at_, many, text⟩ := d
              by_cases hby : by_ = n
              · have hby' : (by_ == n) = true := by simp [hby]
                have HLB : Hid (lastAt (b3.ds.take (j + 1)) n = no) := by show _ = _; rw [HLA.out, if_pos hby]
                clear hby HLA
                generalize lastAt (b3.ds.take j) n = lm at *
                go_wp2_with (first | (go_at_call 21; refine (duo_len HC.out.duo).mono ?_; rintro e wx ⟨rfl, rfl⟩) | (go_at_call 24; refine (duo_deed HC.out.duo HG3.out _).mono ?_; rintro e wy ⟨rfl, hby⟩; rw [H1.out, H2.out]; have HCy : Hid (∀ o, CE w G B KK b3 b1 (.slice aw b1.chars.length capw) b1.chars (wy.alloc o)) := fun o => (HC.out.after hby).after ((Below.refl _ _).alloc (Nat.le_refl _) _); clear hby))
                go_roundw
                case rel => exact ⟨j + 1, by omega, by go_num, by rw [HLB.out], HCy.out _⟩
                case measure => simp [intOf]; omega
              · have hby' : (by_ == n) = false := by simp [hby]
                have HLB : Hid (lastAt (b3.ds.take (j + 1)) n = lastAt (b3.ds.take j) n) := by show _ = _; rw [HLA.out, if_neg hby]
                clear hby HLA
                generalize hlm : lastAt (b3.ds.take j) n = lm at *
                go_wp2_with (first | (go_at_call 21; refine (duo_len HC.out.duo).mono ?_; rintro e wx ⟨rfl, rfl⟩) | (go_at_call 24; refine (duo_deed HC.out.duo HG3.out _).mono ?_; rintro e wy ⟨rfl, hby⟩; rw [H1.out, H2.out]; have HCy : Hid (∀ o, CE w G B KK b3 b1 (.slice aw b1.chars.length capw) b1.chars (wy.alloc o)) := fun o => (HC.out.after hby).after ((Below.refl _ _).alloc (Nat.le_refl _) _); clear hby))
                go_roundw
                case rel => exact ⟨j + 1, by omega, by go_num, by rw [HLB.out], HCy.out _⟩
                case measure => simp [intOf]; omega
            · obtain rfl : j = b3.ds.length := by omega
              have HLT : Hid (lastAt (b3.ds.take b3.ds.length) n = lastAt b1.ds n) := by show _ = _; rw [List.take_length, HJ3.out]
              rw [HLT.out]
              obtain ⟨hlm0, hlm1⟩ := lastAt_bound HG.out n
              rw [HG.out.last] at hlm0 hlm1
              have hlm2 : lastAt b1.ds n ≤ 120 := by have : b1.len ≤ 120 := (by have := HG.out.small; show (b1.ds.length : Int) ≤ 120; omega); omega
              clear hlm1
              generalize lastAt b1.ds n = lm at *
              have HCH : Hid (b3.chars = b1.chars) := chars_of_ds HJ3.out
              have HCS : Hid (b1.chars.length ≤ 1000) := by have := small_chars (b := b1); show _ ≤ _; omega
              have HS8 : Hid (saysC b3 n ((b3.ds.length : Int) - 1) = 8) := says_less HJ4.out HJ6.out
              have HS0 : Hid (saysC b3 n (b3.ds.length : Int) = 0) := says_all HJ4.out HJ6.out
              have HSB : Hid (saysB b3 n ((b3.ds.length : Int) - 1) = b3) := says_no (by rw [HS8.out]; decide)
              go_wp2_with fail
              refine (duo_len HC.out.duo).mono ?_
              rintro e wx ⟨rfl, rfl⟩
              go_wp2_with fail
              obtain ⟨LL, dv, lv, hL, hs⟩ := HC.out.log
              refine (join_lg hL HG3.out n).mono ?_
              rintro e w9 ⟨rfl, hto⟩
              rw [HJ5.out]
              rw [join_no (by rw [HJ5.out]; decide)] at hto
              have HC9 : Hid (CE w G B KK b3 b1 (.slice aw b1.chars.length capw) b1.chars w9) := hs _ _ hto
              generalize joinN b3 n = jn
              clear hL hs hto HC
              go_wp2_with fail
              refine (duo_here HC9.out.duo _).mono ?_
              rintro e wx ⟨rfl, rfl⟩
              rw [HJ4.out]
              go_wp2_with fail
              refine (duo_chars HC9.out.duo).mono ?_
              rintro e wa ⟨va, rfl, hoa, hba⟩
              rw [HCH.out] at hoa
              have HCa : Hid (CE w G B KK b3 b1 (.slice aw b1.chars.length capw) b1.chars wa) := HC9.out.after hba
              have HOa : Hid (Lst wa va b1.chars) := hoa.lst
              clear hba hoa HC9
              go_wp2_with fail
              refine (same_eq HCa.out.was HOa.out HCS.out).mono ?_
              rintro e wb ⟨rfl, hbb⟩
              have HCb : Hid (CE w G B KK b3 b1 (.slice aw b1.chars.length capw) b1.chars wb) := HCa.out.after hbb
              clear hbb HCa HOa
              go_wp2_with fail
              refine (duo_len HCb.out.duo).mono ?_
              rintro e wx ⟨rfl, rfl⟩
              by_cases hz : b3.ds.length = 0
              · have hz' : ((b3.ds.length : Int) == 0) = true := by rw [hz]; rfl
                clear hz
                go_wp2_with fail
                refine (duo_len HCb.out.duo).mono ?_
                rintro e wx ⟨rfl, rfl⟩
                go_wp2_with fail
                obtain ⟨LL, dv, lv, hL, hs⟩ := HCb.out.log
                refine (says_lg hL n _).mono ?_
                rintro e wd ⟨rfl, hto⟩
                rw [HS0.out]
                have HBd : Hid (Below w.heap.size w wd) := (hs _ _ hto).below
                clear hL hs hto
                go_wp2
                go_ret
                exact ⟨rfl, HBd.out⟩
              · have hz' : ((b3.ds.length : Int) == 0) = false := by simp only [beq_eq_false_iff_ne]; omega
                clear hz
                go_wp2_with fail
                refine (duo_len HCb.out.duo).mono ?_
                rintro e wx ⟨rfl, rfl⟩
                go_wp2_with fail
                obtain ⟨LL, dv, lv, hL, hs⟩ := HCb.out.log
                refine (says_lg hL n _).mono ?_
                rintro e wc ⟨rfl, hto⟩
                rw [HS8.out]
                rw [HSB.out] at hto
                have HCc : Hid (CE w G B KK b3 b1 (.slice aw b1.chars.length capw) b1.chars wc) := hs _ _ hto
                clear hL hs hto HCb
                have HCb := HCc
                go_wp2_with fail
                refine (duo_len HCb.out.duo).mono ?_
                rintro e wx ⟨rfl, rfl⟩
                go_wp2_with fail
                obtain ⟨LL, dv, lv, hL, hs⟩ := HCb.out.log
                refine (says_lg hL n _).mono ?_
                rintro e wd ⟨rfl, hto⟩
                rw [HS0.out]
                have HBd : Hid (Below w.heap.size w wd) := (hs _ _ hto).below
                clear hL hs hto
                go_wp2
                go_ret
                exact ⟨rfl, HBd.out⟩
        · rw [hh]
          have HNB : Hid (leaveB b1 n = b1) := leave_no (by rw [hcd]; decide)
          have HC7 : Hid (CE w G B KK (leaveB b1 n) b1 (.slice aw b1.chars.length capw) b1.chars wx) := by rw [HNB.out]; exact HC5
          clear hh hcd HC5 HNB
          generalize hb2 : leaveB b1 n = b2 at *
          have HB2 : Hid (b2 = leaveB b1 n) := hb2.symm
          clear hb2
          generalize hw7 : wx = w7 at *
          clear hw7
          have HQ : Hid _ := comes_again HG.out hwn
          have HB3 : Hid (CE w G B KK b2 b1 (.slice aw b1.chars.length capw) b1.chars w7) := HC7.out
          have HG3 : Hid (Good (joinB b2 n)) := good_join n HG2.out
          obtain ⟨q1, q2, q3, q4, q5, q6⟩ := comes_again HG.out hwn
          rw [← HB2.out] at q1 q2 q3 q4 q5 q6
          have HJ1 : Hid (joinC b2 n = 0) := q1
          have HJ2 : Hid (joinN b2 n = lastAt b1.ds n + 1) := q2
          have HJ3 : Hid ((joinB b2 n).ds = b1.ds) := q3
          have HJ4 : Hid ((joinB b2 n).isHere n = true) := q4
          have HJ5 : Hid (joinC (joinB b2 n) n = 6) := q5
          have HJ6 : Hid ((joinB b2 n).said n = ((joinB b2 n).ds.length : Int)) := by show _ = _; rw [q6, q3]; rfl
          clear q1 q2 q3 q4 q5 q6 HQ
          go_wp2_with fail
          obtain ⟨LL, dv, lv, hL, hs⟩ := HB3.out.log
          refine (join_lg hL HG2.out n).mono ?_
          rintro e w8 ⟨rfl, hto⟩
          rw [HJ1.out, HJ2.out]
          have HC8 : Hid (CE w G B KK (joinB b2 n) b1 (.slice aw b1.chars.length capw) b1.chars w8) := hs _ _ hto
          clear hL hs hto HB3 HC7
          generalize joinB b2 n = b3 at *
          have hsm : b3.ds.length ≤ 120 := HG3.out.small
          go_wp2
          go_loopw [11, 12] (fun la i wq => ∃ j : Nat, j ≤ b3.ds.length ∧ i = .int .i64 ((j : Int) + 1) ∧ la = .int .i64 (lastAt (b3.ds.take j) n) ∧ Hid (CE w G B KK b3 b1 (.slice aw b1.chars.length capw) b1.chars wq)) (fun _ i _ => b3.ds.length + 1 - (intOf i).toNat)
          case atStart => exact ⟨0, Nat.zero_le _, rfl, rfl, HC8⟩
          case round =>
            obtain ⟨j, hj, rfl, rfl, HC⟩ := hrel
            clear HC8
            by_cases hlt : j < b3.ds.length
            · obtain ⟨h1, h2⟩ := nth_at hlt
              have H1 : Hid (nthD b3 ((j : Int) + 1) = b3.ds[j]) := h1
              have H2 : Hid (isD b3 ((j : Int) + 1) = true) := h2
              have HLA : Hid (lastAt (b3.ds.take (j + 1)) n = _) := lastAt_step hlt n
              generalize b3.ds[j] = d at *
              clear h1 h2
              obtain ⟨kind, by_, no, seen, at_, many, text⟩ := d
              by_cases hby : by_ = n
              · have hby' : (by_ == n) = true := by simp [hby]
                have HLB : Hid (lastAt (b3.ds.take (j + 1)) n = no) := by show _ = _; rw [HLA.out, if_pos hby]
                clear hby HLA
                generalize lastAt (b3.ds.take j) n = lm at *
                go_wp2_with (first | (go_at_call 21; refine (duo_len HC.out.duo).mono ?_; rintro e wx ⟨rfl, rfl⟩) | (go_at_call 24; refine (duo_deed HC.out.duo HG3.out _).mono ?_; rintro e wy ⟨rfl, hby⟩; rw [H1.out, H2.out]; have HCy : Hid (∀ o, CE w G B KK b3 b1 (.slice aw b1.chars.length capw) b1.chars (wy.alloc o)) := fun o => (HC.out.after hby).after ((Below.refl _ _).alloc (Nat.le_refl _) _); clear hby))
                go_roundw
                case rel => exact ⟨j + 1, by omega, by go_num, by rw [HLB.out], HCy.out _⟩
                case measure => simp [intOf]; omega
              · have hby' : (by_ == n) = false := by simp [hby]
                have HLB : Hid (lastAt (b3.ds.take (j + 1)) n = lastAt (b3.ds.take j) n) := by show _ = _; rw [HLA.out, if_neg hby]
                clear hby HLA
                generalize hlm : lastAt (b3.ds.take j) n = lm at *
                go_wp2_with (first | (go_at_call 21; refine (duo_len HC.out.duo).mono ?_; rintro e wx ⟨rfl, rfl⟩) | (go_at_call 24; refine (duo_deed HC.out.duo HG3.out _).mono ?_; rintro e wy ⟨rfl, hby⟩; rw [H1.out, H2.out]; have HCy : Hid (∀ o, CE w G B KK b3 b1 (.slice aw b1.chars.length capw) b1.chars (wy.alloc o)) := fun o => (HC.out.after hby).after ((Below.refl _ _).alloc (Nat.le_refl _) _); clear hby))
                go_roundw
                case rel => exact ⟨j + 1, by omega, by go_num, by rw [HLB.out], HCy.out _⟩
                case measure => simp [intOf]; omega
            · obtain rfl : j = b3.ds.length := by omega
              have HLT : Hid (lastAt (b3.ds.take b3.ds.length) n = lastAt b1.ds n) := by show _ = _; rw [List.take_length, HJ3.out]
              rw [HLT.out]
              obtain ⟨hlm0, hlm1⟩ := lastAt_bound HG.out n
              rw [HG.out.last] at hlm0 hlm1
              have hlm2 : lastAt b1.ds n ≤ 120 := by have : b1.len ≤ 120 := (by have := HG.out.small; show (b1.ds.length : Int) ≤ 120; omega); omega
              clear hlm1
              generalize lastAt b1.ds n = lm at *
              have HCH : Hid (b3.chars = b1.chars) := chars_of_ds HJ3.out
              have HCS : Hid (b1.chars.length ≤ 1000) := by have := small_chars (b := b1); show _ ≤ _; omega
              have HS8 : Hid (saysC b3 n ((b3.ds.length : Int) - 1) = 8) := says_less HJ4.out HJ6.out
              have HS0 : Hid (saysC b3 n (b3.ds.length : Int) = 0) := says_all HJ4.out HJ6.out
              have HSB : Hid (saysB b3 n ((b3.ds.length : Int) - 1) = b3) := says_no (by rw [HS8.out]; decide)
              go_wp2_with fail
              refine (duo_len HC.out.duo).mono ?_
              rintro e wx ⟨rfl, rfl⟩
              go_wp2_with fail
              obtain ⟨LL, dv, lv, hL, hs⟩ := HC.out.log
              refine (join_lg hL HG3.out n).mono ?_
              rintro e w9 ⟨rfl, hto⟩
              rw [HJ5.out]
              rw [join_no (by rw [HJ5.out]; decide)] at hto
              have HC9 : Hid (CE w G B KK b3 b1 (.slice aw b1.chars.length capw) b1.chars w9) := hs _ _ hto
              generalize joinN b3 n = jn
              clear hL hs hto HC
              go_wp2_with fail
              refine (duo_here HC9.out.duo _).mono ?_
              rintro e wx ⟨rfl, rfl⟩
              rw [HJ4.out]
              go_wp2_with fail
              refine (duo_chars HC9.out.duo).mono ?_
              rintro e wa ⟨va, rfl, hoa, hba⟩
              rw [HCH.out] at hoa
              have HCa : Hid (CE w G B KK b3 b1 (.slice aw b1.chars.length capw) b1.chars wa) := HC9.out.after hba
              have HOa : Hid (Lst wa va b1.chars) := hoa.lst
              clear hba hoa HC9
              go_wp2_with fail
              refine (same_eq HCa.out.was HOa.out HCS.out).mono ?_
              rintro e wb ⟨rfl, hbb⟩
              have HCb : Hid (CE w G B KK b3 b1 (.slice aw b1.chars.length capw) b1.chars wb) := HCa.out.after hbb
              clear hbb HCa HOa
              go_wp2_with fail
              refine (duo_len HCb.out.duo).mono ?_
              rintro e wx ⟨rfl, rfl⟩
              by_cases hz : b3.ds.length = 0
              · have hz' : ((b3.ds.length : Int) == 0) = true := by rw [hz]; rfl
                clear hz
                go_wp2_with fail
                refine (duo_len HCb.out.duo).mono ?_
                rintro e wx ⟨rfl, rfl⟩
                go_wp2_with fail
                obtain ⟨LL, dv, lv, hL, hs⟩ := HCb.out.log
                refine (says_lg hL n _).mono ?_
                rintro e wd ⟨rfl, hto⟩
                rw [HS0.out]
                have HBd : Hid (Below w.heap.size w wd) := (hs _ _ hto).below
                clear hL hs hto
                go_wp2
                go_ret
                exact ⟨rfl, HBd.out⟩
              · have hz' : ((b3.ds.length : Int) == 0) = false := by simp only [beq_eq_false_iff_ne]; omega
                clear hz
                go_wp2_with fail
                refine (duo_len HCb.out.duo).mono ?_
                rintro e wx ⟨rfl, rfl⟩
                go_wp2_with fail
                obtain ⟨LL, dv, lv, hL, hs⟩ := HCb.out.log
                refine (says_lg hL n _).mono ?_
                rintro e wc ⟨rfl, hto⟩
                rw [HS8.out]
                rw [HSB.out] at hto
                have HCc : Hid (CE w G B KK b3 b1 (.slice aw b1.chars.length capw) b1.chars wc) := hs _ _ hto
                clear hL hs hto HCb
                have HCb := HCc
                go_wp2_with fail
                refine (duo_len HCb.out.duo).mono ?_
                rintro e wx ⟨rfl, rfl⟩
                go_wp2_with fail
                obtain ⟨LL, dv, lv, hL, hs⟩ := HCb.out.log
                refine (says_lg hL n _).mono ?_
                rintro e wd ⟨rfl, hto⟩
                rw [HS0.out]
                have HBd : Hid (Below w.heap.size w wd) := (hs _ _ hto).below
                clear hL hs hto
                go_wp2
                go_ret
                exact ⟨rfl, HBd.out⟩
  · go_wp2
    go_ret
    exact ⟨rfl, HB1.out⟩

/-- THE LAW. -/
theorem law_logcomes (w : World) {v : Value} {xs : List LStep} (h : SLst w v xs) (hf : ∀ x ∈ xs, FitX x) (n : Int) (_ : Fits n) :
    Calls Try.prog 9 #[v, .int .i64 n] w fun e w' => e = .returned (.bool true) ∧ Below w.heap.size w w' := logComes_any v xs n w h hf

end Go.Proofs.Ytfjjjbohflobnab
