/-
  The law WriterRefuses: behind a code a writer is as before.
-/
import Derived.Test.YtdlmlhmdjfbdiacWRun
import Derived.Test.YtdlmlhmdjfbdiacFind
import Derived.Deep.Slices
import Derived.OpenShut
import Derived.Test.YtdlmlhmdjfbdiacFMeets
import Derived.ProofKit
import Derived.ShutString
import Derived.ChangeOld
namespace Go.Proofs.Ytdlmlhmdjfbdiac
open Go Go.RowKit

/-- A writer that was asked for its list and its open deeds; and a deed in a box. -/
structure WQ (w0 : World) (P E : Nat) (r : Wr) (ts : List (List Ch)) (v1 v2 : Value) (d : Dd) (wk : World) : Prop where
  pw : ∃ S lv ov tvs, PwAt wk w0.heap.size S P lv ov tvs r.list r.opens ts r.me r.next r.seen r.sent
  l1 : Lst wk v1 r.list
  l2 : DLst wk v2 r.opens
  box : DdAt wk E 0 d
  below : Below w0.heap.size w0 wk

theorem WQ.after {w0 wk w' : World} {P E : Nat} {r : Wr} {ts : List (List Ch)} {v1 v2 : Value} {d : Dd} (h : WQ w0 P E r ts v1 v2 d wk) (hb : Below wk.heap.size wk w') : WQ w0 P E r ts v1 v2 d w' := by
  obtain ⟨S, lv, ov, tvs, hp⟩ := h.pw
  exact ⟨⟨S, lv, ov, tvs, hp.below hb⟩, h.l1.below hb, h.l2.below hb, h.box.below hb, below_after h.below hb⟩

/-- The same, asked for its list only. -/
structure WR (w0 : World) (P E : Nat) (r : Wr) (ts : List (List Ch)) (v1 : Value) (d : Dd) (wk : World) : Prop where
  pw : ∃ S lv ov tvs, PwAt wk w0.heap.size S P lv ov tvs r.list r.opens ts r.me r.next r.seen r.sent
  l1 : Lst wk v1 r.list
  box : DdAt wk E 0 d
  below : Below w0.heap.size w0 wk

theorem WR.after {w0 wk w' : World} {P E : Nat} {r : Wr} {ts : List (List Ch)} {v1 : Value} {d : Dd} (h : WR w0 P E r ts v1 d wk) (hb : Below wk.heap.size wk w') : WR w0 P E r ts v1 d w' := by
  obtain ⟨S, lv, ov, tvs, hp⟩ := h.pw
  exact ⟨⟨S, lv, ov, tvs, hp.below hb⟩, h.l1.below hb, h.box.below hb, below_after h.below hb⟩

theorem hear_kind {w : World} {base P : Nat} {S : Nat → Prop} {lv ov : Value} {tvs : List Value} {r : Wr} {ts : List (List Ch)} (h : PwAt w base S P lv ov tvs r.list r.opens ts r.me r.next r.seen r.sent) (ho : WOk r ts) (hks : ∀ e ∈ r.opens, e.kind = 1 ∨ e.kind = 2) (d : Dd) (h1 : d.kind ≠ 1) (h2 : d.kind ≠ 2) :
    Calls Try.prog 20 #[.pointer (some ⟨P, 0, none⟩), ddV d] w fun e w' => ∃ c, e = .returned (.int .i64 c) ∧ c ≠ 0 ∧ Below w.heap.size w w' := by
  by_cases hb : d.by_ = r.me
  · refine (hearsOwn_pw h d hb (fun c w' => c ≠ 0 ∧ Below w.heap.size w w') (fun wk hj => ?_))
    have hp := h.below hj.below
    cases hes : r.opens with
    | nil =>
      rw [hes] at hp
      refine (hearOwn_none hp d).mono ?_
      rintro e w' ⟨rfl, hb'⟩
      exact ⟨12, rfl, by decide, below_after hj.below hb'⟩
    | cons e es =>
      have hke := hks e (by rw [hes]; simp)
      rw [hes] at hp
      refine (hearOwn_kind hp d (by omega)).mono ?_
      rintro e w' ⟨rfl, hb'⟩
      exact ⟨12, rfl, by decide, below_after hj.below hb'⟩
  · have hl := ho.len
    have hs := ho.seen
    have hc : doC r.list d ((r.seen : Int) + 1) ≠ 0 := fun e => by
      have := (check_parts (doC_zero e).1).1
      omega
    refine (hears_pw h (by omega) ho.fits (by omega) d hb).mono ?_
    rintro e w' ⟨rfl, -, h9⟩
    exact ⟨_, rfl, hc, h9 hc⟩

theorem rmi_kinds {bare : Bool} {m : Rm} (h : RmI bare m) {k : Nat} (hk : k < 4) {r : Wr} {ts : List (List Ch)} (he : m.p k = some (r, ts)) : ∀ e ∈ r.opens, e.kind = 1 ∨ e.kind = 2 := by
  obtain ⟨_, _, c, hw, _⟩ := h.some k hk r ts he
  have hf := (hw.list_eq h.good).1
  have key : ∀ (es : List Dd) (l : List Ch), fitTop l es → ∀ e ∈ es, e.kind = 1 ∨ e.kind = 2 := by
    intro es
    induction es with
    | nil => intro l _ e he; cases he
    | cons a es ih =>
      intro l hf e he
      rcases List.mem_cons.1 he with rfl | he
      · exact (check_parts hf.1.1).1
      · exact ih _ hf.2 e he
  exact key _ _ hf

theorem mod_four (x : Int) : ∃ j : Nat, (IntKind.u64.wrap x).tmod 4 = (j : Int) ∧ j < 4 := by
  have hs : 0 ≤ IntKind.u64.wrap x := by
    show 0 ≤ x % (2 ^ 64 : Int)
    omega
  have t0 := Int.tmod_nonneg 4 hs
  have t1 := Int.tmod_lt_of_pos (IntKind.u64.wrap x) (b := 4) (by omega)
  exact ⟨((IntKind.u64.wrap x).tmod 4).toNat, by omega, by omega⟩

set_option maxRecDepth 20000 in
set_option maxHeartbeats 6400000 in
theorem writerRefuses_any (v : Value) (xs : List RStep) (d : Dd) (k : Int) (w : World) (h : RLst w v xs) :
    Calls Try.prog 5 #[v, ddV d, .int .i64 k] w fun e w' => e = .returned (.bool true) ∧ Below w.heap.size w w' := by
  have HD : Hid (RLst (w.alloc (dObj d)) v xs) := h.below (below1 _ _)
  have HE : Hid (DdAt (w.alloc (dObj d)) w.heap.size 0 d) := ddat_start w d
  obtain ⟨a, cap, rfl⟩ := h.len
  obtain ⟨jj, hjj, hj4⟩ := mod_four k
  clear h
  obtain ⟨kind, by_, no, dseen, at_, many, text⟩ := d
  go_enter Try.func5, Try.ntmps5
  go_wp2_with fail
  refine (wbegun_any _).mono ?_
  rintro e w1 ⟨rfl, hb1⟩
  have HB1 : Hid (Below (w.alloc (dObj ⟨kind, by_, no, dseen, at_, many, text⟩)).heap.size (w.alloc (dObj ⟨kind, by_, no, dseen, at_, many, text⟩)) w1) := hb1
  have HE1 : Hid (DdAt w1 w.heap.size 0 ⟨kind, by_, no, dseen, at_, many, text⟩) := HE.out.below hb1
  clear hb1
  obtain ⟨_, c0, c1, c2, c3, c4, c5, c6⟩ := HE1.out
  simp only [Nat.zero_add] at c0 c1 c2 c3 c4 c5 c6
  go_wp2_with fail
  refine (greatR_any _ xs _ (HD.out.below HB1.out)).mono ?_
  rintro e w2 ⟨gr, rfl, hgr, rfl⟩
  cases gr
  · have hl := hgr rfl
    clear hgr
    by_cases htx : 100 < text.size
    · go_wp2_with fail
      go_ret
      exact ⟨rfl, below_after (below1 _ _) HB1.out⟩
    · go_wp2_with fail
      refine (newRoom_any _).mono ?_
      rintro e w3 ⟨rfl, rfl⟩
      have HR0 : Hid (RR (w.alloc (dObj ⟨kind, by_, no, dseen, at_, many, text⟩)) (w2.heap.size + 1) w2.heap.size false rm0 ((w2.alloc (.cells logZ 65)).alloc (.cells (roomZ w2.heap.size false) 37))) := rr_start HB1.out false
      clear HB1 HE1 c0 c1 c2 c3 c4 c5 c6
      go_wp2
      generalize World.alloc (World.alloc w2 _) _ = w4 at *
      generalize w2.heap.size + 1 = R at *
      generalize w2.heap.size = G at *
      go_loopw [8] (fun i wr => ∃ (j : Nat) (m : Rm), j ≤ xs.length ∧ i = .int .i64 j ∧ Hid (RR (w.alloc (dObj ⟨kind, by_, no, dseen, at_, many, text⟩)) R G false m wr)) (fun i _ => xs.length - (intOf i).toNat)
      case atStart => exact ⟨0, rm0, Nat.zero_le _, rfl, HR0⟩
      case round =>
        obtain ⟨i, m, hi, rfl, HR⟩ := hrel
        clear HR0
        by_cases hlt : i < xs.length
        · have hkl : i < xs.length := hlt
          obtain ⟨bb, off, rfl, hr⟩ := (HD.out.below HR.out.below).row (by omega)
          obtain ⟨_, c0, c1, c2, c3, c4⟩ := hr.at_ i hkl
          generalize xs[i] = x at *
          obtain ⟨xdo, xw, xat, xmany, xtext⟩ := x
          simp only at c0 c1 c2 c3 c4
          clear hr
          go_wp2_with fail
          refine (HR.out.step ⟨xdo, xw, xat, xmany, xtext⟩).mono ?_
          rintro e w5 ⟨rfl, hst, hbl⟩
          have HBL : Hid (Below (w.alloc (dObj ⟨kind, by_, no, dseen, at_, many, text⟩)).heap.size (w.alloc (dObj ⟨kind, by_, no, dseen, at_, many, text⟩)) w5) := hbl
          clear hbl
          generalize overRm m ⟨xdo, xw, xat, xmany, xtext⟩ = over at *
          have HB5 : Hid (over = false → ∃ m', RR (w.alloc (dObj ⟨kind, by_, no, dseen, at_, many, text⟩)) R G false m' w5) := fun e => ⟨_, hst e⟩
          clear hst c0 c1 c2 c3 c4 HR
          cases over
          · obtain ⟨m', hm'⟩ := HB5.out rfl
            have HR5 : Hid (RR (w.alloc (dObj ⟨kind, by_, no, dseen, at_, many, text⟩)) R G false m' w5) := hm'
            clear hm' HB5
            go_wp2_with fail
            go_roundw
            case rel => exact ⟨i + 1, m', by omega, by go_num, HR5⟩
            case measure => simp [intOf]; omega
          · go_wp2_with fail
            go_ret
            exact ⟨rfl, below_after (below1 _ _) HBL.out⟩
        · obtain ⟨pw, sc, hrm⟩ := HR.out.room
          have hji : (jj : Int) < 4 := by omega
          have g1 := hrm.cells.wr jj hj4
          cases hp : m.p jj with
          | none =>
            have hps : (m.p jj).isSome = false := by rw [hp]; rfl
            simp only [hps, ptrOf, Bool.false_eq_true, if_false] at g1
            clear hrm hp hps
            go_wp2_with fail
            go_ret
            exact ⟨rfl, below_after (below1 _ _) HR.out.below⟩
          | some q =>
            obtain ⟨r, ts⟩ := q
            have hps : (m.p jj).isSome = true := by rw [hp]; rfl
            simp only [hps, ptrOf, if_true] at g1
            have HO : Hid (WOk r ts) := rmi_wok HR.out.inv hj4 hp
            have HKS : Hid (∀ e ∈ r.opens, e.kind = 1 ∨ e.kind = 2) := rmi_kinds HR.out.inv hj4 hp
            have HRM : Hid (Room (w.alloc (dObj ⟨kind, by_, no, dseen, at_, many, text⟩)).heap.size R G pw sc false (fun _ => False) m wr) := hrm
            have HPE : Hid (m.p jj = some (r, ts)) := hp
            clear hrm hp hps
            go_wp2_with fail
            clear g1
            obtain ⟨S, lv, ov, tvs, hpw, _⟩ := HRM.out.wr hj4 HPE.out
            refine (chars_pw hpw (by have := HO.out.len; omega)).mono ?_
            rintro e w6 ⟨v1, rfl, ho6, hb6⟩
            have HQ6 : Hid (WR (w.alloc (dObj ⟨kind, by_, no, dseen, at_, many, text⟩)) (pw jj) w.heap.size r ts v1 ⟨kind, by_, no, dseen, at_, many, text⟩ w6) := ⟨⟨S, lv, ov, tvs, hpw.below hb6⟩, ho6.lst, HE.out.below (below_after HR.out.below hb6), below_after HR.out.below hb6⟩
            clear ho6 hb6 hpw HRM HPE HR
            go_wp2_with fail
            obtain ⟨S, lv, ov, tvs, hpw⟩ := HQ6.out.pw
            refine (text_pw hpw (by have := HO.out.len; omega)).mono ?_
            rintro e w7 ⟨rfl, hb7⟩
            have HQ7 : Hid (WR (w.alloc (dObj ⟨kind, by_, no, dseen, at_, many, text⟩)) (pw jj) w.heap.size r ts v1 ⟨kind, by_, no, dseen, at_, many, text⟩ w7) := HQ6.out.after hb7
            clear hb7 hpw HQ6
            go_wp2_with fail
            obtain ⟨S, lv, ov, tvs, hpw⟩ := HQ7.out.pw
            refine (seen_pw hpw).mono ?_
            rintro e w8 ⟨rfl, rfl⟩
            go_wp2_with fail
            refine (open_pw hpw (by have := HO.out.few; omega)).mono ?_
            rintro e w9 ⟨v2, rfl, ho9, hb9⟩
            have HC : Hid (WQ (w.alloc (dObj ⟨kind, by_, no, dseen, at_, many, text⟩)) (pw jj) w.heap.size r ts v1 v2 ⟨kind, by_, no, dseen, at_, many, text⟩ w9) := ⟨⟨S, lv, ov, tvs, hpw.below hb9⟩, HQ7.out.l1.below hb9, ho9.dlst, HQ7.out.box.below hb9, below_after HQ7.out.below hb9⟩
            clear ho9 hb9 hpw HQ7
            by_cases hk1 : kind = 1
            · subst hk1
              obtain ⟨_, c0, c1, c2, c3, c4, c5, c6⟩ := HC.out.box
              simp only [Nat.zero_add] at c0 c1 c2 c3 c4 c5 c6
              go_wp2_with fail
              obtain ⟨S, lv, ov, tvs, hp⟩ := HC.out.pw
              by_cases hz : doC r.list ⟨1, r.me, r.next, r.seen, at_, 0, text⟩ openN = 0
              · refine (put_yes hp (by have := HO.out.len; omega) HO.out.fits (by have := HO.out.few; omega) (by have := HO.out.n2; omega) at_ text hz).mono ?_
                rintro e wz ⟨rfl, hto⟩
                have HZ : Hid (Below (w.alloc (dObj ⟨1, by_, no, dseen, at_, many, text⟩)).heap.size (w.alloc (dObj ⟨1, by_, no, dseen, at_, many, text⟩)) wz) := HC.out.below.trans (hto.kept.below (fun k e => (hp.lo k e).1) hp.base_le)
                have HBX : Hid (DdAt wz w.heap.size 0 ⟨1, by_, no, dseen, at_, many, text⟩) := (ddat_start w ⟨1, by_, no, dseen, at_, many, text⟩).below HZ.out
                clear hto hp hz HC c0 c1 c2 c3 c4 c5 c6
                obtain ⟨_, c0, c1, c2, c3, c4, c5, c6⟩ := HBX.out
                simp only [Nat.zero_add] at c0 c1 c2 c3 c4 c5 c6
                go_wp2_with fail
                go_ret
                exact ⟨ret_b (by simp), below_after (below1 _ _) HZ.out⟩
              · obtain ⟨cc, hcc⟩ : ∃ cc, doC r.list ⟨1, r.me, r.next, r.seen, at_, 0, text⟩ openN = cc := ⟨_, rfl⟩
                refine (put_no hp (by have := HO.out.len; omega) HO.out.fits at_ text hz).mono ?_
                rintro e wz ⟨rfl, hb⟩
                rw [hcc] at hz ⊢
                have HCz : Hid (WQ (w.alloc (dObj ⟨1, by_, no, dseen, at_, many, text⟩)) (pw jj) w.heap.size r ts v1 v2 ⟨1, by_, no, dseen, at_, many, text⟩ wz) := HC.out.after hb
                clear hb hp HC hcc c0 c1 c2 c3 c4 c5 c6
                have HC := HCz
                obtain ⟨_, c0, c1, c2, c3, c4, c5, c6⟩ := HC.out.box
                simp only [Nat.zero_add] at c0 c1 c2 c3 c4 c5 c6
                go_wp2_with fail
                obtain ⟨S, lv, ov, tvs, hp⟩ := HC.out.pw
                refine (chars_pw hp (by have := HO.out.len; omega)).mono ?_
                rintro e wa ⟨va, rfl, hoa, hba⟩
                have HCa : Hid (WQ (w.alloc (dObj ⟨1, by_, no, dseen, at_, many, text⟩)) (pw jj) w.heap.size r ts v1 v2 ⟨1, by_, no, dseen, at_, many, text⟩ wa) := HC.out.after hba
                have HLa : Hid (Lst wa va r.list) := hoa.lst
                clear hp hoa hba HC
                go_wp2_with fail
                refine (sameChars_lst HCa.out.l1 HLa.out (by have := HO.out.len; omega) (by have := HO.out.len; omega)).mono ?_
                rintro e wb ⟨bb, rfl, hbe, hbb⟩
                obtain rfl := hbe.2 rfl
                have HCb : Hid (WQ (w.alloc (dObj ⟨1, by_, no, dseen, at_, many, text⟩)) (pw jj) w.heap.size r ts v1 v2 ⟨1, by_, no, dseen, at_, many, text⟩ wb) := HCa.out.after hbb
                clear hbe hbb HCa HLa
                go_wp2_with fail
                obtain ⟨S, lv, ov, tvs, hp⟩ := HCb.out.pw
                refine (text_pw hp (by have := HO.out.len; omega)).mono ?_
                rintro e wc ⟨rfl, hbc⟩
                have HCc : Hid (WQ (w.alloc (dObj ⟨1, by_, no, dseen, at_, many, text⟩)) (pw jj) w.heap.size r ts v1 v2 ⟨1, by_, no, dseen, at_, many, text⟩ wc) := HCb.out.after hbc
                clear hp hbc HCb
                go_wp2_with fail
                obtain ⟨S, lv, ov, tvs, hp⟩ := HCc.out.pw
                refine (seen_pw hp).mono ?_
                rintro e wd ⟨rfl, rfl⟩
                go_wp2_with fail
                refine (open_pw hp (by have := HO.out.few; omega)).mono ?_
                rintro e we ⟨ve, rfl, hoe, hbe⟩
                have HCe : Hid (WQ (w.alloc (dObj ⟨1, by_, no, dseen, at_, many, text⟩)) (pw jj) w.heap.size r ts v1 v2 ⟨1, by_, no, dseen, at_, many, text⟩ we) := HCc.out.after hbe
                have HLe : Hid (DLst we ve r.opens) := hoe.dlst
                clear hp hoe hbe HCc
                go_wp2_with fail
                refine (sameDeeds_eq HCe.out.l2 HLe.out (by have := HO.out.few; omega)).mono ?_
                rintro e wf ⟨rfl, hbf⟩
                have HCf : Hid (WQ (w.alloc (dObj ⟨1, by_, no, dseen, at_, many, text⟩)) (pw jj) w.heap.size r ts v1 v2 ⟨1, by_, no, dseen, at_, many, text⟩ wf) := HCe.out.after hbf
                clear hbf HCe HLe
                go_wp2_with fail
                go_ret
                exact ⟨ret_b (by simp [hz]), below_after (below1 _ _) HCf.out.below⟩
            · by_cases hk2 : kind = 2
              · subst hk2
                obtain ⟨_, c0, c1, c2, c3, c4, c5, c6⟩ := HC.out.box
                simp only [Nat.zero_add] at c0 c1 c2 c3 c4 c5 c6
                go_wp2_with fail
                obtain ⟨S, lv, ov, tvs, hp⟩ := HC.out.pw
                by_cases hz : doC r.list ⟨2, r.me, r.next, r.seen, at_, many, ⟨#[]⟩⟩ openN = 0
                · refine (take_yes hp (by have := HO.out.len; omega) HO.out.fits (by have := HO.out.few; omega) (by have := HO.out.n2; omega) at_ many hz).mono ?_
                  rintro e wz ⟨rfl, hto⟩
                  have HZ : Hid (Below (w.alloc (dObj ⟨2, by_, no, dseen, at_, many, text⟩)).heap.size (w.alloc (dObj ⟨2, by_, no, dseen, at_, many, text⟩)) wz) := HC.out.below.trans (hto.kept.below (fun k e => (hp.lo k e).1) hp.base_le)
                  have HBX : Hid (DdAt wz w.heap.size 0 ⟨2, by_, no, dseen, at_, many, text⟩) := (ddat_start w ⟨2, by_, no, dseen, at_, many, text⟩).below HZ.out
                  clear hto hp hz HC c0 c1 c2 c3 c4 c5 c6
                  obtain ⟨_, c0, c1, c2, c3, c4, c5, c6⟩ := HBX.out
                  simp only [Nat.zero_add] at c0 c1 c2 c3 c4 c5 c6
                  go_wp2_with fail
                  go_ret
                  exact ⟨ret_b (by simp), below_after (below1 _ _) HZ.out⟩
                · obtain ⟨cc, hcc⟩ : ∃ cc, doC r.list ⟨2, r.me, r.next, r.seen, at_, many, ⟨#[]⟩⟩ openN = cc := ⟨_, rfl⟩
                  refine (take_no hp (by have := HO.out.len; omega) HO.out.fits at_ many hz).mono ?_
                  rintro e wz ⟨rfl, hb⟩
                  rw [hcc] at hz ⊢
                  have HCz : Hid (WQ (w.alloc (dObj ⟨2, by_, no, dseen, at_, many, text⟩)) (pw jj) w.heap.size r ts v1 v2 ⟨2, by_, no, dseen, at_, many, text⟩ wz) := HC.out.after hb
                  clear hb hp HC hcc c0 c1 c2 c3 c4 c5 c6
                  have HC := HCz
                  obtain ⟨_, c0, c1, c2, c3, c4, c5, c6⟩ := HC.out.box
                  simp only [Nat.zero_add] at c0 c1 c2 c3 c4 c5 c6
                  go_wp2_with fail
                  obtain ⟨S, lv, ov, tvs, hp⟩ := HC.out.pw
                  refine (chars_pw hp (by have := HO.out.len; omega)).mono ?_
                  rintro e wa ⟨va, rfl, hoa, hba⟩
                  have HCa : Hid (WQ (w.alloc (dObj ⟨2, by_, no, dseen, at_, many, text⟩)) (pw jj) w.heap.size r ts v1 v2 ⟨2, by_, no, dseen, at_, many, text⟩ wa) := HC.out.after hba
                  have HLa : Hid (Lst wa va r.list) := hoa.lst
                  clear hp hoa hba HC
                  go_wp2_with fail
                  refine (sameChars_lst HCa.out.l1 HLa.out (by have := HO.out.len; omega) (by have := HO.out.len; omega)).mono ?_
                  rintro e wb ⟨bb, rfl, hbe, hbb⟩
                  obtain rfl := hbe.2 rfl
                  have HCb : Hid (WQ (w.alloc (dObj ⟨2, by_, no, dseen, at_, many, text⟩)) (pw jj) w.heap.size r ts v1 v2 ⟨2, by_, no, dseen, at_, many, text⟩ wb) := HCa.out.after hbb
                  clear hbe hbb HCa HLa
                  go_wp2_with fail
                  obtain ⟨S, lv, ov, tvs, hp⟩ := HCb.out.pw
                  refine (text_pw hp (by have := HO.out.len; omega)).mono ?_
                  rintro e wc ⟨rfl, hbc⟩
                  have HCc : Hid (WQ (w.alloc (dObj ⟨2, by_, no, dseen, at_, many, text⟩)) (pw jj) w.heap.size r ts v1 v2 ⟨2, by_, no, dseen, at_, many, text⟩ wc) := HCb.out.after hbc
                  clear hp hbc HCb
                  go_wp2_with fail
                  obtain ⟨S, lv, ov, tvs, hp⟩ := HCc.out.pw
                  refine (seen_pw hp).mono ?_
                  rintro e wd ⟨rfl, rfl⟩
                  go_wp2_with fail
                  refine (open_pw hp (by have := HO.out.few; omega)).mono ?_
                  rintro e we ⟨ve, rfl, hoe, hbe⟩
                  have HCe : Hid (WQ (w.alloc (dObj ⟨2, by_, no, dseen, at_, many, text⟩)) (pw jj) w.heap.size r ts v1 v2 ⟨2, by_, no, dseen, at_, many, text⟩ we) := HCc.out.after hbe
                  have HLe : Hid (DLst we ve r.opens) := hoe.dlst
                  clear hp hoe hbe HCc
                  go_wp2_with fail
                  refine (sameDeeds_eq HCe.out.l2 HLe.out (by have := HO.out.few; omega)).mono ?_
                  rintro e wf ⟨rfl, hbf⟩
                  have HCf : Hid (WQ (w.alloc (dObj ⟨2, by_, no, dseen, at_, many, text⟩)) (pw jj) w.heap.size r ts v1 v2 ⟨2, by_, no, dseen, at_, many, text⟩ wf) := HCe.out.after hbf
                  clear hbf HCe HLe
                  go_wp2_with fail
                  go_ret
                  exact ⟨ret_b (by simp [hz]), below_after (below1 _ _) HCf.out.below⟩
              · obtain ⟨_, c0, c1, c2, c3, c4, c5, c6⟩ := HC.out.box
                simp only [Nat.zero_add] at c0 c1 c2 c3 c4 c5 c6
                go_wp2_with fail
                obtain ⟨S, lv, ov, tvs, hp⟩ := HC.out.pw
                refine (hear_kind hp HO.out HKS.out ⟨kind, by_, no, dseen, at_, many, text⟩ hk1 hk2).mono ?_
                rintro e wz ⟨cc, rfl, hz, hb⟩
                have HCz : Hid (WQ (w.alloc (dObj ⟨kind, by_, no, dseen, at_, many, text⟩)) (pw jj) w.heap.size r ts v1 v2 ⟨kind, by_, no, dseen, at_, many, text⟩ wz) := HC.out.after hb
                clear hb hp HC c0 c1 c2 c3 c4 c5 c6
                have HC := HCz
                obtain ⟨_, c0, c1, c2, c3, c4, c5, c6⟩ := HC.out.box
                simp only [Nat.zero_add] at c0 c1 c2 c3 c4 c5 c6
                go_wp2_with fail
                obtain ⟨S, lv, ov, tvs, hp⟩ := HC.out.pw
                refine (chars_pw hp (by have := HO.out.len; omega)).mono ?_
                rintro e wa ⟨va, rfl, hoa, hba⟩
                have HCa : Hid (WQ (w.alloc (dObj ⟨kind, by_, no, dseen, at_, many, text⟩)) (pw jj) w.heap.size r ts v1 v2 ⟨kind, by_, no, dseen, at_, many, text⟩ wa) := HC.out.after hba
                have HLa : Hid (Lst wa va r.list) := hoa.lst
                clear hp hoa hba HC
                go_wp2_with fail
                refine (sameChars_lst HCa.out.l1 HLa.out (by have := HO.out.len; omega) (by have := HO.out.len; omega)).mono ?_
                rintro e wb ⟨bb, rfl, hbe, hbb⟩
                obtain rfl := hbe.2 rfl
                have HCb : Hid (WQ (w.alloc (dObj ⟨kind, by_, no, dseen, at_, many, text⟩)) (pw jj) w.heap.size r ts v1 v2 ⟨kind, by_, no, dseen, at_, many, text⟩ wb) := HCa.out.after hbb
                clear hbe hbb HCa HLa
                go_wp2_with fail
                obtain ⟨S, lv, ov, tvs, hp⟩ := HCb.out.pw
                refine (text_pw hp (by have := HO.out.len; omega)).mono ?_
                rintro e wc ⟨rfl, hbc⟩
                have HCc : Hid (WQ (w.alloc (dObj ⟨kind, by_, no, dseen, at_, many, text⟩)) (pw jj) w.heap.size r ts v1 v2 ⟨kind, by_, no, dseen, at_, many, text⟩ wc) := HCb.out.after hbc
                clear hp hbc HCb
                go_wp2_with fail
                obtain ⟨S, lv, ov, tvs, hp⟩ := HCc.out.pw
                refine (seen_pw hp).mono ?_
                rintro e wd ⟨rfl, rfl⟩
                go_wp2_with fail
                refine (open_pw hp (by have := HO.out.few; omega)).mono ?_
                rintro e we ⟨ve, rfl, hoe, hbe⟩
                have HCe : Hid (WQ (w.alloc (dObj ⟨kind, by_, no, dseen, at_, many, text⟩)) (pw jj) w.heap.size r ts v1 v2 ⟨kind, by_, no, dseen, at_, many, text⟩ we) := HCc.out.after hbe
                have HLe : Hid (DLst we ve r.opens) := hoe.dlst
                clear hp hoe hbe HCc
                go_wp2_with fail
                refine (sameDeeds_eq HCe.out.l2 HLe.out (by have := HO.out.few; omega)).mono ?_
                rintro e wf ⟨rfl, hbf⟩
                have HCf : Hid (WQ (w.alloc (dObj ⟨kind, by_, no, dseen, at_, many, text⟩)) (pw jj) w.heap.size r ts v1 v2 ⟨kind, by_, no, dseen, at_, many, text⟩ wf) := HCe.out.after hbf
                clear hbf HCe HLe
                go_wp2_with fail
                go_ret
                exact ⟨ret_b (by simp [hz]), below_after (below1 _ _) HCf.out.below⟩
  · go_wp2_with fail
    go_ret
    exact ⟨rfl, below_after (below1 _ _) HB1.out⟩

/-- THE LAW. -/
theorem law_writerrefuses (w : World) {v : Value} {xs : List RStep} (h : RLst w v xs) (d : Dd) (k : Int) :
    Calls Try.prog 5 #[v, ddV d, .int .i64 k] w fun e w' => e = .returned (.bool true) ∧ Below w.heap.size w w' := writerRefuses_any v xs d k w h

end Go.Proofs.Ytdlmlhmdjfbdiac

/-
  How a list of bytes that comes in as an argument lies in memory.
-/
namespace Go.Proofs.Ytdlmlhmdjfbdiac
open Go.RowKit Go.Deep
open Go.ChangeShapes Go.WideShapes

set_option maxRecDepth 20000 in
theorem Try.cellsChar : Try.prog.cellsOf 83 = 7 := by kernel_rfl
set_option maxRecDepth 20000 in
theorem Try.cellsInt : Try.prog.cellsOf 3 = 1 := by kernel_rfl
set_option maxRecDepth 20000 in
theorem Try.cellsByte : Try.prog.cellsOf 5 = 1 := by kernel_rfl

/-- A number that fits an int. -/
def Fits (n : Int) : Prop := -9223372036854775808 ≤ n ∧ n ≤ 9223372036854775807

set_option maxRecDepth 20000 in
theorem fits_of {n : Int} (h : (Lit.int .i64 n).wf = true) : Fits n := by
  have := bounds_i64 h
  exact ⟨by omega, by omega⟩

section
variable {H : Type} {enc : TypeId × Value → H} {w : World} {base : Nat} {spare : Nat → Bool} {held : Bool}

set_option maxRecDepth 20000 in
theorem open_char {a : Addr} {n : Nat} {cs : List Value} {y : DataW H × List MemPlace} (hc : w.cells? base a 7 = some cs) (h : DataW.trod enc Try.prog w base spare held n 83 cs = some y) :
    ∃ x : Ch, a.spot = none ∧ a.block < w.heap.size ∧ At w a.block a.off x ∧ Fits x.gone := by
  obtain ⟨hb, hlen, hcell⟩ := World.cells?_some hc
  obtain ⟨xs, m, _, _, _, hxl, hf⟩ := DataW.trod_struct Try.underlying83 h
  have hxl7 : xs.length = 7 := hxl
  match cs, hlen with
  | [c0, c1, c2, c3, c4, c5, c6], _ =>
    have fld : ∀ i, i < 7 → ∃ z, xs[i]? = some z := fun i hi => ⟨_, List.getElem?_eq_getElem (by omega)⟩
    have q0 := hf 0 _ rfl
    have q1 := hf 1 _ rfl
    have q2 := hf 2 _ rfl
    have q3 := hf 3 _ rfl
    have q4 := hf 4 _ rfl
    have q5 := hf 5 _ rfl
    have q6 := hf 6 _ rfl
    obtain ⟨z0, e0⟩ := fld 0 (by omega)
    obtain ⟨z1, e1⟩ := fld 1 (by omega)
    obtain ⟨z2, e2⟩ := fld 2 (by omega)
    obtain ⟨z3, e3⟩ := fld 3 (by omega)
    obtain ⟨z4, e4⟩ := fld 4 (by omega)
    obtain ⟨z5, e5⟩ := fld 5 (by omega)
    obtain ⟨z6, e6⟩ := fld 6 (by omega)
    rw [e0] at q0
    rw [e1] at q1
    rw [e2] at q2
    rw [e3] at q3
    rw [e4] at q4
    rw [e5] at q5
    rw [e6] at q6
    obtain ⟨n0, k0, _, _⟩ := DataW.trod_int Try.underlying5 q0
    obtain ⟨n1, k1, _, _⟩ := DataW.trod_int Try.underlying3 q1
    obtain ⟨n2, k2, _, _⟩ := DataW.trod_int Try.underlying3 q2
    obtain ⟨n3, k3, _, _⟩ := DataW.trod_int Try.underlying3 q3
    obtain ⟨n4, k4, _, _⟩ := DataW.trod_int Try.underlying3 q4
    obtain ⟨n5, k5, _, _⟩ := DataW.trod_int Try.underlying3 q5
    obtain ⟨n6, k6, _, wf6⟩ := DataW.trod_int Try.underlying3 q6
    simp [Try.cellsByte] at k0
    simp [Try.cellsInt] at k1 k2 k3 k4 k5 k6
    subst k0 k1 k2 k3 k4 k5 k6
    obtain ⟨b, o, spot⟩ := a
    have g0 := hcell 0 (by omega)
    have hspot : spot = none := by simpa [Addr.add] using World.cell?_spot g0
    subst hspot
    have g0' : w.cell? ⟨b, o, none⟩ = some (.int .u8 n0) := by simpa [Addr.add] using g0
    have g1 := hcell 1 (by omega)
    have g2 := hcell 2 (by omega)
    have g3 := hcell 3 (by omega)
    have g4 := hcell 4 (by omega)
    have g5 := hcell 5 (by omega)
    have g6 := hcell 6 (by omega)
    refine ⟨⟨n0, n1, n2, n3, n4, n5, n6⟩, rfl, World.block_lt_of_cell? w _ g0', ⟨g0', ?_, ?_, ?_, ?_, ?_, ?_⟩, fits_of wf6⟩
    · simpa [Addr.add] using g1
    · simpa [Addr.add] using g2
    · simpa [Addr.add] using g3
    · simpa [Addr.add] using g4
    · simpa [Addr.add] using g5
    · simpa [Addr.add] using g6

set_option maxRecDepth 20000 in
/-- A LIST OF BYTES THAT CAME IN: it has no element, or it lies in memory. -/
theorem open_chars {fuel : Nat} {a : Option Addr} {len cap : Nat} {y : DataW H × List MemPlace} (h : DataW.trod enc Try.prog w base spare held fuel 50 [.slice a len cap] = some y) :
    len = 0 ∨ ∃ (b off : Nat) (l : List Ch), a = some ⟨b, off, none⟩ ∧ len ≤ cap ∧ cap ≤ maxLen ∧ l.length = len ∧ Row w b off l ∧ ∀ x ∈ l, Fits x.gone := by
  rcases open_slice Try.underlying50 h with ⟨hcs, _⟩ | ⟨ad, len', cap', m, n, D, Pl, hcs, hb, hl, hm, hmm, _, hx⟩
  · simp at hcs
    exact .inl hcs.2.1
  · simp at hcs
    obtain ⟨rfl, rfl, rfl⟩ := hcs
    by_cases h0 : len = 0
    · exact .inl h0
    · right
      have hle : len ≤ m := by rw [hmm]; split <;> omega
      rw [Try.cellsChar] at hx
      have one : ∀ i, i < len → ∃ x : Ch, (ad.add (i * 7)).spot = none ∧ (ad.add (i * 7)).block < w.heap.size ∧ At w (ad.add (i * 7)).block (ad.add (i * 7)).off x ∧ Fits x.gone := fun i hi => by
        obtain ⟨cs', h1, h2⟩ := hx i (by omega)
        exact open_char h1 h2
      obtain ⟨b, off, spot⟩ := ad
      have hs0 : spot = none := by
        obtain ⟨x, hs, _⟩ := one 0 (by omega)
        simpa [Addr.add] using hs
      subst hs0
      have hadd : ∀ i, (⟨b, off, none⟩ : Addr).add i = ⟨b, off + i, none⟩ := fun i => by unfold Addr.add; split <;> simp_all
      obtain ⟨f, hf⟩ := choose_lt (α := Int × Int × Int × Int × Int × Int × Int) (n := len) (p := fun i t => b < w.heap.size ∧ At w b (off + i * 7) ⟨t.1, t.2.1, t.2.2.1, t.2.2.2.1, t.2.2.2.2.1, t.2.2.2.2.2.1, t.2.2.2.2.2.2⟩ ∧ Fits t.2.2.2.2.2.2) (fun i hi => by
        obtain ⟨x, _, hlt, hat, hfit⟩ := one i hi
        rw [hadd] at hlt hat
        exact ⟨(x.c, x.by_, x.no, x.k, x.inn, x.out, x.gone), hlt, hat, hfit⟩)
      refine ⟨b, off, (List.range len).map (fun i => ⟨(f i).1, (f i).2.1, (f i).2.2.1, (f i).2.2.2.1, (f i).2.2.2.2.1, (f i).2.2.2.2.2.1, (f i).2.2.2.2.2.2⟩), rfl, hl, hm, by simp, ⟨(hf 0 (by omega)).1, fun i hi => ?_⟩, fun x hxm => ?_⟩
      · have hi' : i < len := by simpa using hi
        simpa using (hf i hi').2.1
      · simp only [List.mem_map, List.mem_range] at hxm
        obtain ⟨i, hi, rfl⟩ := hxm
        exact (hf i hi).2.2
end

end Go.Proofs.Ytdlmlhmdjfbdiac

/-
  How lists of bytes and deeds come in as arguments (the plain seat).
-/
namespace Go.Proofs.Ytdlmlhmdjfbdiac
open Go.RowKit Go.Deep
open Go.ChangeShapes Go.WideShapes Go.ChangeAt

set_option maxRecDepth 20000 in
theorem Try.own : ownKnob Try.prog.godebug = none := by kernel_rfl
set_option maxRecDepth 20000 in
theorem Try.laidOut : laidOutB Try.prog = true := by kernel_rfl
set_option maxRecDepth 20000 in
theorem Try.cellsDeed : Try.prog.cellsOf 39 = 7 := by kernel_rfl
set_option maxRecDepth 20000 in
theorem Try.cellsStr : Try.prog.cellsOf 9 = 1 := by kernel_rfl

set_option maxRecDepth 20000 in
theorem list_seven {α : Type} : ∀ {l : List α}, l.length = 7 → ∃ a0 a1 a2 a3 a4 a5 a6, l = [a0, a1, a2, a3, a4, a5, a6]
  | [a0, a1, a2, a3, a4, a5, a6], _ => ⟨a0, a1, a2, a3, a4, a5, a6, rfl⟩
  | [], h => by simp at h
  | [_], h => by simp at h
  | [_, _], h => by simp at h
  | [_, _, _], h => by simp at h
  | [_, _, _, _], h => by simp at h
  | [_, _, _, _, _], h => by simp at h
  | [_, _, _, _, _, _], h => by simp at h
  | _ :: _ :: _ :: _ :: _ :: _ :: _ :: _ :: _, h => by simp at h

section
variable {H : Type} {enc : TypeId × Value → H} {W : World} {base b0 : Nat} {spare : Nat → Bool} {held : Bool}

set_option maxRecDepth 20000 in
/-- A LIST OF BYTES. -/
theorem open_lst {a : Option Addr} {len cap : Nat} {d : DataW H} {p : List MemPlace} (h : DataW.Trod enc Try.prog W base spare held 50 (.slice a len cap) d p) : ∃ l : List Ch, Lst W (.slice a len cap) l ∧ FitsL l := by
  obtain ⟨fuel, hf⟩ := h
  rcases open_chars hf with rfl | ⟨b, off, l, rfl, hc, _, hl, hr, hfit⟩
  · exact ⟨[], ⟨a, 0, cap, rfl, rfl, Nat.zero_le _, .inl rfl⟩, fits_nil⟩
  · exact ⟨l, ⟨_, len, cap, rfl, hl, hc, .inr ⟨b, off, rfl, hr⟩⟩, hfit⟩

set_option maxRecDepth 20000 in
theorem seven_of {cs : List Value} {fuel : Nat} {y : DataW H × List MemPlace} (hlen : cs.length = 7) (hf : DataW.trod enc Try.prog W base spare held fuel 39 cs = some y) :
    ∃ x : Dd, cs = [.int .i64 x.kind, .int .i64 x.by_, .int .i64 x.no, .int .i64 x.seen, .int .i64 x.at_, .int .i64 x.many, .string x.text] := by
  obtain ⟨xs, m, _, _, _, hxl, hq⟩ := DataW.trod_struct Try.underlying39 hf
  have hxl7 : xs.length = 7 := hxl
  obtain ⟨c0, c1, c2, c3, c4, c5, c6, rfl⟩ := list_seven hlen
  have fld : ∀ i, i < 7 → ∃ z, xs[i]? = some z := fun i hi => ⟨_, List.getElem?_eq_getElem (by omega)⟩
  have q0 := hq 0 _ rfl
  have q1 := hq 1 _ rfl
  have q2 := hq 2 _ rfl
  have q3 := hq 3 _ rfl
  have q4 := hq 4 _ rfl
  have q5 := hq 5 _ rfl
  have q6 := hq 6 _ rfl
  obtain ⟨z0, e0⟩ := fld 0 (by omega)
  obtain ⟨z1, e1⟩ := fld 1 (by omega)
  obtain ⟨z2, e2⟩ := fld 2 (by omega)
  obtain ⟨z3, e3⟩ := fld 3 (by omega)
  obtain ⟨z4, e4⟩ := fld 4 (by omega)
  obtain ⟨z5, e5⟩ := fld 5 (by omega)
  obtain ⟨z6, e6⟩ := fld 6 (by omega)
  rw [e0] at q0
  rw [e1] at q1
  rw [e2] at q2
  rw [e3] at q3
  rw [e4] at q4
  rw [e5] at q5
  rw [e6] at q6
  obtain ⟨n0, k0, _, _⟩ := DataW.trod_int Try.underlying3 q0
  obtain ⟨n1, k1, _, _⟩ := DataW.trod_int Try.underlying3 q1
  obtain ⟨n2, k2, _, _⟩ := DataW.trod_int Try.underlying3 q2
  obtain ⟨n3, k3, _, _⟩ := DataW.trod_int Try.underlying3 q3
  obtain ⟨n4, k4, _, _⟩ := DataW.trod_int Try.underlying3 q4
  obtain ⟨n5, k5, _, _⟩ := DataW.trod_int Try.underlying3 q5
  obtain ⟨s6, k6, _⟩ := DataW.trod_string Try.underlying9 q6
  simp [Try.cellsInt] at k0 k1 k2 k3 k4 k5
  simp [Try.cellsStr] at k6
  subst k0 k1 k2 k3 k4 k5 k6
  exact ⟨⟨n0, n1, n2, n3, n4, n5, s6⟩, rfl⟩

set_option maxRecDepth 20000 in
/-- A DEED. -/
theorem open_deed {v : Value} {d : DataW H} {p : List MemPlace} (hv : Value.okWide Try.prog W .any b0 39 v) (h : DataW.Trod enc Try.prog W base spare held 39 v d p) : ∃ x : Dd, v = ddV x := by
  obtain ⟨cs, rfl, hsz⟩ := okWide_struct Try.underlying39 hv
  obtain ⟨fuel, hf⟩ := h
  have hlen : cs.toList.length = 7 := by rw [Array.length_toList, hsz, Try.cellsDeed]
  obtain ⟨x, hx⟩ := seven_of hlen (show DataW.trod enc Try.prog W base spare held fuel 39 cs.toList = some (d, p) from hf)
  refine ⟨x, ?_⟩
  have : cs = #[.int .i64 x.kind, .int .i64 x.by_, .int .i64 x.no, .int .i64 x.seen, .int .i64 x.at_, .int .i64 x.many, .string x.text] := Array.toList_inj.1 hx
  rw [this]

set_option maxRecDepth 20000 in
theorem open_ddat {a : Addr} {n : Nat} {cs : List Value} {y : DataW H × List MemPlace} (hc : W.cells? base a 7 = some cs) (h : DataW.trod enc Try.prog W base spare held n 39 cs = some y) :
    ∃ x : Dd, a.spot = none ∧ a.block < W.heap.size ∧ DdAt W a.block a.off x := by
  obtain ⟨_, hlen, hcell⟩ := World.cells?_some hc
  obtain ⟨x, rfl⟩ := seven_of hlen h
  obtain ⟨b, o, spot⟩ := a
  have g0 := hcell 0 (by omega)
  have hspot : spot = none := by simpa [Addr.add] using World.cell?_spot g0
  subst hspot
  have g0' : W.cell? ⟨b, o, none⟩ = some (.int .i64 x.kind) := by simpa [Addr.add] using g0
  have g1 := hcell 1 (by omega)
  have g2 := hcell 2 (by omega)
  have g3 := hcell 3 (by omega)
  have g4 := hcell 4 (by omega)
  have g5 := hcell 5 (by omega)
  have g6 := hcell 6 (by omega)
  refine ⟨x, rfl, World.block_lt_of_cell? W _ g0', ⟨World.block_lt_of_cell? W _ g0', g0', ?_, ?_, ?_, ?_, ?_, ?_⟩⟩
  · simpa [Addr.add] using g1
  · simpa [Addr.add] using g2
  · simpa [Addr.add] using g3
  · simpa [Addr.add] using g4
  · simpa [Addr.add] using g5
  · simpa [Addr.add] using g6

set_option maxRecDepth 20000 in
/-- A LIST OF DEEDS. -/
theorem open_dlst {a : Option Addr} {len cap : Nat} {d : DataW H} {p : List MemPlace} (h : DataW.Trod enc Try.prog W base spare held 29 (.slice a len cap) d p) : ∃ ds : List Dd, DLst W (.slice a len cap) ds := by
  obtain ⟨fuel, hf0⟩ := h
  have hf : DataW.trod enc Try.prog W base spare held fuel 29 [.slice a len cap] = some (d, p) := hf0
  rcases open_slice Try.underlying29 hf with ⟨hcs, _⟩ | ⟨ad, len', cap', m, n, D, Pl, hcs, hb, hl, hm, hmm, _, hx⟩
  · simp at hcs
    obtain ⟨rfl, rfl, rfl⟩ := hcs
    exact ⟨[], ⟨_, _, _, rfl, rfl, Nat.le_refl _, .inl rfl⟩⟩
  · simp at hcs
    obtain ⟨rfl, rfl, rfl⟩ := hcs
    by_cases h0 : len = 0
    · subst h0
      exact ⟨[], ⟨_, _, _, rfl, rfl, Nat.zero_le _, .inl rfl⟩⟩
    · have hle : len ≤ m := by rw [hmm]; split <;> omega
      rw [Try.cellsDeed] at hx
      have one : ∀ i, i < len → ∃ x : Dd, (ad.add (i * 7)).spot = none ∧ (ad.add (i * 7)).block < W.heap.size ∧ DdAt W (ad.add (i * 7)).block (ad.add (i * 7)).off x := fun i hi => by
        obtain ⟨cs', h1, h2⟩ := hx i (by omega)
        exact open_ddat h1 h2
      obtain ⟨b, off, spot⟩ := ad
      have hs0 : spot = none := by
        obtain ⟨x, hs, _⟩ := one 0 (by omega)
        simpa [Addr.add] using hs
      subst hs0
      obtain ⟨f, hf⟩ := choose_lt (α := Int × Int × Int × Int × Int × Int × ByteArray) (n := len) (p := fun i t => b < W.heap.size ∧ DdAt W b (off + i * 7) ⟨t.1, t.2.1, t.2.2.1, t.2.2.2.1, t.2.2.2.2.1, t.2.2.2.2.2.1, t.2.2.2.2.2.2⟩) (fun i hi => by
        obtain ⟨x, _, hlt, hat⟩ := one i hi
        rw [addr_add] at hlt hat
        exact ⟨(x.kind, x.by_, x.no, x.seen, x.at_, x.many, x.text), hlt, hat⟩)
      refine ⟨(List.range len).map (fun i => ⟨(f i).1, (f i).2.1, (f i).2.2.1, (f i).2.2.2.1, (f i).2.2.2.2.1, (f i).2.2.2.2.2.1, (f i).2.2.2.2.2.2⟩), ⟨_, len, cap, rfl, by simp, hl, .inr ⟨b, off, rfl, ⟨(hf 0 (by omega)).1, fun i hi => ?_⟩⟩⟩⟩
      have hi' : i < len := by simpa using hi
      simpa using (hf i hi').2
end

end Go.Proofs.Ytdlmlhmdjfbdiac
