/-
  Desks, and a town by the document, in one world; sameDesks.
-/
import Derived.Test.YtnabhdfodckpdacGreatTBeg
import Derived.Test.YtnabhdfodckpdacGreatWKnown
import Derived.Test.YtnabhdfodckpdacGreatTClM
namespace Go.Proofs.YtnabhdfodckpdacGreat
set_option maxRecDepth 20000
open Go Go.RowKit
def BothD (w : World) (D G : Nat) (pw : Nat → Nat) (E F : Nat) (qw : Nat → Nat) (t : Twn) (u : Twn) (wk : World) : Prop :=
 ∃ tk, Hq w.heap.size (updT (updT (fun _ => Th.no _) 1 (Th.dk _ D G pw t tk)) 2 (Th.tn _ E F qw u)) w (fun _ => False) wk ∧ TR t tk
section
variable {w wk w' : World} {D G E F : Nat} {pw qw : Nat → Nat} {t u : Twn}
theorem BothD.after (h : BothD w D G pw E F qw t u wk) (hb : Below wk.heap.size wk w') : BothD w D G pw E F qw t u w' := by
 obtain ⟨tk, h1, h2⟩ := h
 exact ⟨tk, h1.after hb, h2⟩
theorem BothD.below (h : BothD w D G pw E F qw t u wk) : Below w.heap.size w wk := by
 obtain ⟨tk, h1, h2⟩ := h
 exact (Hq.kept h1).below (fun _ e => e.elim) (Nat.le_refl _)
theorem BothD.fst (h : BothD w D G pw E F qw t u wk) : ∃ T, DkAny w.heap.size wk T D G pw t wk ∧ ∀ pw' t' w', DkAny w.heap.size wk T D G pw' t' w' → BothD w D G pw' E F qw t' u w' := by
 obtain ⟨tk, h1, h2⟩ := h
 obtain ⟨T, a1, a2, a3⟩ := h1.turn (i := 1) (by omega)
 rw [updT_other _ _ (by omega), updT_same] at a1
 have a1' : DkAt w.heap.size D G pw t tk wk T := a1
 refine ⟨T, ⟨tk, a1'.start, h2⟩, fun pw' t' w' ⟨tk', b1, b2⟩ => ⟨tk', ?_, b2⟩⟩
 obtain ⟨c1, c2⟩ := b1.done a1'.held
 refine (a3 (Th.dk _ D G pw' t' tk') w' c2 c1).imp (fun i hi T' _ hp => ?_)
 by_cases e1 : i = 1
 ·subst e1
  rw [updT_same] at hp
  rw [updT_other _ _ (by omega), updT_same]
  exact hp
 ·rw [updT_other _ _ e1] at hp
  by_cases e2 : i = 2
  ·subst e2
   rw [updT_same] at hp ⊢
   exact hp
  ·rw [updT_other _ _ e2] at hp ⊢
   rw [updT_other _ _ e1] at hp ⊢
   exact hp
theorem BothD.snd (h : BothD w D G pw E F qw t u wk) : ∃ T, TnAt w.heap.size E F qw u wk T ∧ ∀ qw' u' w', TnTo w.heap.size wk T E F qw' u' w' → BothD w D G pw E F qw' t u' w' := by
 obtain ⟨tk, h1, h2⟩ := h
 obtain ⟨T, a1, a2, a3⟩ := h1.turn (i := 2) (by omega)
 rw [updT_same] at a1
 refine ⟨T, a1, fun qw' u' w' ⟨c1, c2⟩ => ⟨tk, ?_, h2⟩⟩
 refine (a3 (Th.tn _ E F qw' u') w' c2 c1).imp (fun i hi T' _ hp => ?_)
 by_cases e2 : i = 2
 ·subst e2
  rw [updT_same] at hp ⊢
  exact hp
 ·rw [updT_other _ _ e2] at hp ⊢
  rw [updT_other _ _ e2] at hp
  exact hp
theorem both_start (w : World) : BothD w (w.heap.size + 1) w.heap.size (fun _ => 0) (w.heap.size + 3) (w.heap.size + 2) (fun _ => 0) twn0 twn0 ((((w.alloc (.cells logZ 93)).alloc (.cells (deskZ w.heap.size) 109)).alloc (.cells bookZ 114)).alloc (.cells (deskZ (w.heap.size + 2)) 116)) := by
 have hsz : ((w.alloc (.cells logZ 93)).alloc (.cells (deskZ w.heap.size) 109)).heap.size = w.heap.size + 2 := by simp
 have h1 := Hq.lay (Hq.start w) (w' := (w.alloc (.cells logZ 93)).alloc (.cells (deskZ w.heap.size) 109)) (bla (below1 _ _) (below1 _ _)) (i := 1) (by omega) (Th.dk _ (w.heap.size + 1) w.heap.size (fun _ => 0) twn0 (fun _ => [])) (by rw [hsz]; exact dkAt_any w (Nat.le_refl _))
 have hsz2 : ((((w.alloc (.cells logZ 93)).alloc (.cells (deskZ w.heap.size) 109)).alloc (.cells bookZ 114)).alloc (.cells (deskZ (w.heap.size + 2)) 116)).heap.size = w.heap.size + 2 + 2 := by simp
 have h2 := tnAt_any (base := w.heap.size) ((w.alloc (.cells logZ 93)).alloc (.cells (deskZ w.heap.size) 109)) (by rw [hsz]; omega)
 rw [hsz] at h2
 have h3 := Hq.lay h1 (w' := (((w.alloc (.cells logZ 93)).alloc (.cells (deskZ w.heap.size) 109)).alloc (.cells bookZ 114)).alloc (.cells (deskZ (w.heap.size + 2)) 116)) (bla (below1 _ _) (below1 _ _)) (i := 2) (by omega) (Th.tn _ (w.heap.size + 3) (w.heap.size + 2) (fun _ => 0) twn0) (by rw [hsz, hsz2]; exact h2)
 exact ⟨_, h3, tr_start⟩
end
structure BK (w : World) (D G : Nat) (pw : Nat → Nat) (E F : Nat) (qw : Nat → Nat) (t : Twn) (T : Nat → Prop) (dv : Value) (wk : World) : Prop where
 both : BothD w D G pw E F qw t t wk
 bk : BookAt wk w.heap.size T F dv t.b
theorem BK.after {w wk w' : World} {D G E F : Nat} {pw qw : Nat → Nat} {t : Twn} {T : Nat → Prop} {dv : Value} (h : BK w D G pw E F qw t T dv wk) (hb : Below wk.heap.size wk w') : BK w D G pw E F qw t T dv w' := ⟨h.both.after hb, h.bk.below hb⟩
structure BKD (w : World) (D G : Nat) (pw : Nat → Nat) (E F : Nat) (qw : Nat → Nat) (t : Twn) (T : Nat → Prop) (dv : Value) (v1 : Value) (wk : World) : Prop where
 bk : BK w D G pw E F qw t T dv wk
 a1 : DLst wk v1 t.b.ds
structure BKC (w : World) (D G : Nat) (pw : Nat → Nat) (E F : Nat) (qw : Nat → Nat) (t : Twn) (T : Nat → Prop) (dv : Value) (v1 : Value) (wk : World) : Prop where
 bk : BK w D G pw E F qw t T dv wk
 a1 : Lst wk v1 t.b.chars
structure BS (w : World) (D G : Nat) (pw : Nat → Nat) (E F : Nat) (qw : Nat → Nat) (t : Twn) (Q : Nat) (T : Nat → Prop) (bv ov : Value) (r : Wr) (wk : World) : Prop where
 both : BothD w D G pw E F qw t t wk
 sc : ScAt wk w.heap.size T Q bv ov r.base r.opens r.me r.seen r.next r.sent
theorem BS.after {w wk w' : World} {D G E F Q : Nat} {pw qw : Nat → Nat} {t : Twn} {T : Nat → Prop} {bv ov : Value} {r : Wr} (h : BS w D G pw E F qw t Q T bv ov r wk) (hb : Below wk.heap.size wk w') : BS w D G pw E F qw t Q T bv ov r w' := ⟨h.both.after hb, h.sc.below hb⟩
structure BSD (w : World) (D G : Nat) (pw : Nat → Nat) (E F : Nat) (qw : Nat → Nat) (t : Twn) (Q : Nat) (T : Nat → Prop) (bv ov : Value) (r : Wr) (v1 : Value) (wk : World) : Prop where
 bs : BS w D G pw E F qw t Q T bv ov r wk
 a1 : DLst wk v1 r.opens
structure BSC (w : World) (D G : Nat) (pw : Nat → Nat) (E F : Nat) (qw : Nat → Nat) (t : Twn) (Q : Nat) (T : Nat → Prop) (bv ov : Value) (r : Wr) (v1 : Value) (wk : World) : Prop where
 bs : BS w D G pw E F qw t Q T bv ov r wk
 a1 : Lst wk v1 r.base
theorem twn_here {t : Twn} (h : TwI t) (n : Int) : t.b.isHere n = (t.ws n).isSome := by
 cases he : t.ws n with
 | some r => rw [(h.is_here he).1]; rfl
 | none =>
  cases hh : t.b.isHere n with
  | false => rfl
  | true =>
   obtain ⟨hw, hb⟩ := isHere_writer hh
   obtain ⟨r, hr⟩ := h.here n hb
   rw [he] at hr; cases hr
set_option maxHeartbeats 12800000 in
theorem sameDesks_any {w0 w : World} {D G E F : Nat} {pw qw : Nat → Nat} {t : Twn} (h : BothD w0 D G pw E F qw t t w) :
 Calls Tryz.prog 27 #[.pointer (some ⟨D, 0, none⟩), .pointer (some ⟨E, 0, none⟩)] w fun e w' => e = .returned (.bool true) ∧ BothD w0 D G pw E F qw t t w' := by
 have H0 : Hid (BothD w0 D G pw E F qw t t w) := h
 have HTI : Hid (TwI t) := by obtain ⟨tk, _, h2⟩ := h; exact h2.ti
 have HGD : Hid (Good t.b) := HTI.out.good
 have HSM : Hid (t.b.ds.length ≤ 120) := HGD.out.small
 have HLE : Hid (t.b.chars.length ≤ 200) := small_chars
 have HTM : Hid (Tame t.b.chars) := good_tame HGD.out
 obtain ⟨s, hs⟩ : ∃ s, strOfNums (textL t.b.chars) = s := ⟨_, rfl⟩
 have HSV : Hid (strOfNums (textL t.b.chars) = s) := hs
 have HSW : Hid (strOfNums (vw t.b.chars 1073741823 (-1)) = s) := by show _ = _; rw [← hs, good_text HGD.out]
 obtain ⟨T1, ha1, _⟩ := h.snd
 obtain ⟨T, dv, hbk, _⟩ := ha1.start.book
 have HK : Hid (BK w0 D G pw E F qw t T dv w) := ⟨h, hbk⟩
 clear h hs ha1 hbk
 go_enter Tryz.func27, Tryz.ntmps27
 go_wp2_with fail
 refine wp_region_late (fun wk => BK w0 D G pw E F qw t T dv wk) (fun i => i == 1 || i == 9 || i == 11 || i == 16 || i == 21 || i == 24 || i == 29 || i == 34 || i == 35) (fun _ => false) (by kernel_rfl) (by kernel_rfl) (by kernel_rfl) (HK.out.after (Below.refl _ _).drew) ?_
 refine wlb (some 8) w rfl (.pointer (some ⟨D, 0, none⟩)) rfl (by kernel_rfl) (fun wk hwk => ?_) ?_
 ·generalize hA : Act.eval _ = ρ
  have s0 : ρ (.tmp 0) = .pointer (some ⟨D, 0, none⟩) := by rw [← hA]; kernel_rfl
  clear hA
  go_simp
 go_big_quiet_op
 refine wls (some 9) w rfl rfl (by kernel_rfl) (fun u => True) (fun u wk => BK w0 D G pw E F qw t T dv wk) (fun u wk => BKD w0 D G pw E F qw t T dv u wk) (⟨.int .i64 0, trivial⟩) (fun _ _ h => h) (fun _ _ h => h.bk) (fun wk hwk => ?_) (fun v1 _ => ?_)
 ·generalize hA : Act.eval _ = ρ
  have s8 : ρ (.tmp 8) = .pointer (some ⟨D, 0, none⟩) := by rw [← hA]; kernel_rfl
  have sf : ρ (.func 75) = .func (.func 75) #[] #[] := by rw [← hA]; kernel_rfl
  clear hA
  go_simp
  obtain ⟨T9, h9, _⟩ := hwk.both.fst
  refine (deedsOf_any h9).mono ?_
  rintro e w7 ⟨v7, rfl, hl7, hb⟩
  exact ⟨_, rfl, hwk.after hb, hl7⟩
 go_big_quiet_op
 refine wlb (some 10) w rfl (.pointer (some ⟨E, 0, none⟩)) rfl (by kernel_rfl) (fun wk hwk => ?_) ?_
 ·generalize hA : Act.eval _ = ρ
  have s1 : ρ (.tmp 1) = .pointer (some ⟨E, 0, none⟩) := by rw [← hA]; kernel_rfl
  clear hA
  go_simp
 go_big_quiet_op
 refine wlb (some 11) w rfl (.pointer (some ⟨E, 0, none⟩)) rfl (by kernel_rfl) (fun wk hwk => ?_) ?_
 ·generalize hA : Act.eval _ = ρ
  have s10 : ρ (.tmp 10) = .pointer (some ⟨E, 0, none⟩) := by rw [← hA]; kernel_rfl
  clear hA
  go_simp
 go_big_quiet_op
 refine wlb (some 12) w rfl (.pointer (some ⟨E, 0, none⟩)) rfl (by kernel_rfl) (fun wk hwk => ?_) ?_
 ·generalize hA : Act.eval _ = ρ
  have s11 : ρ (.tmp 11) = .pointer (some ⟨E, 0, none⟩) := by rw [← hA]; kernel_rfl
  clear hA
  go_simp
 go_big_quiet_op
 refine wlb (some 13) w rfl (.pointer (some ⟨F, 0, none⟩)) rfl (by kernel_rfl) (fun wk hwk => ?_) ?_
 ·generalize hA : Act.eval _ = ρ
  have s12 : ρ (.tmp 12) = .pointer (some ⟨E, 0, none⟩) := by rw [← hA]; kernel_rfl
  clear hA
  obtain ⟨T9, h9, _⟩ := hwk.both.snd
  have g0 := h9.start.cells.book
  have hlt := h9.start.cells.lt
  go_simp
 go_big_quiet_op
 refine wlb (some 14) w rfl (.pointer (some ⟨F, 0, none⟩)) rfl (by kernel_rfl) (fun wk hwk => ?_) ?_
 ·generalize hA : Act.eval _ = ρ
  have s13 : ρ (.tmp 13) = .pointer (some ⟨F, 0, none⟩) := by rw [← hA]; kernel_rfl
  clear hA
  go_simp
 go_big_quiet_op
 refine wlb (some 15) w rfl (.pointer (some ⟨F, 0, none⟩)) rfl (by kernel_rfl) (fun wk hwk => ?_) ?_
 ·generalize hA : Act.eval _ = ρ
  have s14 : ρ (.tmp 14) = .pointer (some ⟨F, 0, none⟩) := by rw [← hA]; kernel_rfl
  clear hA
  go_simp
 go_big_quiet_op
 refine wlb (some 16) w rfl (dv) rfl (by kernel_rfl) (fun wk hwk => ?_) ?_
 ·generalize hA : Act.eval _ = ρ
  have s15 : ρ (.tmp 15) = .pointer (some ⟨F, 0, none⟩) := by rw [← hA]; kernel_rfl
  clear hA
  have g0 := hwk.bk.cells.deeds
  have hlt := hwk.bk.cells.lt
  go_simp
 go_big_quiet_op
 refine wls (some 17) w rfl rfl (by kernel_rfl) (fun u => u = .bool true) (fun u wk => BK w0 D G pw E F qw t T dv wk) (fun u wk => BK w0 D G pw E F qw t T dv wk) (⟨_, rfl⟩) (fun _ _ h => h) (fun _ _ h => h) (fun wk hwk => ?_) (fun u9 hu9 => ?_)
 ·generalize hA : Act.eval _ = ρ
  have s9 : ρ (.tmp 9) = v1 := by rw [← hA]; kernel_rfl
  have s16 : ρ (.tmp 16) = dv := by rw [← hA]; kernel_rfl
  have sf : ρ (.func 74) = .func (.func 74) #[] #[] := by rw [← hA]; kernel_rfl
  clear hA
  go_simp
  refine (sameDeeds_eqT hwk.a1 hwk.bk.bk.ownD.dlst (by have := HSM.out; omega)).mono ?_
  rintro e w7 ⟨rfl, hb⟩
  exact ⟨_, rfl, rfl, hwk.bk.after hb⟩
 subst hu9
 go_big_quiet_op
 refine wlb (some 18) w rfl (.bool false) rfl (by kernel_rfl) (fun wk hwk => ?_) ?_
 ·generalize hA : Act.eval _ = ρ
  have s17 : ρ (.tmp 17) = .bool true := by rw [← hA]; kernel_rfl
  clear hA
  go_simp
 go_big_quiet_op
 refine wls (some 19) w rfl rfl (by kernel_rfl) (fun u => u = .bool false) (fun u wk => BK w0 D G pw E F qw t T dv wk) (fun u wk => BK w0 D G pw E F qw t T dv wk) (⟨_, rfl⟩) (fun _ _ h => h) (fun _ _ h => h) (fun wk hwk => ?_) (fun u9 hu9 => ?_)
 ·generalize hA : Act.eval _ = ρ
  have s18 : ρ (.tmp 18) = .bool false := by rw [← hA]; kernel_rfl
  clear hA
  go_simp
  exact ⟨rfl, hwk⟩
 subst hu9
 go_big_quiet_op
 refine wlb (some 20) w rfl (.pointer (some ⟨D, 0, none⟩)) rfl (by kernel_rfl) (fun wk hwk => ?_) ?_
 ·generalize hA : Act.eval _ = ρ
  have s0 : ρ (.tmp 0) = .pointer (some ⟨D, 0, none⟩) := by rw [← hA]; kernel_rfl
  clear hA
  go_simp
 go_big_quiet_op
 refine wlb (some 21) w rfl (.pointer (some ⟨D, 0, none⟩)) rfl (by kernel_rfl) (fun wk hwk => ?_) ?_
 ·generalize hA : Act.eval _ = ρ
  have s20 : ρ (.tmp 20) = .pointer (some ⟨D, 0, none⟩) := by rw [← hA]; kernel_rfl
  clear hA
  go_simp
 go_big_quiet_op
 refine wlb (some 22) w rfl (.pointer (some ⟨D, 0, none⟩)) rfl (by kernel_rfl) (fun wk hwk => ?_) ?_
 ·generalize hA : Act.eval _ = ρ
  have s21 : ρ (.tmp 21) = .pointer (some ⟨D, 0, none⟩) := by rw [← hA]; kernel_rfl
  clear hA
  go_simp
 go_big_quiet_op
 refine wlb (some 23) w rfl (.pointer (some ⟨G, 0, none⟩)) rfl (by kernel_rfl) (fun wk hwk => ?_) ?_
 ·generalize hA : Act.eval _ = ρ
  have s22 : ρ (.tmp 22) = .pointer (some ⟨D, 0, none⟩) := by rw [← hA]; kernel_rfl
  clear hA
  obtain ⟨T9, h9, _⟩ := hwk.both.fst
  have g0 := h9.cells.book
  have hlt := h9.cells.lt
  go_simp
 go_big_quiet_op
 refine wls (some 24) w rfl rfl (by kernel_rfl) (fun u => u = .int .i64 (leastL t.b)) (fun u wk => BK w0 D G pw E F qw t T dv wk) (fun u wk => BK w0 D G pw E F qw t T dv wk) (⟨_, rfl⟩) (fun _ _ h => h) (fun _ _ h => h) (fun wk hwk => ?_) (fun u9 hu9 => ?_)
 ·generalize hA : Act.eval _ = ρ
  have s23 : ρ (.tmp 23) = .pointer (some ⟨G, 0, none⟩) := by rw [← hA]; kernel_rfl
  have sf : ρ (.func 16) = .func (.func 16) #[] #[] := by rw [← hA]; kernel_rfl
  clear hA
  go_simp
  obtain ⟨T9, ⟨tk9, h9, _⟩, _⟩ := hwk.both.fst
  obtain ⟨T8, dv8, lv8, hl8, _⟩ := h9.log
  refine (least_lg hl8 HGD.out).mono ?_
  rintro e w7 ⟨rfl, hb⟩
  exact ⟨_, rfl, rfl, hwk.after hb⟩
 subst hu9
 go_big_quiet_op
 refine wlb (some 25) w rfl (.pointer (some ⟨E, 0, none⟩)) rfl (by kernel_rfl) (fun wk hwk => ?_) ?_
 ·generalize hA : Act.eval _ = ρ
  have s1 : ρ (.tmp 1) = .pointer (some ⟨E, 0, none⟩) := by rw [← hA]; kernel_rfl
  clear hA
  go_simp
 go_big_quiet_op
 refine wlb (some 26) w rfl (.pointer (some ⟨E, 0, none⟩)) rfl (by kernel_rfl) (fun wk hwk => ?_) ?_
 ·generalize hA : Act.eval _ = ρ
  have s25 : ρ (.tmp 25) = .pointer (some ⟨E, 0, none⟩) := by rw [← hA]; kernel_rfl
  clear hA
  go_simp
 go_big_quiet_op
 refine wlb (some 27) w rfl (.pointer (some ⟨E, 0, none⟩)) rfl (by kernel_rfl) (fun wk hwk => ?_) ?_
 ·generalize hA : Act.eval _ = ρ
  have s26 : ρ (.tmp 26) = .pointer (some ⟨E, 0, none⟩) := by rw [← hA]; kernel_rfl
  clear hA
  go_simp
 go_big_quiet_op
 refine wlb (some 28) w rfl (.pointer (some ⟨F, 0, none⟩)) rfl (by kernel_rfl) (fun wk hwk => ?_) ?_
 ·generalize hA : Act.eval _ = ρ
  have s27 : ρ (.tmp 27) = .pointer (some ⟨E, 0, none⟩) := by rw [← hA]; kernel_rfl
  clear hA
  obtain ⟨T9, h9, _⟩ := hwk.both.snd
  have g0 := h9.start.cells.book
  have hlt := h9.start.cells.lt
  go_simp
 go_big_quiet_op
 refine wls (some 29) w rfl rfl (by kernel_rfl) (fun u => u = .int .i64 (leastL t.b)) (fun u wk => BK w0 D G pw E F qw t T dv wk) (fun u wk => BK w0 D G pw E F qw t T dv wk) (⟨_, rfl⟩) (fun _ _ h => h) (fun _ _ h => h) (fun wk hwk => ?_) (fun u9 hu9 => ?_)
 ·generalize hA : Act.eval _ = ρ
  have s28 : ρ (.tmp 28) = .pointer (some ⟨F, 0, none⟩) := by rw [← hA]; kernel_rfl
  have sf : ρ (.func 76) = .func (.func 76) #[] #[] := by rw [← hA]; kernel_rfl
  clear hA
  go_simp
  refine (least_bk hwk.bk HGD.out).mono ?_
  rintro e w7 ⟨rfl, rfl⟩
  exact ⟨_, rfl, rfl, hwk⟩
 subst hu9
 go_big_quiet_op
 refine wlb (some 30) w rfl (.bool false) rfl (by kernel_rfl) (fun wk hwk => ?_) ?_
 ·generalize hA : Act.eval _ = ρ
  have s24 : ρ (.tmp 24) = .int .i64 (leastL t.b) := by rw [← hA]; kernel_rfl
  have s29 : ρ (.tmp 29) = .int .i64 (leastL t.b) := by rw [← hA]; kernel_rfl
  clear hA
  go_simp
 go_big_quiet_op
 refine wlb (some 31) w rfl (.bool false) rfl (by kernel_rfl) (fun wk hwk => ?_) ?_
 ·generalize hA : Act.eval _ = ρ
  have s19 : ρ (.tmp 19) = .bool false := by rw [← hA]; kernel_rfl
  have k1 : ρ (.const (.bool true)) = .bool true := by rw [← hA]; kernel_rfl
  have s30 : ρ (.tmp 30) = .bool false := by rw [← hA]; kernel_rfl
  clear hA
  go_simp
 go_big_quiet_op
 refine wls (some 32) w rfl rfl (by kernel_rfl) (fun u => u = .bool false) (fun u wk => BK w0 D G pw E F qw t T dv wk) (fun u wk => BK w0 D G pw E F qw t T dv wk) (⟨_, rfl⟩) (fun _ _ h => h) (fun _ _ h => h) (fun wk hwk => ?_) (fun u9 hu9 => ?_)
 ·generalize hA : Act.eval _ = ρ
  have s31 : ρ (.tmp 31) = .bool false := by rw [← hA]; kernel_rfl
  clear hA
  go_simp
  exact ⟨rfl, hwk⟩
 subst hu9
 go_big_quiet_op
 refine wlb (some 33) w rfl (.pointer (some ⟨D, 0, none⟩)) rfl (by kernel_rfl) (fun wk hwk => ?_) ?_
 ·generalize hA : Act.eval _ = ρ
  have s0 : ρ (.tmp 0) = .pointer (some ⟨D, 0, none⟩) := by rw [← hA]; kernel_rfl
  clear hA
  go_simp
 go_big_quiet_op
 refine wlb (some 34) w rfl (.pointer (some ⟨D, 0, none⟩)) rfl (by kernel_rfl) (fun wk hwk => ?_) ?_
 ·generalize hA : Act.eval _ = ρ
  have s33 : ρ (.tmp 33) = .pointer (some ⟨D, 0, none⟩) := by rw [← hA]; kernel_rfl
  clear hA
  go_simp
 go_big_quiet_op
 refine wlb (some 35) w rfl (.pointer (some ⟨D, 0, none⟩)) rfl (by kernel_rfl) (fun wk hwk => ?_) ?_
 ·generalize hA : Act.eval _ = ρ
  have s34 : ρ (.tmp 34) = .pointer (some ⟨D, 0, none⟩) := by rw [← hA]; kernel_rfl
  clear hA
  go_simp
 go_big_quiet_op
 refine wlb (some 36) w rfl (.pointer (some ⟨G, 0, none⟩)) rfl (by kernel_rfl) (fun wk hwk => ?_) ?_
 ·generalize hA : Act.eval _ = ρ
  have s35 : ρ (.tmp 35) = .pointer (some ⟨D, 0, none⟩) := by rw [← hA]; kernel_rfl
  clear hA
  obtain ⟨T9, h9, _⟩ := hwk.both.fst
  have g0 := h9.cells.book
  have hlt := h9.cells.lt
  go_simp
 go_big_quiet_op
 refine wls (some 37) w rfl rfl (by kernel_rfl) (fun u => u = .string s) (fun u wk => BK w0 D G pw E F qw t T dv wk) (fun u wk => BK w0 D G pw E F qw t T dv wk) (⟨_, rfl⟩) (fun _ _ h => h) (fun _ _ h => h) (fun wk hwk => ?_) (fun u9 hu9 => ?_)
 ·generalize hA : Act.eval _ = ρ
  have s36 : ρ (.tmp 36) = .pointer (some ⟨G, 0, none⟩) := by rw [← hA]; kernel_rfl
  have sf : ρ (.func 64) = .func (.func 64) #[] #[] := by rw [← hA]; kernel_rfl
  clear hA
  go_simp
  obtain ⟨T9, h9, _⟩ := hwk.both.fst
  refine h9.text.mono ?_
  rintro e w7 ⟨rfl, hb⟩
  exact ⟨_, rfl, by rw [HSV.out], hwk.after hb⟩
 subst hu9
 go_big_quiet_op
 refine wlb (some 38) w rfl (.pointer (some ⟨E, 0, none⟩)) rfl (by kernel_rfl) (fun wk hwk => ?_) ?_
 ·generalize hA : Act.eval _ = ρ
  have s1 : ρ (.tmp 1) = .pointer (some ⟨E, 0, none⟩) := by rw [← hA]; kernel_rfl
  clear hA
  go_simp
 go_big_quiet_op
 refine wlb (some 39) w rfl (.pointer (some ⟨E, 0, none⟩)) rfl (by kernel_rfl) (fun wk hwk => ?_) ?_
 ·generalize hA : Act.eval _ = ρ
  have s38 : ρ (.tmp 38) = .pointer (some ⟨E, 0, none⟩) := by rw [← hA]; kernel_rfl
  clear hA
  go_simp
 go_big_quiet_op
 refine wlb (some 40) w rfl (.pointer (some ⟨E, 0, none⟩)) rfl (by kernel_rfl) (fun wk hwk => ?_) ?_
 ·generalize hA : Act.eval _ = ρ
  have s39 : ρ (.tmp 39) = .pointer (some ⟨E, 0, none⟩) := by rw [← hA]; kernel_rfl
  clear hA
  go_simp
 go_big_quiet_op
 refine wlb (some 41) w rfl (.pointer (some ⟨F, 0, none⟩)) rfl (by kernel_rfl) (fun wk hwk => ?_) ?_
 ·generalize hA : Act.eval _ = ρ
  have s40 : ρ (.tmp 40) = .pointer (some ⟨E, 0, none⟩) := by rw [← hA]; kernel_rfl
  clear hA
  obtain ⟨T9, h9, _⟩ := hwk.both.snd
  have g0 := h9.start.cells.book
  have hlt := h9.start.cells.lt
  go_simp
 go_big_quiet_op
 refine wls (some 42) w rfl rfl (by kernel_rfl) (fun u => True) (fun u wk => BK w0 D G pw E F qw t T dv wk) (fun u wk => BKC w0 D G pw E F qw t T dv u wk) (⟨.int .i64 0, trivial⟩) (fun _ _ h => h) (fun _ _ h => h.bk) (fun wk hwk => ?_) (fun v2 _ => ?_)
 ·generalize hA : Act.eval _ = ρ
  have s41 : ρ (.tmp 41) = .pointer (some ⟨F, 0, none⟩) := by rw [← hA]; kernel_rfl
  have sf : ρ (.func 68) = .func (.func 68) #[] #[] := by rw [← hA]; kernel_rfl
  clear hA
  go_simp
  refine (bchars_any hwk.bk HGD.out).mono ?_
  rintro e w7 ⟨v7, rfl, ho, hb⟩
  exact ⟨_, rfl, hwk.after hb, ho.lst⟩
 go_big_quiet_op
 refine wls (some 43) w rfl rfl (by kernel_rfl) (fun u => u = .string s) (fun u wk => BK w0 D G pw E F qw t T dv wk) (fun u wk => BK w0 D G pw E F qw t T dv wk) (⟨_, rfl⟩) (fun _ _ h => h) (fun _ _ h => h) (fun wk hwk => ?_) (fun u9 hu9 => ?_)
 ·generalize hA : Act.eval _ = ρ
  have s42 : ρ (.tmp 42) = v2 := by rw [← hA]; kernel_rfl
  have sf : ρ (.func 77) = .func (.func 77) #[] #[] := by rw [← hA]; kernel_rfl
  clear hA
  go_simp
  refine (textOf_any hwk.a1 (by have := HLE.out; omega) HTM.out).mono ?_
  rintro e w7 ⟨rfl, hb⟩
  exact ⟨_, rfl, by rw [HSW.out], hwk.bk.after hb⟩
 subst hu9
 go_big_quiet_op
 refine wlb (some 44) w rfl (.bool false) rfl (by kernel_rfl) (fun wk hwk => ?_) ?_
 ·generalize hA : Act.eval _ = ρ
  have s37 : ρ (.tmp 37) = .string s := by rw [← hA]; kernel_rfl
  have s43 : ρ (.tmp 43) = .string s := by rw [← hA]; kernel_rfl
  clear hA
  go_simp
 go_big_quiet_op
 refine wlb (some 45) w rfl (.bool false) rfl (by kernel_rfl) (fun wk hwk => ?_) ?_
 ·generalize hA : Act.eval _ = ρ
  have s32 : ρ (.tmp 32) = .bool false := by rw [← hA]; kernel_rfl
  have k1 : ρ (.const (.bool true)) = .bool true := by rw [← hA]; kernel_rfl
  have s44 : ρ (.tmp 44) = .bool false := by rw [← hA]; kernel_rfl
  clear hA
  go_simp
 go_big_quiet_op
 refine wpLate_nil (fun w9 hw9 => ?_)
 have H9 : Hid (BothD w0 D G pw E F qw t t w9) := hw9.both
 clear hw9 HK
 go_wp2_with fail
 go_loopw [5] (fun i wr => ∃ n : Nat, n ≤ 6 ∧ i = .int .i64 ((n : Int) - 1) ∧ Hid (BothD w0 D G pw E F qw t t wr)) (fun i _ => 6 - (intOf i + 1).toNat)
 case atStart => exact ⟨0, by omega, rfl, H9.out⟩
 case round =>
  obtain ⟨n, hn, rfl, HW⟩ := hrel
  clear H9
  by_cases hlt : n < 6
  ·have hlt' : ((n : Int) - 1) ≤ 4 := by omega
   go_wp2_with fail
   obtain ⟨T9, hd9, _⟩ := HW.out.fst
   refine (hd9.writer _).mono ?_
   rintro e w10 ⟨rfl, hw10⟩
   rw [hw10]
   clear hw10 w10 hd9
   cases he : t.ws ((n : Int) - 1) with
   | none =>
    have HHR : Hid (t.b.isHere ((n : Int) - 1) = false) := by show _ = _; rw [twn_here HTI.out, he]; rfl
    rw [desk_none he]
    cases hw : wrB ((n : Int) - 1) with
    | false =>
     clear he
     obtain ⟨T9, ⟨tk9, hd9, _⟩, _⟩ := HW.out.fst
     have g0 := hd9.cells.book
     have hlt0 := hd9.cells.lt
     clear hd9
     go_wp2_with (go_at_call 37; refine (isWriter_any _ _).mono ?_; rintro e w6 ⟨rfl, hw6⟩; rw [hw, hw6]; clear hw6 w6)
     clear g0 hlt0
     obtain ⟨T9, ⟨tk9, hd9, _⟩, _⟩ := HW.out.fst
     obtain ⟨T8, dv8, lv8, hl8, _⟩ := hd9.log
     refine (here_lg hl8.cells _).mono ?_
     rintro e w11 ⟨rfl, hw11⟩
     rw [hw11, HHR.out]
     clear hw11 w11 hl8 hd9
     go_wp2_with fail
     go_roundw
     case rel => exact ⟨n + 1, by omega, by go_num, HW.out⟩
     case measure => simp [intOf]; omega
    | true =>
     obtain ⟨k, hkn, hk⟩ := wr_nat hw
     rw [hkn] at he hw HHR ⊢
     have hk4 : (k : Int) < 4 := by omega
     have hhs : hasW t k = false := by unfold hasW; rw [he]; rfl
     obtain ⟨T9, hd9, _⟩ := HW.out.snd
     have g1 := hd9.start.cells.ws k hk
     have hltT := hd9.start.cells.lt
     simp only [hhs, ptrOf, Bool.false_eq_true, if_false] at g1
     obtain ⟨T8, ⟨tk8, hd8, _⟩, _⟩ := HW.out.fst
     have g0 := hd8.cells.book
     have hlt0 := hd8.cells.lt
     clear hd8 hd9 he hhs
     go_wp2_with (go_at_call 37; refine (isWriter_any _ _).mono ?_; rintro e w6 ⟨rfl, hw6⟩; rw [hw, hw6]; clear hw6 w6)
     clear g0 hlt0 g1 hltT
     obtain ⟨T9, ⟨tk9, hd9, _⟩, _⟩ := HW.out.fst
     obtain ⟨T8, dv8, lv8, hl8, _⟩ := hd9.log
     refine (here_lg hl8.cells _).mono ?_
     rintro e w11 ⟨rfl, hw11⟩
     rw [hw11, HHR.out]
     clear hw11 w11 hl8 hd9
     go_wp2_with fail
     go_roundw
     case rel => exact ⟨n + 1, by omega, by first | go_num | (rw [← hkn]; go_num), HW.out⟩
     case measure => simp [intOf]; omega
   | some r =>
    obtain ⟨k, hkn, hk⟩ := wr_nat (HTI.out.is_here he).2
    have HHR0 : t.b.isHere ((n : Int) - 1) = true := by rw [twn_here HTI.out, he]; rfl
    rw [hkn] at he HHR0 ⊢
    have HHR : Hid (t.b.isHere (k : Int) = true) := HHR0
    rw [desk_some hk he]
    have hk4 : (k : Int) < 4 := by omega
    have hw : wrB (k : Int) = true := by simp [wrB]; omega
    have HE : Hid (t.ws k = some r) := he
    have hhs : hasW t k = true := by unfold hasW; rw [he]; rfl
    have HOK : Hid (∃ ts, WOk r ts) := by obtain ⟨T9, ⟨tk9, _, h8⟩, _⟩ := HW.out.fst; exact ⟨_, tr_wok h8 he⟩
    obtain ⟨ts, hok⟩ := HOK.out
    have HOK : Hid (WOk r ts) := hok
    obtain ⟨T9, hd9, _⟩ := HW.out.snd
    have g1 := hd9.start.cells.ws k hk
    have hltT := hd9.start.cells.lt
    simp only [hhs, ptrOf, if_true] at g1
    obtain ⟨T, bv, ov, hsc, _⟩ := hd9.start.wr hk he
    have HS : Hid (BS w0 D G pw E F qw t (qw k) T bv ov r wr) := ⟨HW.out, hsc⟩
    clear hd9 he hhs hsc HHR0 hok
    go_wp2_with (go_at_call 37; refine (isWriter_any _ _).mono ?_; rintro e w6 ⟨rfl, hw6⟩; rw [hw, hw6]; clear hw6 w6)
    clear g1 hltT
    refine wp_region_late (fun wk => BS w0 D G pw E F qw t (qw k) T bv ov r wk) (fun i => i == 2 || i == 8 || i == 11 || i == 13 || i == 15 || i == 18 || i == 20 || i == 27 || i == 29 || i == 31 || i == 34 || i == 36 || i == 41 || i == 44 || i == 46 || i == 51) (fun _ => false) (by kernel_rfl) (by kernel_rfl) (by kernel_rfl) (HS.out.after (Below.refl _ _).drew) ?_
    refine wlb (some 81) w rfl (.pointer (some ⟨pw k, 0, none⟩)) rfl (by kernel_rfl) (fun wk hwk => ?_) ?_
    ·generalize hA : Act.eval _ = ρ
     have s6 : ρ (.tmp 6) = .pointer (some ⟨pw k, 0, none⟩) := by rw [← hA]; kernel_rfl
     clear hA
     go_simp
    go_big_quiet_op
    refine wlb (some 82) w rfl (.bool false) rfl (by kernel_rfl) (fun wk hwk => ?_) ?_
    ·generalize hA : Act.eval _ = ρ
     have s81 : ρ (.tmp 81) = .pointer (some ⟨pw k, 0, none⟩) := by rw [← hA]; kernel_rfl
     have k1 : ρ (.const (.pointer none)) = .pointer none := by rw [← hA]; kernel_rfl
     clear hA
     go_simp
    go_big_quiet_op
    refine wls (some 83) w rfl rfl (by kernel_rfl) (fun u => u = .bool false) (fun u wk => BS w0 D G pw E F qw t (qw k) T bv ov r wk) (fun u wk => BS w0 D G pw E F qw t (qw k) T bv ov r wk) (⟨_, rfl⟩) (fun _ _ h => h) (fun _ _ h => h) (fun wk hwk => ?_) (fun u9 hu9 => ?_)
    ·generalize hA : Act.eval _ = ρ
     have s82 : ρ (.tmp 82) = .bool false := by rw [← hA]; kernel_rfl
     clear hA
     go_simp
     exact ⟨rfl, hwk⟩
    subst hu9
    go_big_quiet_op
    refine wlb (some 84) w rfl (.pointer (some ⟨D, 0, none⟩)) rfl (by kernel_rfl) (fun wk hwk => ?_) ?_
    ·generalize hA : Act.eval _ = ρ
     have s0 : ρ (.tmp 0) = .pointer (some ⟨D, 0, none⟩) := by rw [← hA]; kernel_rfl
     clear hA
     go_simp
    go_big_quiet_op
    refine wlb (some 85) w rfl (.pointer (some ⟨D, 0, none⟩)) rfl (by kernel_rfl) (fun wk hwk => ?_) ?_
    ·generalize hA : Act.eval _ = ρ
     have s84 : ρ (.tmp 84) = .pointer (some ⟨D, 0, none⟩) := by rw [← hA]; kernel_rfl
     clear hA
     go_simp
    go_big_quiet_op
    refine wlb (some 86) w rfl (.pointer (some ⟨D, 0, none⟩)) rfl (by kernel_rfl) (fun wk hwk => ?_) ?_
    ·generalize hA : Act.eval _ = ρ
     have s85 : ρ (.tmp 85) = .pointer (some ⟨D, 0, none⟩) := by rw [← hA]; kernel_rfl
     clear hA
     go_simp
    go_big_quiet_op
    refine wlb (some 87) w rfl (.pointer (some ⟨G, 0, none⟩)) rfl (by kernel_rfl) (fun wk hwk => ?_) ?_
    ·generalize hA : Act.eval _ = ρ
     have s86 : ρ (.tmp 86) = .pointer (some ⟨D, 0, none⟩) := by rw [← hA]; kernel_rfl
     clear hA
     obtain ⟨T9, h9, _⟩ := hwk.both.fst
     have g0 := h9.cells.book
     have hlt := h9.cells.lt
     go_simp
    go_big_quiet_op
    refine wlb (some 88) w rfl (.int .i64 ((k : Int))) rfl (by kernel_rfl) (fun wk hwk => ?_) ?_
    ·generalize hA : Act.eval _ = ρ
     have s5 : ρ (.tmp 5) = .int .i64 ((k : Int)) := by rw [← hA]; kernel_rfl
     clear hA
     go_simp
    go_big_quiet_op
    refine wls (some 89) w rfl rfl (by kernel_rfl) (fun u => u = .bool true) (fun u wk => BS w0 D G pw E F qw t (qw k) T bv ov r wk) (fun u wk => BS w0 D G pw E F qw t (qw k) T bv ov r wk) (⟨_, rfl⟩) (fun _ _ h => h) (fun _ _ h => h) (fun wk hwk => ?_) (fun u9 hu9 => ?_)
    ·generalize hA : Act.eval _ = ρ
     have s87 : ρ (.tmp 87) = .pointer (some ⟨G, 0, none⟩) := by rw [← hA]; kernel_rfl
     have s88 : ρ (.tmp 88) = .int .i64 ((k : Int)) := by rw [← hA]; kernel_rfl
     have sf : ρ (.func 78) = .func (.func 78) #[] #[] := by rw [← hA]; kernel_rfl
     clear hA
     go_simp
     obtain ⟨T9, ⟨tk9, h9, _⟩, _⟩ := hwk.both.fst
     obtain ⟨T8, dv8, lv8, hl8, _⟩ := h9.log
     refine (here_lg hl8.cells _).mono ?_
     rintro e w7 ⟨rfl, rfl⟩
     exact ⟨_, rfl, by rw [HHR.out], hwk⟩
    subst hu9
    go_big_quiet_op
    refine wlb (some 90) w rfl (.bool false) rfl (by kernel_rfl) (fun wk hwk => ?_) ?_
    ·generalize hA : Act.eval _ = ρ
     have s89 : ρ (.tmp 89) = .bool true := by rw [← hA]; kernel_rfl
     clear hA
     go_simp
    go_big_quiet_op
    refine wlb (some 91) w rfl (.bool false) rfl (by kernel_rfl) (fun wk hwk => ?_) ?_
    ·generalize hA : Act.eval _ = ρ
     have s83 : ρ (.tmp 83) = .bool false := by rw [← hA]; kernel_rfl
     have k1 : ρ (.const (.bool true)) = .bool true := by rw [← hA]; kernel_rfl
     have s90 : ρ (.tmp 90) = .bool false := by rw [← hA]; kernel_rfl
     clear hA
     go_simp
    go_big_quiet_op
    refine wls (some 92) w rfl rfl (by kernel_rfl) (fun u => u = .bool false) (fun u wk => BS w0 D G pw E F qw t (qw k) T bv ov r wk) (fun u wk => BS w0 D G pw E F qw t (qw k) T bv ov r wk) (⟨_, rfl⟩) (fun _ _ h => h) (fun _ _ h => h) (fun wk hwk => ?_) (fun u9 hu9 => ?_)
    ·generalize hA : Act.eval _ = ρ
     have s91 : ρ (.tmp 91) = .bool false := by rw [← hA]; kernel_rfl
     clear hA
     go_simp
     exact ⟨rfl, hwk⟩
    subst hu9
    go_big_quiet_op
    refine wlb (some 93) w rfl (.pointer (some ⟨pw k, 0, none⟩)) rfl (by kernel_rfl) (fun wk hwk => ?_) ?_
    ·generalize hA : Act.eval _ = ρ
     have s6 : ρ (.tmp 6) = .pointer (some ⟨pw k, 0, none⟩) := by rw [← hA]; kernel_rfl
     clear hA
     go_simp
    go_big_quiet_op
    refine wls (some 94) w rfl rfl (by kernel_rfl) (fun u => u = .string (strOfNums (vw r.list r.seen r.me))) (fun u wk => BS w0 D G pw E F qw t (qw k) T bv ov r wk) (fun u wk => BS w0 D G pw E F qw t (qw k) T bv ov r wk) (⟨_, rfl⟩) (fun _ _ h => h) (fun _ _ h => h) (fun wk hwk => ?_) (fun u9 hu9 => ?_)
    ·generalize hA : Act.eval _ = ρ
     have s93 : ρ (.tmp 93) = .pointer (some ⟨pw k, 0, none⟩) := by rw [← hA]; kernel_rfl
     have sf : ρ (.func 20) = .func (.func 20) #[] #[] := by rw [← hA]; kernel_rfl
     clear hA
     go_simp
     obtain ⟨T9, ⟨tk9, h9, h8⟩, _⟩ := hwk.both.fst
     obtain ⟨T7, lv7, ov7, tv7, hp, _⟩ := h9.wr hk HE.out
     have hok := tr_wok h8 HE.out
     refine (text_pw hp (by have := hok.len; omega)).mono ?_
     rintro e w7 ⟨rfl, hb⟩
     exact ⟨_, rfl, rfl, hwk.after hb⟩
    subst hu9
    go_big_quiet_op
    refine wlb (some 95) w rfl (.pointer (some ⟨qw k, 0, none⟩)) rfl (by kernel_rfl) (fun wk hwk => ?_) ?_
    ·generalize hA : Act.eval _ = ρ
     have s7 : ρ (.tmp 7) = .pointer (some ⟨qw k, 0, none⟩) := by rw [← hA]; kernel_rfl
     clear hA
     go_simp
    go_big_quiet_op
    refine wls (some 96) w rfl rfl (by kernel_rfl) (fun u => u = .string (strOfNums (vw r.list r.seen r.me))) (fun u wk => BS w0 D G pw E F qw t (qw k) T bv ov r wk) (fun u wk => BS w0 D G pw E F qw t (qw k) T bv ov r wk) (⟨_, rfl⟩) (fun _ _ h => h) (fun _ _ h => h) (fun wk hwk => ?_) (fun u9 hu9 => ?_)
    ·generalize hA : Act.eval _ = ρ
     have s95 : ρ (.tmp 95) = .pointer (some ⟨qw k, 0, none⟩) := by rw [← hA]; kernel_rfl
     have sf : ρ (.func 79) = .func (.func 79) #[] #[] := by rw [← hA]; kernel_rfl
     clear hA
     go_simp
     obtain ⟨T9, ⟨tk9, h9, h8⟩, _⟩ := hwk.both.fst
     obtain ⟨T7, lv7, ov7, tv7, hp, _⟩ := h9.wr hk HE.out
     have hok := tr_wok h8 HE.out
     refine (text_sc hwk.sc (by have := hok.few; omega) hok.top).mono ?_
     rintro e w7 ⟨rfl, hb⟩
     exact ⟨_, rfl, rfl, hwk.after hb⟩
    subst hu9
    go_big_quiet_op
    refine wlb (some 97) w rfl (.bool false) rfl (by kernel_rfl) (fun wk hwk => ?_) ?_
    ·generalize hA : Act.eval _ = ρ
     have s94 : ρ (.tmp 94) = .string (strOfNums (vw r.list r.seen r.me)) := by rw [← hA]; kernel_rfl
     have s96 : ρ (.tmp 96) = .string (strOfNums (vw r.list r.seen r.me)) := by rw [← hA]; kernel_rfl
     clear hA
     go_simp
    go_big_quiet_op
    refine wlb (some 98) w rfl (.bool false) rfl (by kernel_rfl) (fun wk hwk => ?_) ?_
    ·generalize hA : Act.eval _ = ρ
     have s92 : ρ (.tmp 92) = .bool false := by rw [← hA]; kernel_rfl
     have k1 : ρ (.const (.bool true)) = .bool true := by rw [← hA]; kernel_rfl
     have s97 : ρ (.tmp 97) = .bool false := by rw [← hA]; kernel_rfl
     clear hA
     go_simp
    go_big_quiet_op
    refine wls (some 99) w rfl rfl (by kernel_rfl) (fun u => u = .bool false) (fun u wk => BS w0 D G pw E F qw t (qw k) T bv ov r wk) (fun u wk => BS w0 D G pw E F qw t (qw k) T bv ov r wk) (⟨_, rfl⟩) (fun _ _ h => h) (fun _ _ h => h) (fun wk hwk => ?_) (fun u9 hu9 => ?_)
    ·generalize hA : Act.eval _ = ρ
     have s98 : ρ (.tmp 98) = .bool false := by rw [← hA]; kernel_rfl
     clear hA
     go_simp
     exact ⟨rfl, hwk⟩
    subst hu9
    go_big_quiet_op
    refine wlb (some 100) w rfl (.pointer (some ⟨pw k, 0, none⟩)) rfl (by kernel_rfl) (fun wk hwk => ?_) ?_
    ·generalize hA : Act.eval _ = ρ
     have s6 : ρ (.tmp 6) = .pointer (some ⟨pw k, 0, none⟩) := by rw [← hA]; kernel_rfl
     clear hA
     go_simp
    go_big_quiet_op
    refine wls (some 101) w rfl rfl (by kernel_rfl) (fun u => u = .int .i64 ((r.seen : Int))) (fun u wk => BS w0 D G pw E F qw t (qw k) T bv ov r wk) (fun u wk => BS w0 D G pw E F qw t (qw k) T bv ov r wk) (⟨_, rfl⟩) (fun _ _ h => h) (fun _ _ h => h) (fun wk hwk => ?_) (fun u9 hu9 => ?_)
    ·generalize hA : Act.eval _ = ρ
     have s100 : ρ (.tmp 100) = .pointer (some ⟨pw k, 0, none⟩) := by rw [← hA]; kernel_rfl
     have sf : ρ (.func 9) = .func (.func 9) #[] #[] := by rw [← hA]; kernel_rfl
     clear hA
     go_simp
     obtain ⟨T9, ⟨tk9, h9, h8⟩, _⟩ := hwk.both.fst
     obtain ⟨T7, lv7, ov7, tv7, hp, _⟩ := h9.wr hk HE.out
     have hok := tr_wok h8 HE.out
     refine (seen_pw hp).mono ?_
     rintro e w7 ⟨rfl, rfl⟩
     exact ⟨_, rfl, rfl, hwk⟩
    subst hu9
    go_big_quiet_op
    refine wlb (some 102) w rfl (.pointer (some ⟨qw k, 0, none⟩)) rfl (by kernel_rfl) (fun wk hwk => ?_) ?_
    ·generalize hA : Act.eval _ = ρ
     have s7 : ρ (.tmp 7) = .pointer (some ⟨qw k, 0, none⟩) := by rw [← hA]; kernel_rfl
     clear hA
     go_simp
    go_big_quiet_op
    refine wlb (some 103) w rfl (.pointer (some ⟨qw k, 0, none⟩)) rfl (by kernel_rfl) (fun wk hwk => ?_) ?_
    ·generalize hA : Act.eval _ = ρ
     have s102 : ρ (.tmp 102) = .pointer (some ⟨qw k, 0, none⟩) := by rw [← hA]; kernel_rfl
     clear hA
     go_simp
    go_big_quiet_op
    refine wlb (some 104) w rfl (.pointer (some ⟨qw k, 1, none⟩)) rfl (by kernel_rfl) (fun wk hwk => ?_) ?_
    ·generalize hA : Act.eval _ = ρ
     have s103 : ρ (.tmp 103) = .pointer (some ⟨qw k, 0, none⟩) := by rw [← hA]; kernel_rfl
     clear hA
     go_simp
    go_big_quiet_op
    refine wlb (some 105) w rfl (.int .i64 ((r.seen : Int))) rfl (by kernel_rfl) (fun wk hwk => ?_) ?_
    ·generalize hA : Act.eval _ = ρ
     have s104 : ρ (.tmp 104) = .pointer (some ⟨qw k, 1, none⟩) := by rw [← hA]; kernel_rfl
     clear hA
     have c1 := hwk.sc.cells.seen
     have hlt := hwk.sc.cells.lt
     go_simp
    go_big_quiet_op
    refine wlb (some 106) w rfl (.bool false) rfl (by kernel_rfl) (fun wk hwk => ?_) ?_
    ·generalize hA : Act.eval _ = ρ
     have s101 : ρ (.tmp 101) = .int .i64 ((r.seen : Int)) := by rw [← hA]; kernel_rfl
     have s105 : ρ (.tmp 105) = .int .i64 ((r.seen : Int)) := by rw [← hA]; kernel_rfl
     clear hA
     go_simp
    go_big_quiet_op
    refine wlb (some 107) w rfl (.bool false) rfl (by kernel_rfl) (fun wk hwk => ?_) ?_
    ·generalize hA : Act.eval _ = ρ
     have s99 : ρ (.tmp 99) = .bool false := by rw [← hA]; kernel_rfl
     have k1 : ρ (.const (.bool true)) = .bool true := by rw [← hA]; kernel_rfl
     have s106 : ρ (.tmp 106) = .bool false := by rw [← hA]; kernel_rfl
     clear hA
     go_simp
    go_big_quiet_op
    refine wls (some 108) w rfl rfl (by kernel_rfl) (fun u => u = .bool false) (fun u wk => BS w0 D G pw E F qw t (qw k) T bv ov r wk) (fun u wk => BS w0 D G pw E F qw t (qw k) T bv ov r wk) (⟨_, rfl⟩) (fun _ _ h => h) (fun _ _ h => h) (fun wk hwk => ?_) (fun u9 hu9 => ?_)
    ·generalize hA : Act.eval _ = ρ
     have s107 : ρ (.tmp 107) = .bool false := by rw [← hA]; kernel_rfl
     clear hA
     go_simp
     exact ⟨rfl, hwk⟩
    subst hu9
    go_big_quiet_op
    refine wlb (some 109) w rfl (.pointer (some ⟨pw k, 0, none⟩)) rfl (by kernel_rfl) (fun wk hwk => ?_) ?_
    ·generalize hA : Act.eval _ = ρ
     have s6 : ρ (.tmp 6) = .pointer (some ⟨pw k, 0, none⟩) := by rw [← hA]; kernel_rfl
     clear hA
     go_simp
    go_big_quiet_op
    refine wls (some 110) w rfl rfl (by kernel_rfl) (fun u => u = .int .i64 (leastW r.opens r.sent r.seen)) (fun u wk => BS w0 D G pw E F qw t (qw k) T bv ov r wk) (fun u wk => BS w0 D G pw E F qw t (qw k) T bv ov r wk) (⟨_, rfl⟩) (fun _ _ h => h) (fun _ _ h => h) (fun wk hwk => ?_) (fun u9 hu9 => ?_)
    ·generalize hA : Act.eval _ = ρ
     have s109 : ρ (.tmp 109) = .pointer (some ⟨pw k, 0, none⟩) := by rw [← hA]; kernel_rfl
     have sf : ρ (.func 35) = .func (.func 35) #[] #[] := by rw [← hA]; kernel_rfl
     clear hA
     go_simp
     obtain ⟨T9, ⟨tk9, h9, h8⟩, _⟩ := hwk.both.fst
     obtain ⟨T7, lv7, ov7, tv7, hp, _⟩ := h9.wr hk HE.out
     have hok := tr_wok h8 HE.out
     refine (least_pw hp).mono ?_
     rintro e w7 ⟨rfl, hb⟩
     exact ⟨_, rfl, rfl, hwk.after hb⟩
    subst hu9
    go_big_quiet_op
    refine wlb (some 111) w rfl (.pointer (some ⟨qw k, 0, none⟩)) rfl (by kernel_rfl) (fun wk hwk => ?_) ?_
    ·generalize hA : Act.eval _ = ρ
     have s7 : ρ (.tmp 7) = .pointer (some ⟨qw k, 0, none⟩) := by rw [← hA]; kernel_rfl
     clear hA
     go_simp
    go_big_quiet_op
    refine wls (some 112) w rfl rfl (by kernel_rfl) (fun u => u = .int .i64 (leastW r.opens r.sent r.seen)) (fun u wk => BS w0 D G pw E F qw t (qw k) T bv ov r wk) (fun u wk => BS w0 D G pw E F qw t (qw k) T bv ov r wk) (⟨_, rfl⟩) (fun _ _ h => h) (fun _ _ h => h) (fun wk hwk => ?_) (fun u9 hu9 => ?_)
    ·generalize hA : Act.eval _ = ρ
     have s111 : ρ (.tmp 111) = .pointer (some ⟨qw k, 0, none⟩) := by rw [← hA]; kernel_rfl
     have sf : ρ (.func 72) = .func (.func 72) #[] #[] := by rw [← hA]; kernel_rfl
     clear hA
     go_simp
     refine (least_sc hwk.sc).mono ?_
     rintro e w7 ⟨rfl, hb⟩
     exact ⟨_, rfl, rfl, hwk.after hb⟩
    subst hu9
    go_big_quiet_op
    refine wlb (some 113) w rfl (.bool false) rfl (by kernel_rfl) (fun wk hwk => ?_) ?_
    ·generalize hA : Act.eval _ = ρ
     have s110 : ρ (.tmp 110) = .int .i64 (leastW r.opens r.sent r.seen) := by rw [← hA]; kernel_rfl
     have s112 : ρ (.tmp 112) = .int .i64 (leastW r.opens r.sent r.seen) := by rw [← hA]; kernel_rfl
     clear hA
     go_simp
    go_big_quiet_op
    refine wlb (some 114) w rfl (.bool false) rfl (by kernel_rfl) (fun wk hwk => ?_) ?_
    ·generalize hA : Act.eval _ = ρ
     have s108 : ρ (.tmp 108) = .bool false := by rw [← hA]; kernel_rfl
     have k1 : ρ (.const (.bool true)) = .bool true := by rw [← hA]; kernel_rfl
     have s113 : ρ (.tmp 113) = .bool false := by rw [← hA]; kernel_rfl
     clear hA
     go_simp
    go_big_quiet_op
    refine wls (some 115) w rfl rfl (by kernel_rfl) (fun u => u = .bool false) (fun u wk => BS w0 D G pw E F qw t (qw k) T bv ov r wk) (fun u wk => BS w0 D G pw E F qw t (qw k) T bv ov r wk) (⟨_, rfl⟩) (fun _ _ h => h) (fun _ _ h => h) (fun wk hwk => ?_) (fun u9 hu9 => ?_)
    ·generalize hA : Act.eval _ = ρ
     have s114 : ρ (.tmp 114) = .bool false := by rw [← hA]; kernel_rfl
     clear hA
     go_simp
     exact ⟨rfl, hwk⟩
    subst hu9
    go_big_quiet_op
    refine wlb (some 116) w rfl (.pointer (some ⟨pw k, 0, none⟩)) rfl (by kernel_rfl) (fun wk hwk => ?_) ?_
    ·generalize hA : Act.eval _ = ρ
     have s6 : ρ (.tmp 6) = .pointer (some ⟨pw k, 0, none⟩) := by rw [← hA]; kernel_rfl
     clear hA
     go_simp
    go_big_quiet_op
    refine wls (some 117) w rfl rfl (by kernel_rfl) (fun u => True) (fun u wk => BS w0 D G pw E F qw t (qw k) T bv ov r wk) (fun u wk => BSD w0 D G pw E F qw t (qw k) T bv ov r u wk) (⟨.int .i64 0, trivial⟩) (fun _ _ h => h) (fun _ _ h => h.bs) (fun wk hwk => ?_) (fun v3 _ => ?_)
    ·generalize hA : Act.eval _ = ρ
     have s116 : ρ (.tmp 116) = .pointer (some ⟨pw k, 0, none⟩) := by rw [← hA]; kernel_rfl
     have sf : ρ (.func 17) = .func (.func 17) #[] #[] := by rw [← hA]; kernel_rfl
     clear hA
     go_simp
     obtain ⟨T9, ⟨tk9, h9, h8⟩, _⟩ := hwk.both.fst
     obtain ⟨T7, lv7, ov7, tv7, hp, _⟩ := h9.wr hk HE.out
     have hok := tr_wok h8 HE.out
     refine (open_pw hp (by have := hok.few; omega)).mono ?_
     rintro e w7 ⟨v7, rfl, ho, hb⟩
     exact ⟨_, rfl, hwk.after hb, ho.dlst⟩
    go_big_quiet_op
    refine wlb (some 118) w rfl (.pointer (some ⟨qw k, 0, none⟩)) rfl (by kernel_rfl) (fun wk hwk => ?_) ?_
    ·generalize hA : Act.eval _ = ρ
     have s7 : ρ (.tmp 7) = .pointer (some ⟨qw k, 0, none⟩) := by rw [← hA]; kernel_rfl
     clear hA
     go_simp
    go_big_quiet_op
    refine wlb (some 119) w rfl (.pointer (some ⟨qw k, 0, none⟩)) rfl (by kernel_rfl) (fun wk hwk => ?_) ?_
    ·generalize hA : Act.eval _ = ρ
     have s118 : ρ (.tmp 118) = .pointer (some ⟨qw k, 0, none⟩) := by rw [← hA]; kernel_rfl
     clear hA
     go_simp
    go_big_quiet_op
    refine wlb (some 120) w rfl (.pointer (some ⟨qw k, 4, none⟩)) rfl (by kernel_rfl) (fun wk hwk => ?_) ?_
    ·generalize hA : Act.eval _ = ρ
     have s119 : ρ (.tmp 119) = .pointer (some ⟨qw k, 0, none⟩) := by rw [← hA]; kernel_rfl
     clear hA
     go_simp
    go_big_quiet_op
    refine wlb (some 121) w rfl (ov) rfl (by kernel_rfl) (fun wk hwk => ?_) ?_
    ·generalize hA : Act.eval _ = ρ
     have s120 : ρ (.tmp 120) = .pointer (some ⟨qw k, 4, none⟩) := by rw [← hA]; kernel_rfl
     clear hA
     have c1 := hwk.sc.cells.opens
     have hlt := hwk.sc.cells.lt
     go_simp
    go_big_quiet_op
    refine wls (some 122) w rfl rfl (by kernel_rfl) (fun u => u = .bool true) (fun u wk => BS w0 D G pw E F qw t (qw k) T bv ov r wk) (fun u wk => BS w0 D G pw E F qw t (qw k) T bv ov r wk) (⟨_, rfl⟩) (fun _ _ h => h) (fun _ _ h => h) (fun wk hwk => ?_) (fun u9 hu9 => ?_)
    ·generalize hA : Act.eval _ = ρ
     have s117 : ρ (.tmp 117) = v3 := by rw [← hA]; kernel_rfl
     have s121 : ρ (.tmp 121) = ov := by rw [← hA]; kernel_rfl
     have sf : ρ (.func 74) = .func (.func 74) #[] #[] := by rw [← hA]; kernel_rfl
     clear hA
     go_simp
     refine (sameDeeds_eqT hwk.a1 hwk.bs.sc.ownO.dlst (by have := HOK.out.few; omega)).mono ?_
     rintro e w7 ⟨rfl, hb⟩
     exact ⟨_, rfl, rfl, hwk.bs.after hb⟩
    subst hu9
    go_big_quiet_op
    refine wlb (some 123) w rfl (.bool false) rfl (by kernel_rfl) (fun wk hwk => ?_) ?_
    ·generalize hA : Act.eval _ = ρ
     have s122 : ρ (.tmp 122) = .bool true := by rw [← hA]; kernel_rfl
     clear hA
     go_simp
    go_big_quiet_op
    refine wlb (some 124) w rfl (.bool false) rfl (by kernel_rfl) (fun wk hwk => ?_) ?_
    ·generalize hA : Act.eval _ = ρ
     have s115 : ρ (.tmp 115) = .bool false := by rw [← hA]; kernel_rfl
     have k1 : ρ (.const (.bool true)) = .bool true := by rw [← hA]; kernel_rfl
     have s123 : ρ (.tmp 123) = .bool false := by rw [← hA]; kernel_rfl
     clear hA
     go_simp
    go_big_quiet_op
    refine wls (some 125) w rfl rfl (by kernel_rfl) (fun u => u = .bool false) (fun u wk => BS w0 D G pw E F qw t (qw k) T bv ov r wk) (fun u wk => BS w0 D G pw E F qw t (qw k) T bv ov r wk) (⟨_, rfl⟩) (fun _ _ h => h) (fun _ _ h => h) (fun wk hwk => ?_) (fun u9 hu9 => ?_)
    ·generalize hA : Act.eval _ = ρ
     have s124 : ρ (.tmp 124) = .bool false := by rw [← hA]; kernel_rfl
     clear hA
     go_simp
     exact ⟨rfl, hwk⟩
    subst hu9
    go_big_quiet_op
    refine wlb (some 126) w rfl (.pointer (some ⟨pw k, 0, none⟩)) rfl (by kernel_rfl) (fun wk hwk => ?_) ?_
    ·generalize hA : Act.eval _ = ρ
     have s6 : ρ (.tmp 6) = .pointer (some ⟨pw k, 0, none⟩) := by rw [← hA]; kernel_rfl
     clear hA
     go_simp
    go_big_quiet_op
    refine wls (some 127) w rfl rfl (by kernel_rfl) (fun u => True) (fun u wk => BS w0 D G pw E F qw t (qw k) T bv ov r wk) (fun u wk => BSC w0 D G pw E F qw t (qw k) T bv ov r u wk) (⟨.int .i64 0, trivial⟩) (fun _ _ h => h) (fun _ _ h => h.bs) (fun wk hwk => ?_) (fun v4 _ => ?_)
    ·generalize hA : Act.eval _ = ρ
     have s126 : ρ (.tmp 126) = .pointer (some ⟨pw k, 0, none⟩) := by rw [← hA]; kernel_rfl
     have sf : ρ (.func 13) = .func (.func 13) #[] #[] := by rw [← hA]; kernel_rfl
     clear hA
     go_simp
     obtain ⟨T9, ⟨tk9, h9, h8⟩, _⟩ := hwk.both.fst
     obtain ⟨T7, lv7, ov7, tv7, hp, _⟩ := h9.wr hk HE.out
     have hok := tr_wok h8 HE.out
     obtain ⟨m1, m2, m3⟩ := tr_known h8 HE.out
     rw [m1] at hp
     refine (known_pw (me := k) hp (by have := hok.len; omega) (by omega) (by have := hok.few; omega) hok.took m3).mono ?_
     rintro e w7 ⟨v7, rfl, ho, hb⟩
     rw [m1] at m2
     rw [m2] at ho
     exact ⟨_, rfl, hwk.after hb, ho.lst⟩
    go_big_quiet_op
    refine wlb (some 128) w rfl (.pointer (some ⟨qw k, 0, none⟩)) rfl (by kernel_rfl) (fun wk hwk => ?_) ?_
    ·generalize hA : Act.eval _ = ρ
     have s7 : ρ (.tmp 7) = .pointer (some ⟨qw k, 0, none⟩) := by rw [← hA]; kernel_rfl
     clear hA
     go_simp
    go_big_quiet_op
    refine wlb (some 129) w rfl (.pointer (some ⟨qw k, 0, none⟩)) rfl (by kernel_rfl) (fun wk hwk => ?_) ?_
    ·generalize hA : Act.eval _ = ρ
     have s128 : ρ (.tmp 128) = .pointer (some ⟨qw k, 0, none⟩) := by rw [← hA]; kernel_rfl
     clear hA
     go_simp
    go_big_quiet_op
    refine wlb (some 130) w rfl (.pointer (some ⟨qw k, 3, none⟩)) rfl (by kernel_rfl) (fun wk hwk => ?_) ?_
    ·generalize hA : Act.eval _ = ρ
     have s129 : ρ (.tmp 129) = .pointer (some ⟨qw k, 0, none⟩) := by rw [← hA]; kernel_rfl
     clear hA
     go_simp
    go_big_quiet_op
    refine wlb (some 131) w rfl (bv) rfl (by kernel_rfl) (fun wk hwk => ?_) ?_
    ·generalize hA : Act.eval _ = ρ
     have s130 : ρ (.tmp 130) = .pointer (some ⟨qw k, 3, none⟩) := by rw [← hA]; kernel_rfl
     clear hA
     have c1 := hwk.sc.cells.base
     have hlt := hwk.sc.cells.lt
     go_simp
    go_big_quiet_op
    refine wls (some 132) w rfl rfl (by kernel_rfl) (fun u => u = .bool true) (fun u wk => BS w0 D G pw E F qw t (qw k) T bv ov r wk) (fun u wk => BS w0 D G pw E F qw t (qw k) T bv ov r wk) (⟨_, rfl⟩) (fun _ _ h => h) (fun _ _ h => h) (fun wk hwk => ?_) (fun u9 hu9 => ?_)
    ·generalize hA : Act.eval _ = ρ
     have s127 : ρ (.tmp 127) = v4 := by rw [← hA]; kernel_rfl
     have s131 : ρ (.tmp 131) = bv := by rw [← hA]; kernel_rfl
     have sf : ρ (.func 14) = .func (.func 14) #[] #[] := by rw [← hA]; kernel_rfl
     clear hA
     go_simp
     refine (sameChars_lst hwk.a1 hwk.bs.sc.ownB.lst (by have := HOK.out.base; omega) (by have := HOK.out.base; omega)).mono ?_
     rintro e w7 ⟨b7, rfl, hbe, hb⟩
     obtain rfl := hbe.2 rfl
     exact ⟨_, rfl, rfl, hwk.bs.after hb⟩
    subst hu9
    go_big_quiet_op
    refine wlb (some 133) w rfl (.bool false) rfl (by kernel_rfl) (fun wk hwk => ?_) ?_
    ·generalize hA : Act.eval _ = ρ
     have s132 : ρ (.tmp 132) = .bool true := by rw [← hA]; kernel_rfl
     clear hA
     go_simp
    go_big_quiet_op
    refine wlb (some 134) w rfl (.bool false) rfl (by kernel_rfl) (fun wk hwk => ?_) ?_
    ·generalize hA : Act.eval _ = ρ
     have s125 : ρ (.tmp 125) = .bool false := by rw [← hA]; kernel_rfl
     have k1 : ρ (.const (.bool true)) = .bool true := by rw [← hA]; kernel_rfl
     have s133 : ρ (.tmp 133) = .bool false := by rw [← hA]; kernel_rfl
     clear hA
     go_simp
    go_big_quiet_op
    refine wpLate_nil (fun w12 hw12 => ?_)
    have H12 : Hid (BothD w0 D G pw E F qw t t w12) := hw12.both
    clear hw12 HS
    go_wp2_with fail
    go_roundw
    case rel => exact ⟨n + 1, by omega, by first | go_num | (rw [← hkn]; go_num), H12.out⟩
    case measure => simp [intOf]; omega
  ·go_wp2_with fail
   go_ret
   exact ⟨rfl, HW.out⟩
end Go.Proofs.YtnabhdfodckpdacGreat
