/-
  A town by the document in memory: a book, scribes, and the town's own block; in the middle of a call, with boxes of the call's own. No walk.
-/
import Derived.Test.YtnabhdfodckpdacGreatHpRef
namespace Go.Proofs.YtnabhdfodckpdacGreat
open Go.RowKit
def scTh (base : Nat) (pw : Nat → Nat) (t : Twn) (k : Nat) : Th base := match t.ws k with
 | none => Th.no base
 | some r => Th.sc base (pw k) r
def tnCs (base D G : Nat) (pw : Nat → Nat) (t : Twn) (ex : Nat → Th base) (i : Nat) : Th base :=
 if i = 1 then Th.book base G t.b else if i = 6 then Th.tw base D G pw (hasW t) else if i < 6 then scTh base pw t (i - 2) else ex (i - 7)
section
variable {base D G : Nat} {pw : Nat → Nat} {t : Twn} {ex : Nat → Th base} {w w0 wk w' : World} {S : Nat → Prop}
theorem ts_book : tnCs base D G pw t ex 1 = Th.book base G t.b := rfl
theorem ts_tw : tnCs base D G pw t ex 6 = Th.tw base D G pw (hasW t) := rfl
theorem ts_sc {k : Nat} (hk : k < 4) : tnCs base D G pw t ex (2 + k) = scTh base pw t k := by
 unfold tnCs
 rw [if_neg (by omega), if_neg (by omega), if_pos (by omega), show 2 + k - 2 = k by omega]
theorem ts_ex (j : Nat) : tnCs base D G pw t ex (7 + j) = ex j := by
 unfold tnCs
 rw [if_neg (by omega), if_neg (by omega), if_neg (by omega), show 7 + j - 7 = j by omega]
def TnIn (base : Nat) (w0 : World) (S : Nat → Prop) (D G : Nat) (pw : Nat → Nat) (t : Twn) (ex : Nat → Th base) (wk : World) : Prop := Hq base (tnCs base D G pw t ex) w0 S wk
theorem tnIn_of {cs : Nat → Th base} (h : Hq base cs w0 S wk) (h1 : ∀ T, (cs 1).P wk T → (Th.book base G t.b).P wk T) (h6 : ∀ T, (cs 6).P wk T → (Th.tw base D G pw (hasW t)).P wk T) (hw : ∀ k, k < 4 → ∀ T, (cs (2 + k)).P wk T → (scTh base pw t k).P wk T) (he : ∀ j T, (cs (7 + j)).P wk T → (ex j).P wk T) : TnIn base w0 S D G pw t ex wk := by
 refine h.imp fun i hi T _ hp => ?_
 by_cases e1 : i = 1
 ·subst e1; exact h1 T hp
 by_cases e6 : i = 6
 ·subst e6; exact h6 T hp
 by_cases e : i < 6
 ·obtain ⟨k, rfl⟩ : ∃ k, i = 2 + k := ⟨i - 2, by omega⟩
  rw [ts_sc (by omega)]
  exact hw k (by omega) T hp
 ·obtain ⟨k, rfl⟩ : ∃ k, i = 7 + k := ⟨i - 7, by omega⟩
  rw [ts_ex]
  exact he k T hp
theorem TnIn.after (h : TnIn base w0 S D G pw t ex wk) (hb : Below wk.heap.size wk w') : TnIn base w0 S D G pw t ex w' := Hq.after h hb
theorem TnIn.cells (h : TnIn base w0 S D G pw t ex wk) : TwC wk D G pw (hasW t) := by
 obtain ⟨T, h1, _⟩ := Hq.get h (i := 6) (by omega)
 rw [ts_tw] at h1
 exact h1.2
theorem TnIn.book (h : TnIn base w0 S D G pw t ex wk) : ∃ T dv, BookAt wk base T G dv t.b ∧ ∀ b' w', BookTo wk base T G b' w' → TnIn base w0 S D G pw ⟨b', t.ws⟩ ex w' := by
 obtain ⟨T, h1, _, h3⟩ := Hq.turn h (i := 1) (by omega)
 rw [ts_book] at h1
 obtain ⟨dv, hl⟩ := h1
 refine ⟨T, dv, hl, fun b' w' ht => tnIn_of (h3 (Th.book base G b') w' ht.kept ht.at_) (fun T hp => ?_) (fun T hp => ?_) (fun k hk T hp => ?_) (fun j T hp => ?_)⟩
 ·rw [updT_same] at hp; exact hp
 ·rw [updT_other _ _ (by omega), ts_tw] at hp; exact hp
 ·rw [updT_other _ _ (by omega), ts_sc hk] at hp; exact hp
 ·rw [updT_other _ _ (by omega), ts_ex] at hp; exact hp
theorem scTh_set {b : Bk} {k : Nat} {r' : Wr} : scTh base pw ⟨b, setF t.ws k (some r')⟩  k = Th.sc base (pw k) r' := by
 unfold scTh
 show (match setF t.ws k (some r') k with | none => _ | some r => Th.sc base (pw k) r) = _
 rw [setF_same]
theorem scTh_other {b : Bk} {j k : Nat} {x : Option Wr} (h : j ≠ k) : scTh base pw ⟨b, setF t.ws k x⟩  j = scTh base pw t j := by
 unfold scTh
 show (match setF t.ws k x j with | none => _ | some r => Th.sc base (pw j) r) = _
 rw [setF_other _ _ (by omega)]
theorem TnIn.wr (h : TnIn base w0 S D G pw t ex wk) {k : Nat} (hk : k < 4) {r : Wr} (he : t.ws k = some r) :
 ∃ T bv ov, ScAt wk base T (pw k) bv ov r.base r.opens r.me r.seen r.next r.sent ∧ ∀ (r' : Wr) w', ScTo wk base T (pw k) r'.base r'.opens r'.me r'.seen r'.next r'.sent w' → TnIn base w0 S D G pw ⟨t.b, setF t.ws k (some r')⟩  ex w' := by
 obtain ⟨T, h1, _, h3⟩ := Hq.turn h (i := 2 + k) (by omega)
 rw [ts_sc hk] at h1
 unfold scTh at h1
 rw [he] at h1
 obtain ⟨bv, ov, hl⟩ := h1
 refine ⟨T, bv, ov, hl, fun r' w' ht => tnIn_of (h3 (Th.sc base (pw k) r') w' ht.kept ht.at_) (fun T hp => ?_) (fun T hp => ?_) (fun j hj T hp => ?_) (fun j T hp => ?_)⟩
 ·rw [updT_other _ _ (by omega), ts_book] at hp; exact hp
 ·rw [updT_other _ _ (by omega), ts_tw] at hp; rw [hasW_set he]; exact hp
 ·by_cases e : j = k
  ·subst e
   rw [updT_same] at hp; rw [scTh_set]; exact hp
  ·rw [updT_other _ _ (by omega), ts_sc hj] at hp; rw [scTh_other e]; exact hp
 ·rw [updT_other _ _ (by omega), ts_ex] at hp; exact hp
theorem TnIn.clear (h : TnIn base w0 S D G pw t ex wk) {k : Nat} (hk : k < 4) : TnIn base w0 S D G pw ⟨t.b, setF t.ws k none⟩ ex (wk.setCell ⟨D, 1 + k, none⟩ (.pointer none)) := by
 obtain ⟨T, h1, _, h3⟩ := Hq.turn h (i := 6) (by omega)
 rw [ts_tw] at h1
 refine tnIn_of (h3 (Th.tw base D G pw (clrH (hasW t) k)) _ (Kept.set (Kept.refl T wk) (p := ⟨D, 1 + k, none⟩) h1.1 _) ⟨.inl h1.1, h1.2.clear hk⟩) (fun T hp => ?_) (fun T hp => ?_) (fun j hj T hp => ?_) (fun j T hp => ?_)
 ·rw [updT_other _ _ (by omega), ts_book] at hp; exact hp
 ·rw [updT_same] at hp; rw [hasW_clr]; exact hp
 ·rw [updT_other _ _ (by omega), ts_sc hj] at hp
  by_cases e : j = k
  ·subst e
   unfold scTh
   show (match setF t.ws j none j with | none => Th.no base | some r => Th.sc base (pw j) r).P _ T
   rw [setF_same]; trivial
  ·unfold scTh at hp ⊢
   show (match setF t.ws k none j with | none => Th.no base | some r => Th.sc base (pw j) r).P _ T
   rw [setF_other _ _ (by omega)]; exact hp
 ·rw [updT_other _ _ (by omega), ts_ex] at hp; exact hp
theorem TnIn.newS (h : TnIn base w0 S D G pw t ex wk) (hb : Below wk.heap.size wk w') {k : Nat} (hk : k < 4) {P : Nat} {v1 : Value} {r : Wr} (hr : r.opens = []) (hs : r.sent = 0) (hat : ScAt w' wk.heap.size (fun k => wk.heap.size ≤ k ∧ k < w'.heap.size) P v1 (.slice none 0 0) r.base [] r.me r.seen r.next 0) :
 TnIn base w0 S D G (setN pw k P) ⟨t.b, setF t.ws k (some r)⟩ ex (w'.setCell ⟨D, 1 + k, none⟩ (.pointer (some ⟨P, 0, none⟩))) := by
 have hbl := Hq.base_le h
 have hat' : ∃ bv ov, ScAt w' base (fun k => wk.heap.size ≤ k ∧ k < w'.heap.size) P bv ov r.base r.opens r.me r.seen r.next r.sent := by
  rw [hr, hs]
  exact ⟨_, _, ⟨fun k e => ⟨by have := (hat.lo k e).1; omega, (hat.lo k e).2⟩, hat.hQ, hat.cells, hat.ownB.mono hbl, ownD_nil _ _, hat.bB, hat.oB⟩⟩
 have h2 := Hq.lay h hb (i := 2 + k) (by omega) (Th.sc base P r) hat'
 obtain ⟨T, h1, _, h3⟩ := h2.turn (i := 6) (by omega)
 rw [updT_other _ _ (by omega), ts_tw] at h1
 refine tnIn_of (h3 (Th.tw base D G (setN pw k P) (setH (hasW t) k)) _ (Kept.set (Kept.refl T w') (p := ⟨D, 1 + k, none⟩) h1.1 _) ⟨.inl h1.1, h1.2.put hk P⟩) (fun T hp => ?_) (fun T hp => ?_) (fun j hj T hp => ?_) (fun j T hp => ?_)
 ·rw [updT_other _ _ (by omega), updT_other _ _ (by omega), ts_book] at hp; exact hp
 ·rw [updT_same] at hp; rw [hasW_new]; exact hp
 ·by_cases e : j = k
  ·subst e
   rw [updT_other _ _ (by omega), updT_same] at hp
   rw [scTh_set]
   unfold setN
   rw [if_pos rfl]
   exact hp
  ·rw [updT_other _ _ (by omega), updT_other _ _ (by omega), ts_sc hj] at hp
   rw [scTh_other e]
   unfold scTh at hp ⊢
   cases he : t.ws j with
   | none => trivial
   | some r0 =>
    rw [he] at hp
    show (Th.sc base (setN pw k P j) r0).P _ T
    unfold setN
    rw [if_neg e]
    exact hp
 ·rw [updT_other _ _ (by omega), updT_other _ _ (by omega), ts_ex] at hp; exact hp
theorem TnIn.lay (h : TnIn base w0 S D G pw t ex wk) (hb : Below wk.heap.size wk w') (j : Nat) (c : Th base) (hc : c.P w' (fun k => wk.heap.size ≤ k ∧ k < w'.heap.size)) : TnIn base w0 S D G pw t (updT ex j c) w' := by
 refine tnIn_of (Hq.lay h hb (i := 7 + j) (by omega) c hc) (fun T hp => ?_) (fun T hp => ?_) (fun k hk T hp => ?_) (fun i T hp => ?_)
 ·rw [updT_other _ _ (by omega), ts_book] at hp; exact hp
 ·rw [updT_other _ _ (by omega), ts_tw] at hp; exact hp
 ·rw [updT_other _ _ (by omega), ts_sc hk] at hp; exact hp
 ·by_cases e : i = j
  ·subst e; rw [updT_same] at hp ⊢; exact hp
  ·rw [updT_other _ _ (by omega), ts_ex] at hp; rw [updT_other _ _ e]; exact hp
theorem TnIn.box (h : TnIn base w0 S D G pw t ex wk) (j : Nat) : ∃ T, (ex j).P wk T := by
 obtain ⟨T, h1, _⟩ := Hq.get h (i := 7 + j) (by omega)
 rw [ts_ex] at h1
 exact ⟨T, h1⟩
theorem TnIn.step (h : TnIn base w0 S D G pw t ex wk) (x : Tst) (j : Nat) : TnIn base w0 S D G pw t (updT ex j (Th.st base wk.heap.size x)) (wk.alloc (tsObj x)) :=
 h.lay (below1 _ _) j _ ⟨⟨Nat.le_refl _, by simp⟩, tsat_start wk x⟩
theorem TnIn.deed (h : TnIn base w0 S D G pw t ex wk) (d : Dd) (j : Nat) : TnIn base w0 S D G pw t (updT ex j (Th.dd base wk.heap.size d)) (wk.alloc (dObj d)) :=
 h.lay (below1 _ _) j _ ⟨⟨Nat.le_refl _, by simp⟩, ddat_start wk d, fun o ho => by rcases seven ho with rfl | rfl | rfl | rfl | rfl | rfl | rfl <;> simp [go_sem]⟩
theorem TnIn.deedAt {E j : Nat} {d : Dd} (h : TnIn base w0 S D G pw t (updT ex j (Th.dd base E d)) wk) : DdAt wk E 0 d ∧ ∀ o, o < 7 → wk.frozen? ⟨E, o, none⟩ = false := by
 obtain ⟨T, h1⟩ := h.box j
 rw [updT_same] at h1
 exact h1.2
theorem TnIn.stepAt {E j : Nat} {x : Tst} (h : TnIn base w0 S D G pw t (updT ex j (Th.st base E x)) wk) : TsAt wk E 0 x := by
 obtain ⟨T, h1⟩ := h.box j
 rw [updT_same] at h1
 exact h1.2
structure TnAt (base D G : Nat) (pw : Nat → Nat) (t : Twn) (w : World) (S : Nat → Prop) : Prop where
 lo : ∀ k, S k → base ≤ k ∧ k < w.heap.size
 own : ∃ ow, HpAt base (tnCs base D G pw t (fun _ => Th.no base)) ow w ∧ ∀ k, ow k ≠ 0 → S k
def TnTo (base : Nat) (w : World) (S : Nat → Prop) (D G : Nat) (pw : Nat → Nat) (t : Twn) (w' : World) : Prop := TnAt base D G pw t w' (grow S w w') ∧ Kept S w w'
theorem TnAt.start (h : TnAt base D G pw t w S) : TnIn base w S D G pw t (fun _ => Th.no base) w := by
 obtain ⟨ow, h1, h2⟩ := h.own
 exact ⟨ow, h1, fun k e => .inl (h2 k e), Kept.refl _ _⟩
theorem TnAt.base_le (h : TnAt base D G pw t w S) : base ≤ w.heap.size := by
 obtain ⟨ow, h1, h2⟩ := h.own
 exact h1.bs
theorem TnIn.bare (h : TnIn base w0 S D G pw t ex wk) : TnIn base w0 S D G pw t (fun _ => Th.no base) wk := by
 refine tnIn_of h (fun T hp => ?_) (fun T hp => ?_) (fun k hk T hp => ?_) (fun i T hp => trivial)
 ·rw [ts_book] at hp; exact hp
 ·rw [ts_tw] at hp; exact hp
 ·rw [ts_sc hk] at hp; exact hp
theorem TnIn.done (h : TnIn base w S D G pw t ex w') (hl : base ≤ w.heap.size ∧ ∀ k, S k → base ≤ k ∧ k < w.heap.size) : TnTo base w S D G pw t w' := by
 have hk := Hq.kept h
 have hs := hk.size
 obtain ⟨ow, h1⟩ := h.bare
 refine ⟨⟨fun k e => ?_, ow, h1.at_, h1.old⟩, hk⟩
 rcases e with e | e
 ·have := hl.2 k e; omega
 ·omega
theorem TnAt.held (h : TnAt base D G pw t w S) : base ≤ w.heap.size ∧ ∀ k, S k → base ≤ k ∧ k < w.heap.size := ⟨h.base_le, h.lo⟩
end
def Th.tn (base D G : Nat) (pw : Nat → Nat) (t : Twn) : Th base :=
 ⟨fun w S => TnAt base D G pw t w S, fun {w w' S T} _ h hk hd => by
  obtain ⟨ow, h1, h2⟩ := h.own
  have hs := hk.size
  refine ⟨fun k e => ⟨(h.lo k e).1, Nat.lt_of_lt_of_le (h.lo k e).2 hs⟩, ow, ⟨fun k e => ⟨(h1.lo k e).1, Nat.lt_of_lt_of_le (h1.lo k e).2 hs⟩, Nat.le_trans h1.bs hs, fun i hi => ?_⟩, h2⟩
  exact (tnCs base D G pw t (fun _ => Th.no base) i).kept (fun k e => h1.lo k (by rw [e]; exact hi)) (h1.at_ i hi) hk (fun k e => hd k (h2 k (by rw [e]; exact hi))), fun {w S T} h hT hl => by
  obtain ⟨ow, h1, h2⟩ := h.own
  exact ⟨hl, ow, h1, fun k e => hT k (h2 k e)⟩⟩
theorem TnIn.call {base D G : Nat} {pw : Nat → Nat} {t : Twn} {ex : Nat → Th base} {w0 wk : World} {S : Nat → Prop} (h : TnIn base w0 S D G pw t ex wk) :
 ∃ T, TnAt base D G pw t wk T ∧ ∀ pw' t' w', TnTo base wk T D G pw' t' w' → TnIn base w0 S D G pw' t' ex w' := by
 obtain ⟨ow, h⟩ := h
 have hat := h.at_
 refine ⟨fun k => ow k ≠ 0 ∧ ow k < 7, ⟨fun k e => hat.lo k e.1, fun k => if ow k < 7 then ow k else 0, ⟨fun k e => ?_, hat.bs, fun i hi => ?_⟩, fun k e => ?_⟩, fun pw' t' w' ht => ?_⟩
 ·by_cases h7 : ow k < 7
  ·rw [if_pos h7] at e; exact hat.lo k e
  ·rw [if_neg h7] at e; exact absurd rfl e
 ·by_cases h7 : i < 7
  ·have h1 : (tnCs base D G pw t (fun _ => Th.no base) i).P wk (fun k => ow k = i) := by
    have h2 := hat.at_ i hi
    unfold tnCs at h2 ⊢
    by_cases e1 : i = 1
    ·rw [if_pos e1] at h2 ⊢; exact h2
    rw [if_neg e1] at h2 ⊢
    by_cases e6 : i = 6
    ·rw [if_pos e6] at h2 ⊢; exact h2
    rw [if_neg e6] at h2 ⊢
    rw [if_pos (by omega)] at h2 ⊢
    exact h2
   refine (tnCs base D G pw t (fun _ => Th.no base) i).mono h1 (fun k e => ?_) (fun k e => ?_)
   ·rw [if_pos (by omega)]; exact e
   ·by_cases h7 : ow k < 7
    ·rw [if_pos h7] at e; exact hat.lo k (by omega)
    ·rw [if_neg h7] at e; omega
  ·obtain ⟨j, rfl⟩ : ∃ j, i = 7 + j := ⟨i - 7, by omega⟩
   rw [ts_ex]
   trivial
 ·have e : (if ow k < 7 then ow k else 0) ≠ 0 := e
  by_cases h7 : ow k < 7
  ·rw [if_pos h7] at e; exact ⟨e, h7⟩
  ·rw [if_neg h7] at e; exact absurd rfl e
 ·obtain ⟨hd, hk⟩ := ht
  obtain ⟨ow2, h2, h3⟩ := hd.own
  have hs := hk.size
  have hs0 := h.kept.size
  have ap : ∀ k, 7 ≤ ow k → ow2 k = 0 := fun k e => by
   by_cases hz : ow2 k = 0
   ·exact hz
   ·have hlt := (hat.lo k (by omega)).2
    rcases h3 k hz with x | x
    ·omega
    ·omega
  have hlo : ∀ k, (if 7 ≤ ow k then ow k else if ow2 k < 7 then ow2 k else 0) ≠ 0 → base ≤ k ∧ k < w'.heap.size := fun k e => by
   by_cases h7 : 7 ≤ ow k
   ·have := hat.lo k (by omega); omega
   ·rw [if_neg h7] at e
    by_cases h8 : ow2 k < 7
    ·rw [if_pos h8] at e; exact h2.lo k e
    ·rw [if_neg h8] at e; exact absurd rfl e
  refine ⟨fun k => if 7 ≤ ow k then ow k else if ow2 k < 7 then ow2 k else 0, ⟨hlo, h2.bs, fun i hi => ?_⟩, fun k e => ?_, h.kept.trans (hk.wider (fun k e => h.old k e.1))⟩
  ·by_cases h7 : i < 7
   ·have h1 : (tnCs base D G pw' t' ex i).P w' (fun k => ow2 k = i) := by
     have h4 := h2.at_ i hi
     unfold tnCs at h4 ⊢
     by_cases e1 : i = 1
     ·rw [if_pos e1] at h4 ⊢; exact h4
     rw [if_neg e1] at h4 ⊢
     by_cases e6 : i = 6
     ·rw [if_pos e6] at h4 ⊢; exact h4
     rw [if_neg e6] at h4 ⊢
     rw [if_pos (by omega)] at h4 ⊢
     exact h4
    refine (tnCs base D G pw' t' ex i).mono h1 (fun k e => ?_) (fun k e => hlo k (by rw [e]; exact hi))
    have : ¬ 7 ≤ ow k := fun x => by have := ap k x; omega
    rw [if_neg this, if_pos (by omega)]; exact e
   ·obtain ⟨j, rfl⟩ : ∃ j, i = 7 + j := ⟨i - 7, by omega⟩
    have h4 := hat.at_ (7 + j) hi
    rw [ts_ex] at h4 ⊢
    have h5 := (ex j).kept (fun k e => hat.lo k (by omega)) h4 hk (fun k e x => by omega)
    refine (ex j).mono h5 (fun k e => ?_) (fun k e => hlo k (by omega))
    rw [if_pos (by omega)]; exact e
  ·by_cases h7 : 7 ≤ ow k
   ·rcases h.old k (by omega) with x | x
    ·exact .inl x
    ·exact .inr ⟨x.1, by omega⟩
   ·rw [if_neg h7] at e
    have hz : ow2 k ≠ 0 := fun x => by rw [x] at e; exact e rfl
    rcases h3 k hz with x | x
    ·rcases h.old k x.1 with y | y
     ·exact .inl y
     ·exact .inr ⟨y.1, by omega⟩
    ·exact .inr ⟨by omega, x.2⟩
section
variable {base D G : Nat} {pw : Nat → Nat} {t : Twn} {ex : Nat → Th base} {w w0 wk w' : World} {S : Nat → Prop}
theorem TnIn.ne (h : TnIn base w0 S D G pw t ex wk) : D ≠ G := by
 obtain ⟨ow, h⟩ := h
 have h1 := h.at_.at_ 1 (by omega)
 have h6 := h.at_.at_ 6 (by omega)
 rw [ts_book] at h1
 rw [ts_tw] at h6
 obtain ⟨dv, hb⟩ := h1
 have e1 : ow G = 1 := hb.hB
 have e6 : ow D = 6 := h6.1
 intro e
 rw [e, e1] at e6
 omega
theorem TnIn.stepAt1 {E F : Nat} {x : Tst} {d : Dd} (h : TnIn base w0 S D G pw t (updT (updT ex 0 (Th.st base E x)) 1 (Th.dd base F d)) wk) : TsAt wk E 0 x := by
 obtain ⟨T, h1⟩ := h.box 0
 rw [updT_other _ _ (by omega), updT_same] at h1
 exact h1.2
def TnOw (base : Nat) (w0 : World) (S : Nat → Prop) (D G : Nat) (pw : Nat → Nat) (t : Twn) (ex : Nat → Th base) (ow : Nat → Nat) (dv : Value) (wk : World) : Prop := HqAt base (tnCs base D G pw t ex) w0 S ow wk ∧ BookAt wk base (fun k => ow k = 1) G dv t.b
theorem TnIn.owned (h : TnIn base w0 S D G pw t ex wk) : ∃ ow dv, TnOw base w0 S D G pw t ex ow dv wk := by
 obtain ⟨ow, h⟩ := h
 have h1 := h.at_.at_ 1 (by omega)
 rw [ts_book] at h1
 obtain ⟨dv, hb⟩ := h1
 exact ⟨ow, dv, h, hb⟩
theorem TnOw.tn {ow : Nat → Nat} {dv : Value} (h : TnOw base w0 S D G pw t ex ow dv wk) : TnIn base w0 S D G pw t ex wk := ⟨ow, h.1⟩
theorem TnOw.after {ow : Nat → Nat} {dv : Value} (h : TnOw base w0 S D G pw t ex ow dv wk) (hb : Below wk.heap.size wk w') : TnOw base w0 S D G pw t ex ow dv w' := by
 have hs := hb.size
 have h0 := h.1
 refine ⟨⟨⟨fun k e => ⟨(h0.at_.lo k e).1, Nat.lt_of_lt_of_le (h0.at_.lo k e).2 hs⟩, Nat.le_trans h0.at_.bs hs, fun i hi => ?_⟩, fun k e => ?_, h0.kept.after hb⟩, h.2.below hb⟩
 ·exact (tnCs base D G pw t ex i).kept (fun k e => h0.at_.lo k (by rw [e]; exact hi)) (h0.at_.at_ i hi) (Kept.of_below (S := fun _ => False) hb) (fun _ _ e => e)
 ·rcases h0.old k e with x | x
  ·exact .inl x
  ·exact .inr ⟨x.1, by omega⟩
theorem TnOw.wr {ow : Nat → Nat} {dv : Value} (h : TnOw base w0 S D G pw t ex ow dv wk) {k : Nat} (hk : k < 4) {r : Wr} (he : t.ws k = some r) :
 ∃ bv ov, ScAt wk base (fun j => ow j = 2 + k) (pw k) bv ov r.base r.opens r.me r.seen r.next r.sent ∧ ∀ (r' : Wr) w', ScTo wk base (fun j => ow j = 2 + k) (pw k) r'.base r'.opens r'.me r'.seen r'.next r'.sent w' → TnIn base w0 S D G pw ⟨t.b, setF t.ws k (some r')⟩ ex w' ∧ BookAt w' base (fun j => ow j = 1) G dv t.b := by
 have h1 := h.1.at_.at_ (2 + k) (by omega)
 rw [ts_sc hk] at h1
 unfold scTh at h1
 rw [he] at h1
 obtain ⟨bv, ov, hl⟩ := h1
 refine ⟨bv, ov, hl, fun r' w' ht => ⟨?_, h.2.kept ht.kept (fun j e1 e2 => by omega)⟩⟩
 have h2 : HqAt base (updT (tnCs base D G pw t ex) (2 + k) (Th.sc base (pw k) r')) w0 S (moreT ow (2 + k) wk w') w' := by
  have hs := ht.kept.size
  have hs0 := h.1.kept.size
  refine ⟨h.1.at_.turn (by omega) ht.kept ht.at_, fun j e => ?_, h.1.kept.trans (ht.kept.wider (fun j e => h.1.old j (by rw [e]; omega)))⟩
  unfold moreT at e
  by_cases h1 : j < wk.heap.size
  ·rw [if_pos h1] at e
   rcases h.1.old j e with x | x
   ·exact .inl x
   ·exact .inr ⟨x.1, by omega⟩
  ·rw [if_neg h1] at e
   by_cases h2 : j < w'.heap.size
   ·exact .inr ⟨by omega, h2⟩
   ·rw [if_neg h2] at e; exact absurd rfl e
 refine tnIn_of ⟨_, h2⟩ (fun T hp => ?_) (fun T hp => ?_) (fun j hj T hp => ?_) (fun j T hp => ?_)
 ·rw [updT_other _ _ (by omega), ts_book] at hp; exact hp
 ·rw [updT_other _ _ (by omega), ts_tw] at hp; rw [hasW_set he]; exact hp
 ·by_cases e : j = k
  ·subst e
   rw [updT_same] at hp; rw [scTh_set]; exact hp
  ·rw [updT_other _ _ (by omega), ts_sc hj] at hp; rw [scTh_other e]; exact hp
 ·rw [updT_other _ _ (by omega), ts_ex] at hp; exact hp
end
end Go.Proofs.YtnabhdfodckpdacGreat

/-
  What a writer at its desk does, told of the town: Put, Take, Send, Hear, Clear, with what it keeps.
-/
namespace Go.Proofs.YtnabhdfodckpdacGreat
open Go Go.RowKit
theorem setF_set {α : Type} (f : Int → α) (v : Int) (x y : α) : setF (setF f v x) v y = setF f v y := by
 funext k
 by_cases e : k = v
 ·subst e; rw [setF_same, setF_same]
 ·rw [setF_other _ _ e, setF_other _ _ e, setF_other _ _ e]
theorem does_list (r : Wr) (e : Dd) : (doesW r e).list = doL r.list e openN := by
 show onTop r.base (r.opens ++ [e]) = doL (onTop r.base r.opens) e openN
 rw [onTop_snoc]
theorem clear_list {t : Twn} {tk : Int → List (List Ch)} (h : TR t tk) {v : Int} {r : Wr} (he : t.ws v = some r) : (clearW r (leastFor t.b r.seen)).list = ofL (leastFor t.b r.seen) r.list := by
 obtain ⟨_, c, hi⟩ := h.ti.wi v r he
 obtain ⟨l1, l2⟩ := least_for t.b r.seen
 obtain ⟨_, _, h2⟩ := hi.clears h.ti.good l1 l2
 exact h2
def spokeTo (b : Bk) (seen j : Nat) : Int := ((b.ds.drop seen).take j).foldl (fun n d => if d.seen < n then d.seen else n) (leastL b)
theorem spoke_succ {b : Bk} {seen j : Nat} (h : seen + j < b.ds.length) : spokeTo b seen (j + 1) = min (spokeTo b seen j) b.ds[seen + j].seen := by
 have hj : j < (b.ds.drop seen).length := by rw [List.length_drop]; omega
 unfold spokeTo
 rw [take_snocD _ _ hj, List.foldl_append, List.getElem_drop]
 show (if b.ds[seen + j].seen < _ then _ else _) = _
 generalize List.foldl (fun n (d : Dd) => if d.seen < n then d.seen else n) (leastL b) (List.take j (List.drop seen b.ds)) = m
 generalize b.ds[seen + j].seen = n
 split <;> omega
theorem spoke_all {b : Bk} {seen j : Nat} (h : b.ds.length ≤ seen + j) : spokeTo b seen j = leastFor b seen := by
 unfold spokeTo leastFor
 rw [List.take_of_length_le (by rw [List.length_drop]; omega)]
theorem hear_pw {t : Twn} {tk : Int → List (List Ch)} (h : TR t tk) {v : Int} {r : Wr} (he : t.ws v = some r) {d : Dd} (hd : t.b.ds[r.seen]? = some d) {w : World} {base P : Nat} {S : Nat → Prop} {lv ov : Value} {tvs : List Value} (hp : PwAt w base S P lv ov tvs r.list r.opens (tk v) r.me r.next r.seen r.sent) :
 Calls Tryz.prog 32 #[.pointer (some ⟨P, 0, none⟩), ddV d] w fun e w' => e = .returned (.int .i64 (hearC r d)) ∧ (hearC r d = 0 → PwTo w base S P (hearW r d).list (hearW r d).opens (heardK r d (tk v)) (hearW r d).me (hearW r d).next (hearW r d).seen (hearW r d).sent w') ∧ (hearC r d ≠ 0 → Below w.heap.size w w') := by
 have ho := tr_wok h he
 obtain ⟨hm, c, hi⟩ := h.ti.wi v r he
 have hr := h.rel v r he
 have hg := h.ti.good
 obtain ⟨hl, rfl⟩ := List.getElem?_eq_some_iff.1 hd
 have h1 := ho.len
 have h2 := ho.few
 have h3 := ho.seen
 by_cases hb : t.b.ds[r.seen].by_ = r.me
 ·obtain ⟨es, hes, hsn⟩ := hi.own_first hl hb
  have hc : hearC r t.b.ds[r.seen] = 0 := by
   rw [hearC, if_neg (fun x => x hb), if_pos (by rw [hes]; rfl)]
  have htl := ho.tlen
  have hsl := hi.sent
  cases htk : tk v with
  | nil => rw [htk, hes] at htl; simp at htl
  | cons u us =>
   rw [htk] at hp hr
   obtain ⟨s, hss⟩ : ∃ s, r.sent = s + 1 := ⟨r.sent - 1, by omega⟩
   obtain ⟨_, r2⟩ := hr.hears_own hi hg hl hes
   have e1 : (hearW r t.b.ds[r.seen]) = ⟨r.me, r.seen + 1, r.next, doL r.base t.b.ds[r.seen] ((r.seen : Int) + 1), es, s⟩ := by
    rw [hearW, if_neg (fun x => x hb), hes, hss]; rfl
   have e2 : heardK r t.b.ds[r.seen] (u :: us) = us.map fun u => u.map (numF t.b.ds[r.seen].no ((r.seen : Int) + 1)) := by
    rw [heardK, if_neg (fun x => x hb)]; rfl
   have e3 : Wr.list ⟨r.me, r.seen + 1, r.next, doL r.base t.b.ds[r.seen] ((r.seen : Int) + 1), es, s⟩ = r.list.map (ackF t.b.ds[r.seen].no ((r.seen : Int) + 1) u) := r2
   rw [hes, hss] at hp
   have hes2 : es.length ≤ 1000 := by rw [hes] at h2; simp at h2; omega
   have hst : s ≤ 1000 := by rw [hes] at h2 hsl; simp at h2 hsl; omega
   refine (heard_own (sent := s) (by simpa using hp) hb (by omega) hes2 (by rw [← htk]; exact ho.took) (by omega) hst).mono ?_
   rintro e w' ⟨rfl, hto⟩
   rw [hc, e1, e2]
   refine ⟨rfl, fun _ => ?_, fun x => absurd rfl x⟩
   rw [e3]
   simpa using hto
 ·have hc : hearC r t.b.ds[r.seen] = doC r.list t.b.ds[r.seen] ((r.seen : Int) + 1) := by rw [hearC, if_pos hb]
  have e1 : (hearW r t.b.ds[r.seen]) = ⟨r.me, r.seen + 1, r.next, doL r.base t.b.ds[r.seen] ((r.seen : Int) + 1), r.opens, r.sent⟩ := by rw [hearW, if_pos hb]
  have e2 : heardK r t.b.ds[r.seen] (tk v) = tk v := by rw [heardK, if_pos hb]
  obtain ⟨_, q2⟩ := hi.hears_other hg hl hb
  refine (hears_pw hp (by omega) ho.fits (by omega) _ hb).mono ?_
  rintro e w' ⟨rfl, h0, hn⟩
  rw [hc]
  refine ⟨rfl, fun hz => ?_, hn⟩
  rw [e1, e2]
  have e3 : Wr.list ⟨r.me, r.seen + 1, r.next, doL r.base t.b.ds[r.seen] ((r.seen : Int) + 1), r.opens, r.sent⟩ = doL r.list t.b.ds[r.seen] ((r.seen : Int) + 1) := (q2 hz).1.symm
  rw [e3]
  simpa using h0 hz
end Go.Proofs.YtnabhdfodckpdacGreat
