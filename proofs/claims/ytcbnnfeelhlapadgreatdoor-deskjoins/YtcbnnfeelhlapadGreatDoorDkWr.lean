/-
  Desks in memory: a log, writers, and the desks' own block; in the middle of a call, with boxes of the call's own. No walk.
-/
import Derived.Test.YtcbnnfeelhlapadGreatDoorTRel
import Derived.Test.YtcbnnfeelhlapadGreatDoorFLate
namespace Go.Proofs.YtcbnnfeelhlapadGreatDoor
open Go.RowKit
theorem tr_wok {t : Twn} {tk : Int → List (List Ch)} (h : TR t tk) {v : Int} {r : Wr} (he : t.ws v = some r) : WOk r (tk v) := by
 obtain ⟨_, c, hw⟩ := h.ti.wi v r he
 have hr := h.rel v r he
 have hg := h.ti.good
 have h1 := hw.small hg
 exact ⟨hw.full, hw.fits hg, hw.few hr hg, hr.n1, hr.n2, hw.topOk hg, (hw.ok hg).2, tame_of hw hg, hr.took_len hw.full (hw.list_eq hg).1, by omega, tkTop_len hr.tk⟩
structure TwC (w : World) (T B : Nat) (sc : Nat → Nat) (hs : Nat → Bool) : Prop where
 lt : T < w.heap.size
 book : w.cell? ⟨T, 0, none⟩ = some (.pointer (some ⟨B, 0, none⟩))
 ws : ∀ k, k < 4 → w.cell? ⟨T, 1 + k, none⟩ = some (ptrOf (hs k) (sc k))
 free : ∀ o, o < 5 → w.frozen? ⟨T, o, none⟩ = false
theorem TwC.kept {w w' : World} {T B : Nat} {sc : Nat → Nat} {hs : Nat → Bool} (h : TwC w T B sc hs) (hz : w.heap.size ≤ w'.heap.size) (hb : w'.heap[T]? = w.heap[T]?) : TwC w' T B sc hs := by
 have hc : ∀ o, w'.cell? ⟨T, o, none⟩ = w.cell? ⟨T, o, none⟩ := fun o => World.cell?_of_block (a := ⟨T, o, none⟩) hb
 have hf : ∀ o, w'.frozen? ⟨T, o, none⟩ = w.frozen? ⟨T, o, none⟩ := fun o => World.frozen?_of_block (a := ⟨T, o, none⟩) hb
 exact ⟨Nat.lt_of_lt_of_le h.lt hz, by rw [hc]; exact h.book, fun k hk => by rw [hc]; exact h.ws k hk, fun o ho => by rw [hf]; exact h.free o ho⟩
theorem TwC.put {w : World} {T B : Nat} {sc : Nat → Nat} {hs : Nat → Bool} (h : TwC w T B sc hs) {k : Nat} (hk : k < 4) (Q : Nat) : TwC (w.setCell ⟨T, 1 + k, none⟩ (.pointer (some ⟨Q, 0, none⟩))) T B (setN sc k Q) (setH hs k) := by
 have hl := h.book
 refine ⟨by simpa using h.lt, ?_, fun j hj => ?_, fun o ho => ?_⟩
 ·simp [go_sem, hl]
 ·have h1 := h.ws j hj
  by_cases e : j = k
  ·subst e
   simp [go_sem, h1, setN, setH, ptrOf]
  ·simp [go_sem, h1, setN, setH, e]
 ·simpa [go_sem] using h.free o ho
def clrH (f : Nat → Bool) (k : Nat) : Nat → Bool := fun j => if j = k then false else f j
theorem TwC.clear {w : World} {T B : Nat} {sc : Nat → Nat} {hs : Nat → Bool} (h : TwC w T B sc hs) {k : Nat} (hk : k < 4) : TwC (w.setCell ⟨T, 1 + k, none⟩ (.pointer none)) T B sc (clrH hs k) := by
 have hl := h.book
 refine ⟨by simpa using h.lt, ?_, fun j hj => ?_, fun o ho => ?_⟩
 ·simp [go_sem, hl]
 ·have h1 := h.ws j hj
  by_cases e : j = k
  ·subst e
   simp [go_sem, h1, clrH, ptrOf]
  ·simp [go_sem, h1, clrH, e]
 ·simpa [go_sem] using h.free o ho
def Th.tw (base T B : Nat) (sc : Nat → Nat) (hs : Nat → Bool) : Th base := Th.blk base T (fun w => TwC w T B sc hs) (fun _ _ hz hb h => h.kept hz hb)
structure TsAt (w : World) (B o : Nat) (x : Tst) : Prop where
 lt : B < w.heap.size
 c0 : w.cell? ⟨B, o, none⟩ = some (.int .i64 x.kind)
 c1 : w.cell? ⟨B, o + 1, none⟩ = some (.int .i64 x.w)
 c2 : w.cell? ⟨B, o + 2, none⟩ = some (.int .i64 x.at_)
 c3 : w.cell? ⟨B, o + 3, none⟩ = some (.int .i64 x.many)
 c4 : w.cell? ⟨B, o + 4, none⟩ = some (.string x.text)
abbrev tsCells (x : Tst) : Array Value := #[.int .i64 x.kind, .int .i64 x.w, .int .i64 x.at_, .int .i64 x.many, .string x.text]
abbrev tsV (x : Tst) : Value := .agg (tsCells x)
abbrev tsObj (x : Tst) : Obj := .cells (tsCells x) 74
theorem tsat_start (w : World) (x : Tst) : TsAt (w.alloc (tsObj x)) w.heap.size 0 x := by
 refine ⟨by simp, ?_, ?_, ?_, ?_, ?_⟩ <;> simp [go_sem]
theorem TsAt.of_block {w w' : World} {B o : Nat} {x : Tst} (h : TsAt w B o x) (hs : B < w'.heap.size) (hb : w'.heap[B]? = w.heap[B]?) : TsAt w' B o x := by
 have hc : ∀ o, w'.cell? ⟨B, o, none⟩ = w.cell? ⟨B, o, none⟩ := fun o => World.cell?_of_block (a := ⟨B, o, none⟩) hb
 exact ⟨hs, by rw [hc]; exact h.c0, by rw [hc]; exact h.c1, by rw [hc]; exact h.c2, by rw [hc]; exact h.c3, by rw [hc]; exact h.c4⟩
theorem TsAt.below {w w' : World} {B o : Nat} {x : Tst} (h : TsAt w B o x) (hb : Below w.heap.size w w') : TsAt w' B o x := h.of_block (Nat.lt_of_lt_of_le h.lt hb.size) (hb.block _ h.lt)
def Th.st (base B : Nat) (x : Tst) : Th base := Th.blk base B (fun w => TsAt w B 0 x) (fun _ _ hz hb h => h.of_block (Nat.lt_of_lt_of_le h.lt hz) hb)
def Th.dd (base B : Nat) (d : Dd) : Th base := Th.blk base B (fun w => DdAt w B 0 d ∧ ∀ o, o < 7 → w.frozen? ⟨B, o, none⟩ = false) (fun _ _ hz hb h => ⟨h.1.of_block (Nat.lt_of_lt_of_le h.1.lt hz) hb, fun o ho => by rw [World.frozen?_of_block (a := ⟨B, o, none⟩) hb]; exact h.2 o ho⟩)
def twn0 : Twn := ⟨Bk.empty, fun _ => none⟩
def hasW (t : Twn) : Nat → Bool := fun k => (t.ws k).isSome
def wrTh (base : Nat) (pw : Nat → Nat) (t : Twn) (tk : Int → List (List Ch)) (k : Nat) : Th base := match t.ws k with
 | none => Th.no base
 | some r => Th.pw base (pw k) r (tk k)
def dkCs (base D G : Nat) (pw : Nat → Nat) (t : Twn) (tk : Int → List (List Ch)) (ex : Nat → Th base) (i : Nat) : Th base :=
 if i = 1 then Th.log base G t.b else if i = 6 then Th.tw base D G pw (hasW t) else if i < 6 then wrTh base pw t tk (i - 2) else ex (i - 7)
section
variable {base D G : Nat} {pw : Nat → Nat} {t : Twn} {tk : Int → List (List Ch)} {ex : Nat → Th base} {w w0 wk w' : World} {S : Nat → Prop}
theorem cs_log : dkCs base D G pw t tk ex 1 = Th.log base G t.b := rfl
theorem cs_tw : dkCs base D G pw t tk ex 6 = Th.tw base D G pw (hasW t) := rfl
theorem cs_wr {k : Nat} (hk : k < 4) : dkCs base D G pw t tk ex (2 + k) = wrTh base pw t tk k := by
 unfold dkCs
 rw [if_neg (by omega), if_neg (by omega), if_pos (by omega), show 2 + k - 2 = k by omega]
theorem cs_ex (j : Nat) : dkCs base D G pw t tk ex (7 + j) = ex j := by
 unfold dkCs
 rw [if_neg (by omega), if_neg (by omega), if_neg (by omega), show 7 + j - 7 = j by omega]
def DkIn (base : Nat) (w0 : World) (S : Nat → Prop) (D G : Nat) (pw : Nat → Nat) (t : Twn) (tk : Int → List (List Ch)) (ex : Nat → Th base) (wk : World) : Prop := Hq base (dkCs base D G pw t tk ex) w0 S wk
theorem dkIn_of {cs : Nat → Th base} (h : Hq base cs w0 S wk) (h1 : ∀ T, (cs 1).P wk T → (Th.log base G t.b).P wk T) (h6 : ∀ T, (cs 6).P wk T → (Th.tw base D G pw (hasW t)).P wk T) (hw : ∀ k, k < 4 → ∀ T, (cs (2 + k)).P wk T → (wrTh base pw t tk k).P wk T) (he : ∀ j T, (cs (7 + j)).P wk T → (ex j).P wk T) : DkIn base w0 S D G pw t tk ex wk := by
 refine h.imp fun i hi T _ hp => ?_
 by_cases e1 : i = 1
 ·subst e1; exact h1 T hp
 by_cases e6 : i = 6
 ·subst e6; exact h6 T hp
 by_cases e : i < 6
 ·obtain ⟨k, rfl⟩ : ∃ k, i = 2 + k := ⟨i - 2, by omega⟩
  rw [cs_wr (by omega)]
  exact hw k (by omega) T hp
 ·obtain ⟨k, rfl⟩ : ∃ k, i = 7 + k := ⟨i - 7, by omega⟩
  rw [cs_ex]
  exact he k T hp
theorem DkIn.after (h : DkIn base w0 S D G pw t tk ex wk) (hb : Below wk.heap.size wk w') : DkIn base w0 S D G pw t tk ex w' := Hq.after h hb
theorem DkIn.cells (h : DkIn base w0 S D G pw t tk ex wk) : TwC wk D G pw (hasW t) := by
 obtain ⟨T, h1, _⟩ := Hq.get h (i := 6) (by omega)
 rw [cs_tw] at h1
 exact h1.2
theorem DkIn.log (h : DkIn base w0 S D G pw t tk ex wk) : ∃ T dv lv, LogAt wk base T G dv lv t.b ∧ ∀ b' w', LogTo wk base T G b' w' → DkIn base w0 S D G pw ⟨b', t.ws⟩ tk ex w' := by
 obtain ⟨T, h1, _, h3⟩ := Hq.turn h (i := 1) (by omega)
 rw [cs_log] at h1
 obtain ⟨dv, lv, hl⟩ := h1
 refine ⟨T, dv, lv, hl, fun b' w' ht => dkIn_of (h3 (Th.log base G b') w' ht.kept ht.at_) (fun T hp => ?_) (fun T hp => ?_) (fun k hk T hp => ?_) (fun j T hp => ?_)⟩
 ·rw [updT_same] at hp; exact hp
 ·rw [updT_other _ _ (by omega), cs_tw] at hp; exact hp
 ·rw [updT_other _ _ (by omega), cs_wr hk] at hp; exact hp
 ·rw [updT_other _ _ (by omega), cs_ex] at hp; exact hp
theorem hasW_set {t : Twn} {b : Bk} {k : Nat} {r r' : Wr} (he : t.ws k = some r) : hasW ⟨b, setF t.ws k (some r')⟩ = hasW t := by
 funext j
 unfold hasW
 show (setF t.ws k (some r') j).isSome = (t.ws j).isSome
 by_cases e : (j : Int) = k
 ·rw [e, setF_same, he]; rfl
 ·rw [setF_other _ _ e]
theorem hasW_new (t : Twn) (b : Bk) (k : Nat) (r' : Wr) : hasW ⟨b, setF t.ws k (some r')⟩ = setH (hasW t) k := by
 funext j
 unfold hasW setH
 show (setF t.ws k (some r') j).isSome = _
 by_cases e : j = k
 ·subst e; rw [setF_same, if_pos rfl]; rfl
 ·rw [setF_other _ _ (by omega), if_neg e]
theorem hasW_clr (t : Twn) (b : Bk) (k : Nat) : hasW ⟨b, setF t.ws k none⟩ = clrH (hasW t) k := by
 funext j
 unfold hasW clrH
 show (setF t.ws k none j).isSome = _
 by_cases e : j = k
 ·subst e; rw [setF_same, if_pos rfl]; rfl
 ·rw [setF_other _ _ (by omega), if_neg e]
theorem wrTh_set {b : Bk} {k : Nat} {r' : Wr} {ts' : List (List Ch)} : wrTh base pw ⟨b, setF t.ws k (some r')⟩ (setF tk k ts') k = Th.pw base (pw k) r' ts' := by
 unfold wrTh
 show (match setF t.ws k (some r') k with | none => _ | some r => Th.pw base (pw k) r (setF tk k ts' k)) = _
 rw [setF_same, setF_same]
theorem wrTh_other {b : Bk} {j k : Nat} {x : Option Wr} {ts' : List (List Ch)} (h : j ≠ k) : wrTh base pw ⟨b, setF t.ws k x⟩ (setF tk k ts') j = wrTh base pw t tk j := by
 unfold wrTh
 show (match setF t.ws k x j with | none => _ | some r => Th.pw base (pw j) r (setF tk k ts' j)) = _
 rw [setF_other _ _ (by omega), setF_other _ _ (by omega)]
theorem DkIn.wr (h : DkIn base w0 S D G pw t tk ex wk) {k : Nat} (hk : k < 4) {r : Wr} (he : t.ws k = some r) :
 ∃ T lv ov tvs, PwAt wk base T (pw k) lv ov tvs r.list r.opens (tk k) r.me r.next r.seen r.sent ∧ ∀ (r' : Wr) (ts' : List (List Ch)) w', PwTo wk base T (pw k) r'.list r'.opens ts' r'.me r'.next r'.seen r'.sent w' → DkIn base w0 S D G pw ⟨t.b, setF t.ws k (some r')⟩ (setF tk k ts') ex w' := by
 obtain ⟨T, h1, _, h3⟩ := Hq.turn h (i := 2 + k) (by omega)
 rw [cs_wr hk] at h1
 unfold wrTh at h1
 rw [he] at h1
 obtain ⟨lv, ov, tvs, hl⟩ := h1
 refine ⟨T, lv, ov, tvs, hl, fun r' ts' w' ht => dkIn_of (h3 (Th.pw base (pw k) r' ts') w' ht.kept ht.at_) (fun T hp => ?_) (fun T hp => ?_) (fun j hj T hp => ?_) (fun j T hp => ?_)⟩
 ·rw [updT_other _ _ (by omega), cs_log] at hp; exact hp
 ·rw [updT_other _ _ (by omega), cs_tw] at hp; rw [hasW_set he]; exact hp
 ·by_cases e : j = k
  ·subst e
   rw [updT_same] at hp; rw [wrTh_set]; exact hp
  ·rw [updT_other _ _ (by omega), cs_wr hj] at hp; rw [wrTh_other e]; exact hp
 ·rw [updT_other _ _ (by omega), cs_ex] at hp; exact hp
theorem DkIn.clear (h : DkIn base w0 S D G pw t tk ex wk) {k : Nat} (hk : k < 4) : DkIn base w0 S D G pw ⟨t.b, setF t.ws k none⟩ tk ex (wk.setCell ⟨D, 1 + k, none⟩ (.pointer none)) := by
 obtain ⟨T, h1, _, h3⟩ := Hq.turn h (i := 6) (by omega)
 rw [cs_tw] at h1
 refine dkIn_of (h3 (Th.tw base D G pw (clrH (hasW t) k)) _ (Kept.set (Kept.refl T wk) (p := ⟨D, 1 + k, none⟩) h1.1 _) ⟨.inl h1.1, h1.2.clear hk⟩) (fun T hp => ?_) (fun T hp => ?_) (fun j hj T hp => ?_) (fun j T hp => ?_)
 ·rw [updT_other _ _ (by omega), cs_log] at hp; exact hp
 ·rw [updT_same] at hp; rw [hasW_clr]; exact hp
 ·rw [updT_other _ _ (by omega), cs_wr hj] at hp
  by_cases e : j = k
  ·subst e
   unfold wrTh
   show (match setF t.ws j none j with | none => Th.no base | some r => Th.pw base (pw j) r (tk j)).P _ T
   rw [setF_same]; trivial
  ·unfold wrTh at hp ⊢
   show (match setF t.ws k none j with | none => Th.no base | some r => Th.pw base (pw j) r (tk j)).P _ T
   rw [setF_other _ _ (by omega)]; exact hp
 ·rw [updT_other _ _ (by omega), cs_ex] at hp; exact hp
theorem DkIn.newW (h : DkIn base w0 S D G pw t tk ex wk) (hb : Below wk.heap.size wk w') {k : Nat} (hk : k < 4) {P : Nat} {v1 : Value} {r : Wr} (hr : r.opens = []) (hs : r.sent = 0) (hat : PwAt w' wk.heap.size (fun k => wk.heap.size ≤ k ∧ k < w'.heap.size) P v1 (.slice none 0 0) [] r.base [] [] r.me r.next r.seen 0) :
 DkIn base w0 S D G (setN pw k P) ⟨t.b, setF t.ws k (some r)⟩ (setF tk k []) ex (w'.setCell ⟨D, 1 + k, none⟩ (.pointer (some ⟨P, 0, none⟩))) := by
 have hrl : r.list = r.base := by unfold Wr.list; rw [hr]; rfl
 have hat' : ∃ lv ov tvs, PwAt w' base (fun k => wk.heap.size ≤ k ∧ k < w'.heap.size) P lv ov tvs r.list r.opens [] r.me r.next r.seen r.sent := by
  rw [hrl, hr, hs]
  exact ⟨_, _, _, hat.lower rfl rfl (Hq.base_le h)⟩
 have h2 := Hq.lay h hb (i := 2 + k) (by omega) (Th.pw base P r []) hat'
 obtain ⟨T, h1, _, h3⟩ := h2.turn (i := 6) (by omega)
 rw [updT_other _ _ (by omega), cs_tw] at h1
 refine dkIn_of (h3 (Th.tw base D G (setN pw k P) (setH (hasW t) k)) _ (Kept.set (Kept.refl T w') (p := ⟨D, 1 + k, none⟩) h1.1 _) ⟨.inl h1.1, h1.2.put hk P⟩) (fun T hp => ?_) (fun T hp => ?_) (fun j hj T hp => ?_) (fun j T hp => ?_)
 ·rw [updT_other _ _ (by omega), updT_other _ _ (by omega), cs_log] at hp; exact hp
 ·rw [updT_same] at hp; rw [hasW_new]; exact hp
 ·by_cases e : j = k
  ·subst e
   rw [updT_other _ _ (by omega), updT_same] at hp
   rw [wrTh_set]
   unfold setN
   rw [if_pos rfl]
   exact hp
  ·rw [updT_other _ _ (by omega), updT_other _ _ (by omega), cs_wr hj] at hp
   rw [wrTh_other e]
   unfold wrTh at hp ⊢
   cases he : t.ws j with
   | none => trivial
   | some r0 =>
    rw [he] at hp
    show (Th.pw base (setN pw k P j) r0 (tk j)).P _ T
    unfold setN
    rw [if_neg e]
    exact hp
 ·rw [updT_other _ _ (by omega), updT_other _ _ (by omega), cs_ex] at hp; exact hp
theorem DkIn.lay (h : DkIn base w0 S D G pw t tk ex wk) (hb : Below wk.heap.size wk w') (j : Nat) (c : Th base) (hc : c.P w' (fun k => wk.heap.size ≤ k ∧ k < w'.heap.size)) : DkIn base w0 S D G pw t tk (updT ex j c) w' := by
 refine dkIn_of (Hq.lay h hb (i := 7 + j) (by omega) c hc) (fun T hp => ?_) (fun T hp => ?_) (fun k hk T hp => ?_) (fun i T hp => ?_)
 ·rw [updT_other _ _ (by omega), cs_log] at hp; exact hp
 ·rw [updT_other _ _ (by omega), cs_tw] at hp; exact hp
 ·rw [updT_other _ _ (by omega), cs_wr hk] at hp; exact hp
 ·by_cases e : i = j
  ·subst e; rw [updT_same] at hp ⊢; exact hp
  ·rw [updT_other _ _ (by omega), cs_ex] at hp; rw [updT_other _ _ e]; exact hp
theorem DkIn.box (h : DkIn base w0 S D G pw t tk ex wk) (j : Nat) : ∃ T, (ex j).P wk T := by
 obtain ⟨T, h1, _⟩ := Hq.get h (i := 7 + j) (by omega)
 rw [cs_ex] at h1
 exact ⟨T, h1⟩
theorem DkIn.boxed (h : DkIn base w0 S D G pw t tk ex wk) (j : Nat) : ∃ T, (ex j).P wk T ∧ (∀ k, T k → base ≤ k ∧ k < wk.heap.size) ∧ ∀ (c : Th base) (w' : World), Kept T wk w' → c.P w' (grow T wk w') → DkIn base w0 S D G pw t tk (updT ex j c) w' := by
 obtain ⟨T, h1, h2, h3⟩ := Hq.turn h (i := 7 + j) (by omega)
 rw [cs_ex] at h1
 refine ⟨T, h1, h2, fun c w' hk hc => dkIn_of (h3 c w' hk hc) (fun T hp => ?_) (fun T hp => ?_) (fun k hk T hp => ?_) (fun i T hp => ?_)⟩
 ·rw [updT_other _ _ (by omega), cs_log] at hp; exact hp
 ·rw [updT_other _ _ (by omega), cs_tw] at hp; exact hp
 ·rw [updT_other _ _ (by omega), cs_wr hk] at hp; exact hp
 ·by_cases e : i = j
  ·subst e; rw [updT_same] at hp ⊢; exact hp
  ·rw [updT_other _ _ (by omega), cs_ex] at hp; rw [updT_other _ _ e]; exact hp
theorem DkIn.step (h : DkIn base w0 S D G pw t tk ex wk) (x : Tst) (j : Nat) : DkIn base w0 S D G pw t tk (updT ex j (Th.st base wk.heap.size x)) (wk.alloc (tsObj x)) :=
 h.lay (below1 _ _) j _ ⟨⟨Nat.le_refl _, by simp⟩, tsat_start wk x⟩
theorem DkIn.deed (h : DkIn base w0 S D G pw t tk ex wk) (d : Dd) (j : Nat) : DkIn base w0 S D G pw t tk (updT ex j (Th.dd base wk.heap.size d)) (wk.alloc (dObj d)) :=
 h.lay (below1 _ _) j _ ⟨⟨Nat.le_refl _, by simp⟩, ddat_start wk d, fun o ho => by rcases seven ho with rfl | rfl | rfl | rfl | rfl | rfl | rfl <;> simp [go_sem]⟩
theorem DkIn.other (h : DkIn base w0 S D G pw t tk ex wk) {ex' : Nat → Th base} (he : ∀ j T, (ex j).P wk T → (ex' j).P wk T) : DkIn base w0 S D G pw t tk ex' wk := by
 refine dkIn_of h (fun T hp => ?_) (fun T hp => ?_) (fun k hk T hp => ?_) (fun i T hp => ?_)
 ·rw [cs_log] at hp; exact hp
 ·rw [cs_tw] at hp; exact hp
 ·rw [cs_wr hk] at hp; exact hp
 ·rw [cs_ex] at hp; exact he i T hp
theorem DkIn.deedAt {E j : Nat} {d : Dd} (h : DkIn base w0 S D G pw t tk (updT ex j (Th.dd base E d)) wk) : DdAt wk E 0 d ∧ ∀ o, o < 7 → wk.frozen? ⟨E, o, none⟩ = false := by
 obtain ⟨T, h1⟩ := h.box j
 rw [updT_same] at h1
 exact h1.2
theorem DkIn.stepAt {E j : Nat} {x : Tst} (h : DkIn base w0 S D G pw t tk (updT ex j (Th.st base E x)) wk) : TsAt wk E 0 x := by
 obtain ⟨T, h1⟩ := h.box j
 rw [updT_same] at h1
 exact h1.2
theorem DkIn.store {E j : Nat} {d0 : Dd} (h : DkIn base w0 S D G pw t tk (updT ex j (Th.dd base E d0)) wk) (d : Dd) : DkIn base w0 S D G pw t tk (updT ex j (Th.dd base E d)) (((((((wk.setCell ⟨E, 0, none⟩ (.int .i64 d.kind)).setCell ⟨E, 1, none⟩ (.int .i64 d.by_)).setCell ⟨E, 2, none⟩ (.int .i64 d.no)).setCell ⟨E, 3, none⟩ (.int .i64 d.seen)).setCell ⟨E, 4, none⟩ (.int .i64 d.at_)).setCell ⟨E, 5, none⟩ (.int .i64 d.many)).setCell ⟨E, 6, none⟩ (.string d.text)) := by
 obtain ⟨T, h1, _, h3⟩ := h.boxed j
 rw [updT_same] at h1
 obtain ⟨hT, ⟨hlt, c0, c1, c2, c3, c4, c5, c6⟩, hf⟩ := h1
 simp only [Nat.zero_add] at c0 c1 c2 c3 c4 c5 c6
 have hk : Kept T wk (((((((wk.setCell ⟨E, 0, none⟩ (.int .i64 d.kind)).setCell ⟨E, 1, none⟩ (.int .i64 d.by_)).setCell ⟨E, 2, none⟩ (.int .i64 d.no)).setCell ⟨E, 3, none⟩ (.int .i64 d.seen)).setCell ⟨E, 4, none⟩ (.int .i64 d.at_)).setCell ⟨E, 5, none⟩ (.int .i64 d.many)).setCell ⟨E, 6, none⟩ (.string d.text)) :=
  ((((((((Kept.refl T wk).set (p := ⟨E, 0, none⟩) hT _).set (p := ⟨E, 1, none⟩) hT _).set (p := ⟨E, 2, none⟩) hT _).set (p := ⟨E, 3, none⟩) hT _).set (p := ⟨E, 4, none⟩) hT _).set (p := ⟨E, 5, none⟩) hT _).set (p := ⟨E, 6, none⟩) hT _)
 refine (h3 (Th.dd base E d) _ hk ⟨.inl hT, DdAt.written hlt d (fun o ho => ?_), fun o ho => ?_⟩).other (fun i T hp => ?_)
 ·rcases seven ho with rfl | rfl | rfl | rfl | rfl | rfl | rfl
  ·exact ⟨_, c0⟩
  ·exact ⟨_, c1⟩
  ·exact ⟨_, c2⟩
  ·exact ⟨_, c3⟩
  ·exact ⟨_, c4⟩
  ·exact ⟨_, c5⟩
  ·exact ⟨_, c6⟩
 ·simpa [go_sem] using hf o ho
 ·by_cases e : i = j
  ·subst e; rw [updT_same] at hp ⊢; exact hp
  ·rw [updT_other _ _ e] at hp ⊢; rw [updT_other _ _ e] at hp; exact hp
structure DkAt (base D G : Nat) (pw : Nat → Nat) (t : Twn) (tk : Int → List (List Ch)) (w : World) (S : Nat → Prop) : Prop where
 lo : ∀ k, S k → base ≤ k ∧ k < w.heap.size
 own : ∃ ow, HpAt base (dkCs base D G pw t tk (fun _ => Th.no base)) ow w ∧ ∀ k, ow k ≠ 0 → S k
def DkTo (base : Nat) (w : World) (S : Nat → Prop) (D G : Nat) (pw : Nat → Nat) (t : Twn) (tk : Int → List (List Ch)) (w' : World) : Prop := DkAt base D G pw t tk w' (grow S w w') ∧ Kept S w w'
theorem DkAt.start (h : DkAt base D G pw t tk w S) : DkIn base w S D G pw t tk (fun _ => Th.no base) w := by
 obtain ⟨ow, h1, h2⟩ := h.own
 exact ⟨ow, h1, fun k e => .inl (h2 k e), Kept.refl _ _⟩
theorem DkAt.base_le (h : DkAt base D G pw t tk w S) : base ≤ w.heap.size := by
 obtain ⟨ow, h1, h2⟩ := h.own
 exact h1.bs
theorem DkIn.bare (h : DkIn base w0 S D G pw t tk ex wk) : DkIn base w0 S D G pw t tk (fun _ => Th.no base) wk := by
 refine dkIn_of h (fun T hp => ?_) (fun T hp => ?_) (fun k hk T hp => ?_) (fun i T hp => trivial)
 ·rw [cs_log] at hp; exact hp
 ·rw [cs_tw] at hp; exact hp
 ·rw [cs_wr hk] at hp; exact hp
theorem DkIn.done (h : DkIn base w S D G pw t tk ex w') (hl : base ≤ w.heap.size ∧ ∀ k, S k → base ≤ k ∧ k < w.heap.size) : DkTo base w S D G pw t tk w' := by
 have hk := Hq.kept h
 have hs := hk.size
 obtain ⟨ow, h1⟩ := h.bare
 refine ⟨⟨fun k e => ?_, ow, h1.at_, h1.old⟩, hk⟩
 rcases e with e | e
 ·have := hl.2 k e; omega
 ·omega
theorem DkAt.held (h : DkAt base D G pw t tk w S) : base ≤ w.heap.size ∧ ∀ k, S k → base ≤ k ∧ k < w.heap.size := ⟨h.base_le, h.lo⟩
end
theorem DkIn.call {base D G : Nat} {pw : Nat → Nat} {t : Twn} {tk : Int → List (List Ch)} {ex : Nat → Th base} {w0 wk : World} {S : Nat → Prop} (h : DkIn base w0 S D G pw t tk ex wk) :
 ∃ T, DkAt base D G pw t tk wk T ∧ ∀ pw' t' tk' w', DkTo base wk T D G pw' t' tk' w' → DkIn base w0 S D G pw' t' tk' ex w' := by
 obtain ⟨ow, h⟩ := h
 have hat := h.at_
 refine ⟨fun k => ow k ≠ 0 ∧ ow k < 7, ⟨fun k e => hat.lo k e.1, fun k => if ow k < 7 then ow k else 0, ⟨fun k e => ?_, hat.bs, fun i hi => ?_⟩, fun k e => ?_⟩, fun pw' t' tk' w' ht => ?_⟩
 ·by_cases h7 : ow k < 7
  ·rw [if_pos h7] at e; exact hat.lo k e
  ·rw [if_neg h7] at e; exact absurd rfl e
 ·by_cases h7 : i < 7
  ·have h1 : (dkCs base D G pw t tk (fun _ => Th.no base) i).P wk (fun k => ow k = i) := by
    have h2 := hat.at_ i hi
    unfold dkCs at h2 ⊢
    by_cases e1 : i = 1
    ·rw [if_pos e1] at h2 ⊢; exact h2
    rw [if_neg e1] at h2 ⊢
    by_cases e6 : i = 6
    ·rw [if_pos e6] at h2 ⊢; exact h2
    rw [if_neg e6] at h2 ⊢
    rw [if_pos (by omega)] at h2 ⊢
    exact h2
   refine (dkCs base D G pw t tk (fun _ => Th.no base) i).mono h1 (fun k e => ?_) (fun k e => ?_)
   ·rw [if_pos (by omega)]; exact e
   ·by_cases h7 : ow k < 7
    ·rw [if_pos h7] at e; exact hat.lo k (by omega)
    ·rw [if_neg h7] at e; omega
  ·obtain ⟨j, rfl⟩ : ∃ j, i = 7 + j := ⟨i - 7, by omega⟩
   rw [cs_ex]
   trivial
 ·have e : (if ow k < 7 then ow k else 0) ≠ 0 := e
  by_cases h7 : ow k < 7
  ·rw [if_pos h7] at e; exact ⟨e, h7⟩
  ·rw [if_neg h7] at e; exact absurd rfl e
 ·obtain ⟨hd, hk⟩ := ht
  obtain ⟨ow2, h2, h3⟩ := hd.own
  have hs := hk.size
  have hs0 := h.kept.size
  have ap : ∀ k, 7 ≤ ow k → ow2 k = 0 := fun k e => by
   by_cases hz : ow2 k = 0
   ·exact hz
   ·have hlt := (hat.lo k (by omega)).2
    rcases h3 k hz with x | x
    ·omega
    ·omega
  have hlo : ∀ k, (if 7 ≤ ow k then ow k else if ow2 k < 7 then ow2 k else 0) ≠ 0 → base ≤ k ∧ k < w'.heap.size := fun k e => by
   by_cases h7 : 7 ≤ ow k
   ·have := hat.lo k (by omega); omega
   ·rw [if_neg h7] at e
    by_cases h8 : ow2 k < 7
    ·rw [if_pos h8] at e; exact h2.lo k e
    ·rw [if_neg h8] at e; exact absurd rfl e
  refine ⟨fun k => if 7 ≤ ow k then ow k else if ow2 k < 7 then ow2 k else 0, ⟨hlo, h2.bs, fun i hi => ?_⟩, fun k e => ?_, h.kept.trans (hk.wider (fun k e => h.old k e.1))⟩
  ·by_cases h7 : i < 7
   ·have h1 : (dkCs base D G pw' t' tk' ex i).P w' (fun k => ow2 k = i) := by
     have h4 := h2.at_ i hi
     unfold dkCs at h4 ⊢
     by_cases e1 : i = 1
     ·rw [if_pos e1] at h4 ⊢; exact h4
     rw [if_neg e1] at h4 ⊢
     by_cases e6 : i = 6
     ·rw [if_pos e6] at h4 ⊢; exact h4
     rw [if_neg e6] at h4 ⊢
     rw [if_pos (by omega)] at h4 ⊢
     exact h4
    refine (dkCs base D G pw' t' tk' ex i).mono h1 (fun k e => ?_) (fun k e => hlo k (by rw [e]; exact hi))
    have : ¬ 7 ≤ ow k := fun x => by have := ap k x; omega
    rw [if_neg this, if_pos (by omega)]; exact e
   ·obtain ⟨j, rfl⟩ : ∃ j, i = 7 + j := ⟨i - 7, by omega⟩
    have h4 := hat.at_ (7 + j) hi
    rw [cs_ex] at h4 ⊢
    have h5 := (ex j).kept (fun k e => hat.lo k (by omega)) h4 hk (fun k e x => by omega)
    refine (ex j).mono h5 (fun k e => ?_) (fun k e => hlo k (by omega))
    rw [if_pos (by omega)]; exact e
  ·by_cases h7 : 7 ≤ ow k
   ·rcases h.old k (by omega) with x | x
    ·exact .inl x
    ·exact .inr ⟨x.1, by omega⟩
   ·rw [if_neg h7] at e
    have hz : ow2 k ≠ 0 := fun x => by rw [x] at e; exact e rfl
    rcases h3 k hz with x | x
    ·rcases h.old k x.1 with y | y
     ·exact .inl y
     ·exact .inr ⟨y.1, by omega⟩
    ·exact .inr ⟨by omega, x.2⟩
end Go.Proofs.YtcbnnfeelhlapadGreatDoor

/-
  What a writer at its desk does, told of the town: Put, Take, Send, Hear, Clear, with what it keeps.
-/
namespace Go.Proofs.YtcbnnfeelhlapadGreatDoor
open Go Go.RowKit
theorem setF_set {α : Type} (f : Int → α) (v : Int) (x y : α) : setF (setF f v x) v y = setF f v y := by
 funext k
 by_cases e : k = v
 ·subst e; rw [setF_same, setF_same]
 ·rw [setF_other _ _ e, setF_other _ _ e, setF_other _ _ e]
theorem does_list (r : Wr) (e : Dd) : (doesW r e).list = doL r.list e openN := by
 show onTop r.base (r.opens ++ [e]) = doL (onTop r.base r.opens) e openN
 rw [onTop_snoc]
theorem clear_list {t : Twn} {tk : Int → List (List Ch)} (h : TR t tk) {v : Int} {r : Wr} (he : t.ws v = some r) : (clearW r (leastFor t.b r.seen)).list = ofL (leastFor t.b r.seen) r.list := by
 obtain ⟨_, c, hi⟩ := h.ti.wi v r he
 obtain ⟨l1, l2⟩ := least_for t.b r.seen
 obtain ⟨_, _, h2⟩ := hi.clears h.ti.good l1 l2
 exact h2
def spokeTo (b : Bk) (seen j : Nat) : Int := ((b.ds.drop seen).take j).foldl (fun n d => if d.seen < n then d.seen else n) (leastL b)
theorem spoke_succ {b : Bk} {seen j : Nat} (h : seen + j < b.ds.length) : spokeTo b seen (j + 1) = min (spokeTo b seen j) b.ds[seen + j].seen := by
 have hj : j < (b.ds.drop seen).length := by rw [List.length_drop]; omega
 unfold spokeTo
 rw [take_snocD _ _ hj, List.foldl_append, List.getElem_drop]
 show (if b.ds[seen + j].seen < _ then _ else _) = _
 generalize List.foldl (fun n (d : Dd) => if d.seen < n then d.seen else n) (leastL b) (List.take j (List.drop seen b.ds)) = m
 generalize b.ds[seen + j].seen = n
 split <;> omega
theorem spoke_all {b : Bk} {seen j : Nat} (h : b.ds.length ≤ seen + j) : spokeTo b seen j = leastFor b seen := by
 unfold spokeTo leastFor
 rw [List.take_of_length_le (by rw [List.length_drop]; omega)]
theorem hear_pw {t : Twn} {tk : Int → List (List Ch)} (h : TR t tk) {v : Int} {r : Wr} (he : t.ws v = some r) {d : Dd} (hd : t.b.ds[r.seen]? = some d) {w : World} {base P : Nat} {S : Nat → Prop} {lv ov : Value} {tvs : List Value} (hp : PwAt w base S P lv ov tvs r.list r.opens (tk v) r.me r.next r.seen r.sent) :
 Calls Tryz.prog 166 #[.pointer (some ⟨P, 0, none⟩), ddV d] w fun e w' => e = .returned (.int .i64 (hearC r d)) ∧ (hearC r d = 0 → PwTo w base S P (hearW r d).list (hearW r d).opens (heardK r d (tk v)) (hearW r d).me (hearW r d).next (hearW r d).seen (hearW r d).sent w') ∧ (hearC r d ≠ 0 → Below w.heap.size w w') := by
 have ho := tr_wok h he
 obtain ⟨hm, c, hi⟩ := h.ti.wi v r he
 have hr := h.rel v r he
 have hg := h.ti.good
 obtain ⟨hl, rfl⟩ := List.getElem?_eq_some_iff.1 hd
 have h1 := ho.len
 have h2 := ho.few
 have h3 := ho.seen
 by_cases hb : t.b.ds[r.seen].by_ = r.me
 ·obtain ⟨es, hes, hsn⟩ := hi.own_first hl hb
  have hc : hearC r t.b.ds[r.seen] = 0 := by
   rw [hearC, if_neg (fun x => x hb), if_pos (by rw [hes]; rfl)]
  have htl := ho.tlen
  have hsl := hi.sent
  cases htk : tk v with
  | nil => rw [htk, hes] at htl; simp at htl
  | cons u us =>
   rw [htk] at hp hr
   obtain ⟨s, hss⟩ : ∃ s, r.sent = s + 1 := ⟨r.sent - 1, by omega⟩
   obtain ⟨_, r2⟩ := hr.hears_own hi hg hl hes
   have e1 : (hearW r t.b.ds[r.seen]) = ⟨r.me, r.seen + 1, r.next, doL r.base t.b.ds[r.seen] ((r.seen : Int) + 1), es, s⟩ := by
    rw [hearW, if_neg (fun x => x hb), hes, hss]; rfl
   have e2 : heardK r t.b.ds[r.seen] (u :: us) = us.map fun u => u.map (numF t.b.ds[r.seen].no ((r.seen : Int) + 1)) := by
    rw [heardK, if_neg (fun x => x hb)]; rfl
   have e3 : Wr.list ⟨r.me, r.seen + 1, r.next, doL r.base t.b.ds[r.seen] ((r.seen : Int) + 1), es, s⟩ = r.list.map (ackF t.b.ds[r.seen].no ((r.seen : Int) + 1) u) := r2
   rw [hes, hss] at hp
   have hes2 : es.length ≤ 1000 := by rw [hes] at h2; simp at h2; omega
   have hst : s ≤ 1000 := by rw [hes] at h2 hsl; simp at h2 hsl; omega
   refine (heard_own (sent := s) (by simpa using hp) hb (by omega) hes2 (by rw [← htk]; exact ho.took) (by omega) hst).mono ?_
   rintro e w' ⟨rfl, hto⟩
   rw [hc, e1, e2]
   refine ⟨rfl, fun _ => ?_, fun x => absurd rfl x⟩
   rw [e3]
   simpa using hto
 ·have hc : hearC r t.b.ds[r.seen] = doC r.list t.b.ds[r.seen] ((r.seen : Int) + 1) := by rw [hearC, if_pos hb]
  have e1 : (hearW r t.b.ds[r.seen]) = ⟨r.me, r.seen + 1, r.next, doL r.base t.b.ds[r.seen] ((r.seen : Int) + 1), r.opens, r.sent⟩ := by rw [hearW, if_pos hb]
  have e2 : heardK r t.b.ds[r.seen] (tk v) = tk v := by rw [heardK, if_pos hb]
  obtain ⟨_, q2⟩ := hi.hears_other hg hl hb
  refine (hears_pw hp (by omega) ho.fits (by omega) _ hb).mono ?_
  rintro e w' ⟨rfl, h0, hn⟩
  rw [hc]
  refine ⟨rfl, fun hz => ?_, hn⟩
  rw [e1, e2]
  have e3 : Wr.list ⟨r.me, r.seen + 1, r.next, doL r.base t.b.ds[r.seen] ((r.seen : Int) + 1), r.opens, r.sent⟩ = doL r.list t.b.ds[r.seen] ((r.seen : Int) + 1) := (q2 hz).1.symm
  rw [e3]
  simpa using h0 hz
end Go.Proofs.YtcbnnfeelhlapadGreatDoor
