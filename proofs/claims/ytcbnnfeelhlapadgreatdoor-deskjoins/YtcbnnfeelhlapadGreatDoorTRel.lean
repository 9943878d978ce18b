/-
  The contract of writer.New.
-/
import Derived.Test.YtcbnnfeelhlapadGreatDoorWDoW
import Derived.Test.YtcbnnfeelhlapadGreatDoorCheck
import Derived.Test.YtcbnnfeelhlapadGreatDoorWRel
import Derived.Test.YtcbnnfeelhlapadGreatDoorFFin
import Derived.Test.YtcbnnfeelhlapadGreatDoorLMem
import Derived.Test.YtcbnnfeelhlapadGreatDoorRAll
import Derived.Test.YtcbnnfeelhlapadGreatDoorLgT
import Derived.Deep.QuietTactic
import Derived.Deep.Cut
import Derived.Test.YtcbnnfeelhlapadGreatDoorCDel
import Derived.Test.YtcbnnfeelhlapadGreatDoorLgS
import Derived.Test.YtcbnnfeelhlapadGreatDoorFLate
namespace Go.Proofs.YtcbnnfeelhlapadGreatDoor
set_option maxRecDepth 20000
open Go.RowKit
abbrev pwObj (me next seen : Int) (lv : Value) : Obj := .cells #[.int .i64 me, .int .i64 next, .int .i64 seen, lv, .slice none 0 0, .int .i64 0] 178
theorem pwAt_new {w w1 : World} {v1 : Value} {l : List Ch} (ho : Own w1 w.heap.size v1 l) (hb : Below w.heap.size w w1) (me next seen : Int) :
 PwAt (w1.alloc (pwObj me next seen v1)) w.heap.size (fun k => w.heap.size ≤ k ∧ k < w1.heap.size + 1) w1.heap.size v1 (.slice none 0 0) [] l [] [] me next seen 0 := by
 have hs := hb.size
 refine ⟨fun k hk => by simpa using hk, ⟨hs, by omega⟩, ⟨by simp, ?_, ?_, ?_, ?_, ?_, ?_, fun o ho' => ?_⟩, ho.below (below1 _ _), ownO_nil _ _, rfl, trivial, fun k e => ?_, fun k e => (by cases e), fun tv ht => (by cases ht), List.Pairwise.nil⟩
 ·simp [go_sem]
 ·simp [go_sem]
 ·simp [go_sem]
 ·simp [go_sem]
 ·simp [go_sem]
 ·simp [go_sem]
 ·rcases (show o = 0 ∨ o = 1 ∨ o = 2 ∨ o = 3 ∨ o = 4 ∨ o = 5 by omega) with rfl | rfl | rfl | rfl | rfl | rfl <;> simp [go_sem]
 ·have := World.ownsRow.lt ho k e
  exact ⟨⟨this.1, by omega⟩, by omega⟩
set_option maxHeartbeats 800000 in
theorem new_pw {w : World} {v : Value} {l : List Ch} (h : Lst w v l) (hl : l.length ≤ 1000) (me next seen : Int) (hw : wrB me = true) (hn : 1 ≤ next) (hs0 : 0 ≤ seen) (hs : seen ≤ 120) (hck : ∀ r, CheckIs l seen r → r = 0) (hno : (l.any fun x => decide (x.inn = openN)) = false) :
 Calls Tryz.prog 114 #[.int .i64 me, .int .i64 next, .int .i64 seen, v] w fun e w' => ∃ P v1, e = .returned (.pointer (some ⟨P, 0, none⟩)) ∧ PwAt w' w.heap.size (fun k => w.heap.size ≤ k ∧ k < w'.heap.size) P v1 (.slice none 0 0) [] l [] [] me next seen 0 ∧ Below w.heap.size w w' := by
 have HL : Hid (Lst w v l) := h
 have HCK : Hid (∀ r, CheckIs l seen r → r = 0) := hck
 have HNO : Hid ((l.any fun x => decide (x.inn = openN)) = false) := hno
 obtain ⟨a, cap, rfl, _⟩ := h.len
 clear h hck hno
 go_enter Tryz.func114, Tryz.ntmps114
 go_wp2_with (go_at_call 116; refine (writer_any _ _).mono ?_; rintro e wz ⟨rfl, hwz⟩; rw [hw, hwz]; clear hwz wz)
 refine (check_lst HL.out hl seen).mono ?_
 rintro e w1 ⟨r, rfl, hr, hb1⟩
 obtain rfl := HCK.out r hr
 have HB1 : Hid (Below w.heap.size w w1) := hb1
 clear hr hb1
 go_wp2_with fail
 refine (contains_lst (isOpen_looks w1.heap.size) (HL.out.below HB1.out) (Nat.le_refl _) hl trivial).mono ?_
 rintro e w2 ⟨rfl, hb2⟩
 rw [HNO.out]
 have HB2 : Hid (Below w.heap.size w w2) := bla HB1.out hb2
 clear hb2 HB1
 go_wp2_with fail
 refine (clone_lst (HL.out.below HB2.out) (by omega)).mono ?_
 rintro e w3 ⟨v3, rfl, ho3, hb3⟩
 have HB3 : Hid (Below w.heap.size w w3) := bla HB2.out hb3
 have HP : Hid (PwAt (w3.alloc (pwObj me next seen v3)) w.heap.size (fun k => w.heap.size ≤ k ∧ k < w3.heap.size + 1) w3.heap.size v3 (.slice none 0 0) [] l [] [] me next seen 0) := pwAt_new (ho3.mono HB2.out.size) HB3.out me next seen
 obtain ⟨va, vc, rfl, _⟩ := ho3.lst.len
 clear ho3 hb3 HB2
 go_wp2
 go_ret
 exact ⟨w3.heap.size, _, rfl, by simpa using HP.out, HB3.out.trans ((below1 _ _).mono HB3.out.size)⟩
end Go.Proofs.YtcbnnfeelhlapadGreatDoor

/-
  Plain mathematics of a writer's open deeds: each can be done in its turn; what is kept of them is short. No walk.
-/
namespace Go.Proofs.YtcbnnfeelhlapadGreatDoor
open Go.RowKit
structure TopOk (l : List Ch) (es : List Dd) : Prop where
 ok : ∀ k (h : k < es.length), doC (onTop l (es.take k)) es[k] openN = 0
 tame : ∀ k, k ≤ es.length → Tame (onTop l (es.take k)) ∧ (onTop l (es.take k)).length ≤ 1000
theorem tame_of {b : Bk} {c : Int} {r : Wr} (h : WI b c r) (hg : Good b) : Tame r.base := fun x hx => by have := h.no_open hg x hx; omega
theorem WI.topOk {b : Bk} {c : Int} {r : Wr} (h : WI b c r) (hg : Good b) : TopOk r.base r.opens := by
 obtain ⟨hok, hbl⟩ := h.ok hg
 have ht := tame_of h hg
 have key : ∀ (es : List Dd) (l : List Ch), okTop l es → Tame l → l.length ≤ 200 → (∀ k (hk : k < es.length), doC (onTop l (es.take k)) es[k] openN = 0) ∧ ∀ k, k ≤ es.length → Tame (onTop l (es.take k)) ∧ (onTop l (es.take k)).length ≤ 200 := by
  intro es
  induction es with
  | nil => intro l _ ht hl; exact ⟨fun k hk => absurd hk (Nat.not_lt_zero _), fun k _ => by simpa [onTop] using ⟨ht, hl⟩⟩
  | cons e es ih =>
   intro l ho ht hl
   have hz := doC_zero ho.1
   have hlen := doL_len (l := l) (number := openN) (check_parts hz.1).2.2.2.2.2.2.2.2.2.2.2
   obtain ⟨i1, i2⟩ := ih (doL l e openN) ho.2 (tame_any ht hz.1 (by decide)) (by omega)
   refine ⟨fun k hk => ?_, fun k hk => ?_⟩
   ·cases k with
    | zero => exact ho.1
    | succ k => exact i1 k (by simpa using hk)
   ·cases k with
    | zero => exact ⟨ht, hl⟩
    | succ k => exact i2 k (by simpa using hk)
 obtain ⟨k1, k2⟩ := key r.opens r.base hok ht hbl
 exact ⟨k1, fun k hk => ⟨(k2 k hk).1, by have := (k2 k hk).2; omega⟩⟩
theorem Rel.took_len {r : Wr} {ts : List (List Ch)} (h : Rel r ts) (hl : r.list.length ≤ 200) (hf : fitTop r.base r.opens) : ∀ t ∈ ts, t.length ≤ 1000 := by
 have key : ∀ (es : List Dd) (ts : List (List Ch)) (l : List Ch), tkTop l es ts → fitTop l es → (onTop l es).length ≤ 200 → ∀ t ∈ ts, t.length ≤ 200 := by
  intro es
  induction es with
  | nil => intro ts l h _ _ t ht; cases ts with
   | nil => cases ht
   | cons _ _ => exact h.elim
  | cons e es ih =>
   intro ts l h hf hl t ht
   cases ts with
   | nil => exact h.elim
   | cons t0 ts =>
    rcases List.mem_cons.1 ht with rfl | ht
    ·have h1 := congrArg List.length h.1
     rw [List.length_map, List.length_map] at h1
     have h2 : (tookL l e).length ≤ l.length := by
      unfold tookL
      rw [List.length_take, List.length_drop]
      have := List.length_filter_le (seesC e.seen e.by_) l
      omega
     obtain ⟨_, h3⟩ := fitTop_ok (e :: es) l hf hl
     omega
    ·exact ih ts _ h.2 hf.2 hl t ht
 intro t ht
 have := key r.opens ts r.base h.tk hf hl t ht
 omega
end Go.Proofs.YtcbnnfeelhlapadGreatDoor

/-
  What walks over writers want besides their contracts: steps in a large frame, whole calls of Hear, what is known of a writer.
-/
namespace Go.Proofs.YtcbnnfeelhlapadGreatDoor
open Go Go.RowKit
section
variable {P : Program} {ops : Array Oper} {U : World → Prop} {sp fin : Nat → Bool}
theorem wsb {Q : Act → World → Prop} {a : Act} {o : Oper} {rest : List Oper} {k : Nat} {D : World → Prop} (d : Option Tmp) (w0 : World) (hs : sp k = false) (v : Value) (hd : o.dst = d) (hw : Region.wanted o (yielded ops a.tmps) = true)
 (hrun : ∀ w, U w → (execOp a.eval o).run P w = .ok (.value v) w) (h : Oper.quiet P ⟨d, .move (.const v), 0, "", #[], none⟩ a (fun _ => True) (fun a' => wpStage P ops U sp Q rest (k + 1) a' D)) : wpStage P ops U sp Q (o :: rest) k a D :=
 wss hs fun K hK => by
  rw [if_pos hw]
  refine ⟨v, hrun, hK _ ?_⟩
  rw [hd]
  exact put_of_quiet w0 h
theorem wpStage_bigSpine {Q : Act → World → Prop} {a : Act} {o : Oper} {rest : List Oper} {k : Nat} {D : World → Prop} (d : Option Tmp) (w0 : World) (hs : sp k = true) (hg : o.guard = none) (hd : o.dst = d) (p : Value → Prop) (D' : Value → World → Prop) (hp : ∃ v, p v) (hU : ∀ v w, D' v w → U w)
 (hrun : ∀ w, D w → spineUpon P (fun v w' => p v ∧ D' v w') ((execOp a.eval o).run P w)) (h : ∀ v, p v → Oper.quiet P ⟨d, .move (.const v), 0, "", #[], none⟩ a (fun _ => True) (fun a' => wpStage P ops U sp Q rest (k + 1) a' (D' v))) : wpStage P ops U sp Q (o :: rest) k a D :=
 wsp hs hg p D' hp hU hrun fun v hv => by
  rw [hd]
  exact put_of_quiet w0 (h v hv)
theorem wpFin_big {Q : Act → World → Prop} {a : Act} {o : Oper} {rest : List Oper} {k : Nat} {D : World → Prop} (d : Option Tmp) (w0 : World) (hs : sp k = false) (v : Value) (hd : o.dst = d) (hw : Region.wanted o (yielded ops a.tmps) = true)
 (hrun : ∀ w, U w → (execOp a.eval o).run P w = .ok (.value v) w) (h : Oper.quiet P ⟨d, .move (.const v), 0, "", #[], none⟩ a (fun _ => True) (fun a' => wpFin P ops U sp fin Q rest (k + 1) a' D)) : wpFin P ops U sp fin Q (o :: rest) k a D :=
 wpFin_still hs fun K hK => by
  rw [if_pos hw]
  refine ⟨v, hrun, hK _ ?_⟩
  rw [hd]
  exact put_of_quiet w0 h
theorem wpFin_bigSpine {Q : Act → World → Prop} {a : Act} {o : Oper} {rest : List Oper} {k : Nat} {D : World → Prop} (d : Option Tmp) (w0 : World) (hs : sp k = true) (hg : o.guard = none) (hd : o.dst = d) (p : Value → Prop) (D' : Value → World → Prop) (hp : ∃ v, p v) (hU : ∀ v w, D' v w → U w)
 (hrun : ∀ w, D w → spineUpon P (fun v w' => p v ∧ D' v w') ((execOp a.eval o).run P w)) (h : ∀ v, p v → Oper.quiet P ⟨d, .move (.const v), 0, "", #[], none⟩ a (fun _ => True) (fun a' => wpFin P ops U sp fin Q rest (k + 1) a' (D' v))) : wpFin P ops U sp fin Q (o :: rest) k a D :=
 wpFin_spine hs hg p D' hp hU hrun fun v hv => by
  rw [hd]
  exact put_of_quiet w0 (h v hv)
end
abbrev zObj : Obj := .cells #[.int .i64 0, .int .i64 0, .int .i64 0, .int .i64 0, .int .i64 0, .int .i64 0, .string ⟨#[]⟩] 124
def ptrOf (o : Bool) (P : Nat) : Value := if o = true then .pointer (some ⟨P, 0, none⟩) else .pointer none
def setN (f : Nat → Nat) (k P : Nat) : Nat → Nat := fun j => if j = k then P else f j
def setH (f : Nat → Bool) (k : Nat) : Nat → Bool := fun j => if j = k then true else f j
theorem PwAt.lower {w : World} {base base' P : Nat} {S : Nat → Prop} {lv ov : Value} {tvs : List Value} {l : List Ch} {ts : List (List Ch)} {me next seen sent : Int} (h : PwAt w base S P lv ov tvs l [] ts me next seen sent) (hts : ts = []) (hov : ov = .slice none 0 0) (hb : base' ≤ base) : PwAt w base' S P lv ov tvs l [] ts me next seen sent := by
 subst hts
 subst hov
 have htv : tvs = [] := List.length_eq_zero_iff.1 h.len
 subst htv
 exact ⟨fun k e => ⟨by have := (h.lo k e).1; omega, (h.lo k e).2⟩, h.hP, h.cells, h.ownL.mono hb, ownO_nil _ _, rfl, trivial, h.lB, h.oB, h.tB, h.tD⟩
structure WOk (r : Wr) (ts : List (List Ch)) : Prop where
 len : r.list.length ≤ 200
 fits : FitsL r.list
 few : r.opens.length ≤ 120
 n1 : 1 ≤ r.next
 n2 : r.next ≤ 121
 top : TopOk r.base r.opens
 base : r.base.length ≤ 200
 tame : Tame r.base
 took : ∀ t ∈ ts, t.length ≤ 1000
 seen : r.seen ≤ 120
 tlen : ts.length = r.opens.length
theorem heard_own {w : World} {base P : Nat} {S : Nat → Prop} {lv ov : Value} {tvs : List Value} {l t : List Ch} {d : Dd} {es : List Dd} {ts : List (List Ch)} {me next : Int} {seen sent : Nat} (h : PwAt w base S P lv ov tvs l (d :: es) (t :: ts) me next seen ((sent : Int) + 1)) (hb : d.by_ = me) (hl : l.length ≤ 1000) (hes : es.length ≤ 1000) (hts : ∀ u ∈ t :: ts, u.length ≤ 1000) (hsn : seen ≤ 1000) (hst : sent ≤ 1000) :
 Calls Tryz.prog 166 #[.pointer (some ⟨P, 0, none⟩), ddV d] w fun e w' => e = .returned (.int .i64 0) ∧ PwTo w base S P (l.map (ackF d.no ((seen : Int) + 1) t)) es (ts.map fun u => u.map (numF d.no ((seen : Int) + 1))) me next ((seen : Int) + 1) sent w' := by
 have hlo := h.lo
 have hba := h.base_le
 cases tvs with
 | nil => exact absurd h.len (by simp)
 | cons tv tvs =>
  refine (hearsOwn_pw h d hb (fun c w' => c = 0 ∧ PwTo w base S P (l.map (ackF d.no ((seen : Int) + 1) t)) es (ts.map fun u => u.map (numF d.no ((seen : Int) + 1))) me next ((seen : Int) + 1) sent w') (fun wk hj => ?_)).mono ?_
  ·refine (hearOwn_yes (h.below hj.below) hl hes hts hsn hst).mono ?_
   rintro e w' ⟨rfl, ⟨ov', hat⟩, hk⟩
   have hs1 := hj.below.size
   have hs2 := hk.size
   refine ⟨0, rfl, rfl, PwTo.of (hat.mono (fun k e => .inl e) (fun k e => ?_)) ((Kept.of_below hj.below).trans' hk)⟩
   rcases e with e | e
   ·have := hlo k e; omega
   ·omega
  ·rintro e w' ⟨c, rfl, rfl, ht⟩
   exact ⟨rfl, ht⟩
theorem is_yes {b : Bk} {i : Nat} (hi : i < b.ds.length) : isD b ((i : Int) + 1) = true ∧ nthD b ((i : Int) + 1) = b.ds[i] := by
 have hl : b.len = (b.ds.length : Int) := rfl
 refine ⟨by rw [isD, hl]; simp; omega, ?_⟩
 rw [nthD, if_pos (by rw [hl]; omega), show ((i : Int) + 1 - 1).toNat = i by omega]
 simp [hi]
theorem is_no {b : Bk} {i : Nat} (hi : ¬ i < b.ds.length) : isD b ((i : Int) + 1) = false := by
 have hl : b.len = (b.ds.length : Int) := rfl
 rw [isD, hl]; simp; omega
theorem joinB_ds (b : Bk) (v : Int) : (joinB b v).ds = b.ds := by
 unfold joinB
 split <;> rfl
theorem joinB_chars (b : Bk) (v : Int) : (joinB b v).chars = b.chars := by
 show (allL [] 0 (joinB b v).ds).1 = (allL [] 0 b.ds).1
 rw [joinB_ds]
theorem good_check {b : Bk} (hg : Good b) : ∀ r, CheckIs b.chars (b.ds.length : Int) r → r = 0 := fun r hr => by
 have h := chars_made hg b.ds.length (Nat.le_refl _)
 rw [chars_all] at h
 exact made_check h.1 h.2 hr
theorem good_open {b : Bk} (hg : Good b) : (b.chars.any fun x => decide (x.inn = openN)) = false := by
 have h := chars_made hg b.ds.length (Nat.le_refl _)
 rw [chars_all] at h
 have hs := hg.small
 rw [List.any_eq_false]
 intro x hx
 have := (h.1.inn x hx).2
 have ho : (openN : Int) = 1073741824 := rfl
 simp
 omega
theorem wpStage_bigStore {P : Program} {ops : Array Oper} {U : World → Prop} {sp : Nat → Bool} {Q : Act → World → Prop} {a : Act} {o : Oper} {rest : List Oper} {k : Nat} {D : World → Prop} (hs : sp k = true) (hg : o.guard = none) (hd : o.dst = none) (D' : World → Prop) (hU : ∀ w, D' w → U w)
 (hrun : ∀ w, D w → spineUpon P (fun _ w' => D' w') ((execOp a.eval o).run P w)) (h : wpStage P ops U sp Q rest (k + 1) a D') : wpStage P ops U sp Q (o :: rest) k a D :=
 wsp hs hg (fun _ => True) (fun _ => D') ⟨undef, trivial⟩ (fun _ => hU) (fun w hw => by
  have := hrun w hw
  revert this
  cases (execOp a.eval o).run P w <;> simp [spineUpon]) fun v _ => by
  rw [hd]
  exact h
abbrev logZ : Array Value := #[.bool false, .int .i64 0, .int .i64 0, .bool false, .int .i64 0, .int .i64 0, .bool false, .int .i64 0, .int .i64 0, .bool false, .int .i64 0, .int .i64 0, .slice none 0 0, .slice none 0 0]
theorem logAt_start (w : World) {base : Nat} (hb : base ≤ w.heap.size) : LogAt (w.alloc (.cells logZ 104)) base (fun k => k = w.heap.size) w.heap.size (.slice none 0 0) (.slice none 0 0) Bk.empty := by
 refine ⟨fun k e => ⟨by omega, by simp; omega⟩, rfl, ⟨by simp, fun j hj => ?_, fun j hj => ?_, fun j hj => ?_, by simp [go_sem], by simp [go_sem], fun o ho => ?_⟩, World.ownsRow_nil _ _ _ _, World.ownsRow_nil _ _ _ _, fun k e => by simp [Value.ownBlock] at e, fun k e => by simp [Value.ownBlock] at e⟩
 ·rcases (show j = 0 ∨ j = 1 ∨ j = 2 ∨ j = 3 by omega) with rfl | rfl | rfl | rfl <;> simp [go_sem, Bk.empty]
 ·rcases (show j = 0 ∨ j = 1 ∨ j = 2 ∨ j = 3 by omega) with rfl | rfl | rfl | rfl <;> simp [go_sem, Bk.empty]
 ·rcases (show j = 0 ∨ j = 1 ∨ j = 2 ∨ j = 3 by omega) with rfl | rfl | rfl | rfl <;> simp [go_sem, Bk.empty]
 ·rcases (show o = 0 ∨ o = 1 ∨ o = 2 ∨ o = 3 ∨ o = 4 ∨ o = 5 ∨ o = 6 ∨ o = 7 ∨ o = 8 ∨ o = 9 ∨ o = 10 ∨ o = 11 ∨ o = 12 ∨ o = 13 by omega) with rfl | rfl | rfl | rfl | rfl | rfl | rfl | rfl | rfl | rfl | rfl | rfl | rfl | rfl <;> simp [go_sem]
theorem newL_lg (w : World) : Calls Tryz.prog 20 #[] w fun e w' => e = .returned (.pointer (some ⟨w.heap.size, 0, none⟩)) ∧ w' = w.alloc (.cells logZ 104) := by
 go_enter Tryz.func20, Tryz.ntmps20
 go_wp2
 go_ret
 exact ⟨rfl, rfl⟩
end Go.Proofs.YtcbnnfeelhlapadGreatDoor

/-
  Things in memory that each own their blocks: what one of them does leaves all others. No walk.
-/
namespace Go.Proofs.YtcbnnfeelhlapadGreatDoor
open Go.RowKit
structure Th (base : Nat) where
 P : World → (Nat → Prop) → Prop
 kept : ∀ {w w' : World} {S T : Nat → Prop}, (∀ k, S k → base ≤ k ∧ k < w.heap.size) → P w S → Kept T w w' → (∀ k, S k → ¬ T k) → P w' S
 mono : ∀ {w : World} {S T : Nat → Prop}, P w S → (∀ k, S k → T k) → (∀ k, T k → base ≤ k ∧ k < w.heap.size) → P w T
def Th.no (base : Nat) : Th base := ⟨fun _ _ => True, fun _ _ _ _ => trivial, fun _ _ _ => trivial⟩
def Th.blk (base B : Nat) (C : World → Prop) (hC : ∀ w w' : World, w.heap.size ≤ w'.heap.size → w'.heap[B]? = w.heap[B]? → C w → C w') : Th base :=
 ⟨fun w S => S B ∧ C w, fun hl h hk hd => ⟨h.1, hC _ _ hk.size (hk.block B (hl B h.1).2 (hd B h.1)) h.2⟩, fun h hT _ => ⟨hT B h.1, h.2⟩⟩
def Th.log (base G : Nat) (b : Bk) : Th base :=
 ⟨fun w S => ∃ dv lv, LogAt w base S G dv lv b, fun _ h hk hd => by obtain ⟨dv, lv, h⟩ := h; exact ⟨dv, lv, h.kept hk hd⟩, fun h hT hl => by obtain ⟨dv, lv, h⟩ := h; exact ⟨dv, lv, h.mono hT hl⟩⟩
def Th.pw (base P : Nat) (r : Wr) (ts : List (List Ch)) : Th base :=
 ⟨fun w S => ∃ lv ov tvs, PwAt w base S P lv ov tvs r.list r.opens ts r.me r.next r.seen r.sent, fun _ h hk hd => by obtain ⟨lv, ov, tvs, h⟩ := h; exact ⟨lv, ov, tvs, h.kept hk hd⟩, fun h hT hl => by obtain ⟨lv, ov, tvs, h⟩ := h; exact ⟨lv, ov, tvs, h.mono hT hl⟩⟩
section
variable {base : Nat} {cs : Nat → Th base} {w w' : World}
def updT (cs : Nat → Th base) (i : Nat) (c : Th base) : Nat → Th base := fun j => if j = i then c else cs j
theorem updT_same (cs : Nat → Th base) (i : Nat) (c : Th base) : updT cs i c i = c := if_pos rfl
theorem updT_other (cs : Nat → Th base) {i j : Nat} (c : Th base) (h : j ≠ i) : updT cs i c j = cs j := if_neg h
structure HpAt (base : Nat) (cs : Nat → Th base) (ow : Nat → Nat) (w : World) : Prop where
 lo : ∀ k, ow k ≠ 0 → base ≤ k ∧ k < w.heap.size
 bs : base ≤ w.heap.size
 at_ : ∀ i, i ≠ 0 → (cs i).P w (fun k => ow k = i)
def moreT (ow : Nat → Nat) (i : Nat) (w w' : World) : Nat → Nat := fun k => if k < w.heap.size then ow k else if k < w'.heap.size then i else 0
theorem HpAt.turn {ow : Nat → Nat} (h : HpAt base cs ow w) {i : Nat} (hi : i ≠ 0) {c : Th base} (hk : Kept (fun k => ow k = i) w w') (hc : c.P w' (grow (fun k => ow k = i) w w')) : HpAt base (updT cs i c) (moreT ow i w w') w' := by
 have hlo : ∀ j, j ≠ 0 → ∀ k, ow k = j → base ≤ k ∧ k < w.heap.size := fun j hj k e => h.lo k (by rw [e]; exact hj)
 have hs := hk.size
 have hb := h.bs
 have hl' : ∀ k, moreT ow i w w' k ≠ 0 → base ≤ k ∧ k < w'.heap.size := by
  intro k hk'
  unfold moreT at hk'
  by_cases h1 : k < w.heap.size
  ·rw [if_pos h1] at hk'
   have := h.lo k hk'
   omega
  ·rw [if_neg h1] at hk'
   by_cases h2 : k < w'.heap.size
   ·omega
   ·rw [if_neg h2] at hk'; exact absurd rfl hk'
 refine ⟨hl', Nat.le_trans hb hs, fun j hj => ?_⟩
 by_cases e : j = i
 ·subst e
  rw [updT_same]
  refine c.mono hc (fun k e => ?_) (fun k e => hl' k (by rw [e]; exact hj))
  unfold moreT
  rcases e with e | e
  ·rw [if_pos (hlo j hj k e).2]; exact e
  ·rw [if_neg (by omega), if_pos e.2]
 ·rw [updT_other _ _ e]
  have h1 := (cs j).kept (hlo j hj) (h.at_ j hj) hk (fun k e1 e2 => e (by rw [← e1, e2]))
  refine (cs j).mono h1 (fun k e1 => ?_) (fun k e1 => hl' k (by rw [e1]; exact hj))
  unfold moreT
  rw [if_pos (hlo j hj k e1).2]
  exact e1
structure HqAt (base : Nat) (cs : Nat → Th base) (w0 : World) (S : Nat → Prop) (ow : Nat → Nat) (wk : World) : Prop where
 at_ : HpAt base cs ow wk
 old : ∀ k, ow k ≠ 0 → grow S w0 wk k
 kept : Kept S w0 wk
def Hq (base : Nat) (cs : Nat → Th base) (w0 : World) (S : Nat → Prop) (wk : World) : Prop := ∃ ow, HqAt base cs w0 S ow wk
variable {w0 wk : World} {S : Nat → Prop}
theorem Kept.wider {S T : Nat → Prop} (h : Kept S w w') (hT : ∀ k, S k → T k) : Kept T w w' := ⟨h.os, h.tape, h.output, h.size, fun k hk hn => h.block k hk (fun e => hn (hT k e))⟩
theorem Hq.base_le (h : Hq base cs w0 S wk) : base ≤ wk.heap.size := by
 obtain ⟨_, h⟩ := h
 exact h.at_.bs
theorem Hq.kept (h : Hq base cs w0 S wk) : Kept S w0 wk := by
 obtain ⟨_, h⟩ := h
 exact h.kept
theorem Hq.turn (h : Hq base cs w0 S wk) {i : Nat} (hi : i ≠ 0) : ∃ T, (cs i).P wk T ∧ (∀ k, T k → base ≤ k ∧ k < wk.heap.size) ∧ ∀ (c : Th base) (w' : World), Kept T wk w' → c.P w' (grow T wk w') → Hq base (updT cs i c) w0 S w' := by
 obtain ⟨ow, h⟩ := h
 have hlo : ∀ k, ow k = i → base ≤ k ∧ k < wk.heap.size := fun k e => h.at_.lo k (by rw [e]; exact hi)
 refine ⟨fun k => ow k = i, h.at_.at_ i hi, hlo, fun c w' hk hc => ⟨moreT ow i wk w', h.at_.turn hi hk hc, fun k e => ?_, h.kept.trans (hk.wider (fun k e => h.old k (by rw [e]; exact hi)))⟩⟩
 have hs := hk.size
 have hs0 := h.kept.size
 unfold moreT at e
 by_cases h1 : k < wk.heap.size
 ·rw [if_pos h1] at e
  rcases h.old k e with x | x
  ·exact .inl x
  ·exact .inr ⟨x.1, by omega⟩
 ·rw [if_neg h1] at e
  by_cases h2 : k < w'.heap.size
  ·exact .inr ⟨by omega, h2⟩
  ·rw [if_neg h2] at e; exact absurd rfl e
theorem Hq.after (h : Hq base cs w0 S wk) (hb : Below wk.heap.size wk w') : Hq base cs w0 S w' := by
 obtain ⟨ow, h⟩ := h
 have hs := hb.size
 refine ⟨ow, ⟨fun k e => ⟨(h.at_.lo k e).1, Nat.lt_of_lt_of_le (h.at_.lo k e).2 hs⟩, Nat.le_trans h.at_.bs hs, fun i hi => ?_⟩, fun k e => ?_, h.kept.after hb⟩
 ·exact (cs i).kept (fun k e => h.at_.lo k (by rw [e]; exact hi)) (h.at_.at_ i hi) (Kept.of_below (S := fun _ => False) hb) (fun _ _ e => e)
 ·rcases h.old k e with x | x
  ·exact .inl x
  ·exact .inr ⟨x.1, by omega⟩
theorem Hq.imp {cs' : Nat → Th base} (h : Hq base cs w0 S wk) (hc : ∀ i, i ≠ 0 → ∀ T, (∀ k, T k → base ≤ k ∧ k < wk.heap.size) → (cs i).P wk T → (cs' i).P wk T) : Hq base cs' w0 S wk := by
 obtain ⟨ow, h⟩ := h
 exact ⟨ow, ⟨h.at_.lo, h.at_.bs, fun i hi => hc i hi _ (fun k e => h.at_.lo k (by rw [e]; exact hi)) (h.at_.at_ i hi)⟩, h.old, h.kept⟩
theorem Hq.get (h : Hq base cs w0 S wk) {i : Nat} (hi : i ≠ 0) : ∃ T, (cs i).P wk T ∧ ∀ k, T k → base ≤ k ∧ k < wk.heap.size := by
 obtain ⟨T, h1, h2, _⟩ := h.turn hi
 exact ⟨T, h1, h2⟩
theorem Hq.lay (h : Hq base cs w0 S wk) (hb : Below wk.heap.size wk w') {i : Nat} (hi : i ≠ 0) (c : Th base) (hc : c.P w' (fun k => wk.heap.size ≤ k ∧ k < w'.heap.size)) : Hq base (updT cs i c) w0 S w' := by
 obtain ⟨T, _, h2, h3⟩ := h.turn hi
 have hs := hb.size
 have hbs := h.base_le
 refine h3 c w' (.of_below hb) (c.mono hc (fun k e => .inr e) (fun k e => ?_))
 rcases e with e | e
 ·have := h2 k e; omega
 ·omega
theorem Hq.start (w : World) : Hq w.heap.size (fun _ => Th.no _) w (fun _ => False) w := ⟨fun _ => 0, ⟨fun _ e => absurd rfl e, Nat.le_refl _, fun _ _ => trivial⟩, fun _ e => absurd rfl e, Kept.refl _ _⟩
end
end Go.Proofs.YtcbnnfeelhlapadGreatDoor

/-
  Plain mathematics of a town: what its writers keep of what their open deeds took away, step by step. No walk.
-/
namespace Go.Proofs.YtcbnnfeelhlapadGreatDoor
structure TR (t : Twn) (tk : Int → List (List Ch)) : Prop where
 ti : TwI t
 rel : ∀ k w, t.ws k = some w → Rel w (tk k)
theorem setF_self {α : Type} (f : Int → α) (v : Int) : setF f v (f v) = f := by
 funext k
 by_cases e : k = v
 ·subst e; exact setF_same _ _ _
 ·exact setF_other _ _ e
section
variable {t t' : Twn} {tk : Int → List (List Ch)} {v : Int} {w w' : Wr}
theorem TR.set (h : TR t tk) (hti : TwI t') (hws : t'.ws = setF t.ws v (some w')) {x : List (List Ch)} (hr : Rel w' x) : TR t' (setF tk v x) := by
 refine ⟨hti, fun k y hk => ?_⟩
 rw [hws] at hk
 by_cases e : k = v
 ·subst e
  rw [setF_same] at hk ⊢
  obtain rfl := Option.some.inj hk
  exact hr
 ·rw [setF_other _ _ e] at hk ⊢
  exact h.rel k y hk
theorem TR.same (h : TR t tk) (hti : TwI t') (hws : ∀ k w, t'.ws k = some w → t.ws k = some w) : TR t' tk := ⟨hti, fun k w hk => h.rel k w (hws k w hk)⟩
theorem tr_start : TR ⟨Bk.empty, fun _ => none⟩ (fun _ => []) := ⟨twn_start, fun _ _ e => (by cases e)⟩
theorem tr_join (h : TR t tk) (hc : joinC t.b v = 0) : TR ⟨joinB t.b v, setF t.ws v (some (newW t.b v))⟩ (setF tk v []) := by
 have h1 := ti_join h.ti v
 unfold joinT at h1
 simp only [hc, if_true] at h1
 exact h.set h1 rfl (Rel.comes_in h.ti.good v)
theorem tr_own (h : TR t tk) (hw : t.ws v = some w) (s : Tst) (hc : doC w.list (ownD w s) openN = 0) : TR ⟨t.b, setF t.ws v (some (doesW w (ownD w s)))⟩ (setF tk v (tk v ++ [tookL w.list (ownD w s)])) := by
 have h1 := ti_own h.ti hw s
 unfold ownT at h1
 simp only [hc, if_true] at h1
 obtain ⟨o1, o2, _⟩ := own_parts w s
 exact h.set h1 rfl ((h.rel v w hw).does o1 o2 hc)
theorem tr_send (h : TR t tk) (hw : t.ws v = some w) {d : Dd} (hd : w.opens[w.sent]? = some d) (hc : comesC t.b d = 0) : TR ⟨comesB t.b d, setF t.ws v (some (sentW w))⟩ tk := by
 have h1 := ti_send h.ti hw
 unfold sendT at h1
 simp only [hd, hc, if_true] at h1
 have h2 := h.set h1 rfl ((h.rel v w hw).sends (w.sent + 1))
 rw [setF_self] at h2
 exact h2
theorem tr_drop (h : TR t tk) (hw : t.ws v = some w) : TR (dropT t v) tk := by
 refine h.same (h.ti.drop (h.ti.is_here hw).1) (fun k y hk => ?_)
 have hk' : setF t.ws v none k = some y := hk
 by_cases e : k = v
 ·subst e; rw [setF_same] at hk'; cases hk'
 ·rw [setF_other _ _ e] at hk'; exact hk'
theorem tr_clear (h : TR t tk) (hw : t.ws v = some w) : TR ⟨t.b, setF t.ws v (some (clearW w (leastFor t.b w.seen)))⟩ tk := by
 obtain ⟨hm, c, hi⟩ := h.ti.wi _ w hw
 obtain ⟨l1, l2⟩ := least_for t.b w.seen
 obtain ⟨c', hc', _⟩ := hi.clears h.ti.good l1 l2
 have h1 : TwI ⟨t.b, setF t.ws v (some (clearW w (leastFor t.b w.seen)))⟩ := h.ti.set h.ti.good (h.ti.is_here hw).2 hm ⟨c', hc'⟩ (fun _ _ _ _ _ x => x) (fun _ _ x => x)
 have h2 := h.set h1 rfl ((h.rel v w hw).clears hi h.ti.good (hi.opens_least l1 l2))
 rw [setF_self] at h2
 exact h2
def heardK (w : Wr) (d : Dd) (ts : List (List Ch)) : List (List Ch) := if d.by_ ≠ w.me then ts else ts.tail.map fun u => u.map (numF d.no ((w.seen : Int) + 1))
theorem tr_hear (h : TR t tk) (hw : t.ws v = some w) {d : Dd} (hd : t.b.ds[w.seen]? = some d) (hc : hearC w d = 0) : TR ⟨saysB t.b v (hearW w d).least, setF t.ws v (some (hearW w d))⟩ (setF tk v (heardK w d (tk v))) := by
 have h1 := (ti_hear h.ti hw).1
 unfold hearT at h1
 simp only [hd, hc, if_true] at h1
 obtain ⟨hm, c, hi⟩ := h.ti.wi _ w hw
 have hr := h.rel v w hw
 obtain ⟨hl, rfl⟩ := List.getElem?_eq_some_iff.1 hd
 refine h.set h1 rfl ?_
 unfold hearW heardK
 by_cases hb : t.b.ds[w.seen].by_ = w.me
 ·rw [if_neg (fun x => x hb), if_neg (fun x => x hb)]
  obtain ⟨es, hes, _⟩ := hi.own_first hl hb
  have htk := hr.tk
  rw [hes] at htk
  cases htv : tk v with
  | nil => rw [htv] at htk; exact htk.elim
  | cons u us =>
   rw [htv] at hr
   have := (hr.hears_own hi h.ti.good hl hes).1
   rw [hes]
   exact this
 ·rw [if_pos hb, if_pos hb]
  exact hr.hears_other hi h.ti.good hl hb
end
end Go.Proofs.YtcbnnfeelhlapadGreatDoor
