/-
  The contract of writer.New.
-/
import Derived.Test.YtnabhdfodckpdacGreatWDoW
import Derived.Test.YtnabhdfodckpdacGreatBegun
import Derived.Test.YtnabhdfodckpdacGreatFSame
import Derived.Test.YtnabhdfodckpdacGreatFBig
import Derived.Test.YtnabhdfodckpdacGreatLeaf
import Derived.Test.YtnabhdfodckpdacGreatFClone
import Derived.Test.YtnabhdfodckpdacGreatWDo
import Derived.Test.YtnabhdfodckpdacGreatLgT
import Derived.Deep.QuietTactic
import Derived.Deep.Cut
import Derived.Test.YtnabhdfodckpdacGreatLgS
import Derived.Test.YtnabhdfodckpdacGreatWRoom
import Derived.Test.YtnabhdfodckpdacGreatRPlain
namespace Go.Proofs.YtnabhdfodckpdacGreat
set_option maxRecDepth 20000
open Go.RowKit
abbrev pwObj (me next seen : Int) (lv : Value) : Obj := .cells #[.int .i64 me, .int .i64 next, .int .i64 seen, lv, .slice none 0 0, .int .i64 0] 88
theorem pwAt_new {w w1 : World} {v1 : Value} {l : List Ch} (ho : Own w1 w.heap.size v1 l) (hb : Below w.heap.size w w1) (me next seen : Int) :
 PwAt (w1.alloc (pwObj me next seen v1)) w.heap.size (fun k => w.heap.size ≤ k ∧ k < w1.heap.size + 1) w1.heap.size v1 (.slice none 0 0) [] l [] [] me next seen 0 := by
 have hs := hb.size
 refine ⟨fun k hk => by simpa using hk, ⟨hs, by omega⟩, ⟨by simp, ?_, ?_, ?_, ?_, ?_, ?_, fun o ho' => ?_⟩, ho.below (below1 _ _), ownO_nil _ _, rfl, trivial, fun k e => ?_, fun k e => (by cases e), fun tv ht => (by cases ht), List.Pairwise.nil⟩
 ·simp [go_sem]
 ·simp [go_sem]
 ·simp [go_sem]
 ·simp [go_sem]
 ·simp [go_sem]
 ·simp [go_sem]
 ·rcases (show o = 0 ∨ o = 1 ∨ o = 2 ∨ o = 3 ∨ o = 4 ∨ o = 5 by omega) with rfl | rfl | rfl | rfl | rfl | rfl <;> simp [go_sem]
 ·have := World.ownsRow.lt ho k e
  exact ⟨⟨this.1, by omega⟩, by omega⟩
set_option maxHeartbeats 800000 in
theorem new_pw {w : World} {v : Value} {l : List Ch} (h : Lst w v l) (hl : l.length ≤ 1000) (me next seen : Int) (hw : wrB me = true) (hn : 1 ≤ next) (hs0 : 0 ≤ seen) (hs : seen ≤ 120) (hck : ∀ r, CheckIs l seen r → r = 0) (hno : (l.any fun x => decide (x.inn = openN)) = false) :
 Calls Tryz.prog 30 #[.int .i64 me, .int .i64 next, .int .i64 seen, v] w fun e w' => ∃ P v1, e = .returned (.pointer (some ⟨P, 0, none⟩)) ∧ PwAt w' w.heap.size (fun k => w.heap.size ≤ k ∧ k < w'.heap.size) P v1 (.slice none 0 0) [] l [] [] me next seen 0 ∧ Below w.heap.size w w' := by
 have HL : Hid (Lst w v l) := h
 have HCK : Hid (∀ r, CheckIs l seen r → r = 0) := hck
 have HNO : Hid ((l.any fun x => decide (x.inn = openN)) = false) := hno
 obtain ⟨a, cap, rfl, _⟩ := h.len
 clear h hck hno
 go_enter Tryz.func30, Tryz.ntmps30
 go_wp2_with (go_at_call 81; refine (writer_any _ _).mono ?_; rintro e wz ⟨rfl, hwz⟩; rw [hw, hwz]; clear hwz wz)
 refine (check_lst HL.out hl seen).mono ?_
 rintro e w1 ⟨r, rfl, hr, hb1⟩
 obtain rfl := HCK.out r hr
 have HB1 : Hid (Below w.heap.size w w1) := hb1
 clear hr hb1
 go_wp2_with fail
 refine (contains_lst (isOpen_looks w1.heap.size) (HL.out.below HB1.out) (Nat.le_refl _) hl trivial).mono ?_
 rintro e w2 ⟨rfl, hb2⟩
 rw [HNO.out]
 have HB2 : Hid (Below w.heap.size w w2) := bla HB1.out hb2
 clear hb2 HB1
 go_wp2_with fail
 refine (clone_lst (HL.out.below HB2.out) (by omega)).mono ?_
 rintro e w3 ⟨v3, rfl, ho3, hb3⟩
 have HB3 : Hid (Below w.heap.size w w3) := bla HB2.out hb3
 have HP : Hid (PwAt (w3.alloc (pwObj me next seen v3)) w.heap.size (fun k => w.heap.size ≤ k ∧ k < w3.heap.size + 1) w3.heap.size v3 (.slice none 0 0) [] l [] [] me next seen 0) := pwAt_new (ho3.mono HB2.out.size) HB3.out me next seen
 obtain ⟨va, vc, rfl, _⟩ := ho3.lst.len
 clear ho3 hb3 HB2
 go_wp2
 go_ret
 exact ⟨w3.heap.size, _, rfl, by simpa using HP.out, HB3.out.trans ((below1 _ _).mono HB3.out.size)⟩
end Go.Proofs.YtnabhdfodckpdacGreat

/-
  Plain mathematics of a writer's open deeds: each can be done in its turn; what is kept of them is short. No walk.
-/
namespace Go.Proofs.YtnabhdfodckpdacGreat
open Go.RowKit
structure TopOk (l : List Ch) (es : List Dd) : Prop where
 ok : ∀ k (h : k < es.length), doC (onTop l (es.take k)) es[k] openN = 0
 tame : ∀ k, k ≤ es.length → Tame (onTop l (es.take k)) ∧ (onTop l (es.take k)).length ≤ 1000
theorem tame_of {b : Bk} {c : Int} {r : Wr} (h : WI b c r) (hg : Good b) : Tame r.base := fun x hx => by have := h.no_open hg x hx; omega
theorem WI.topOk {b : Bk} {c : Int} {r : Wr} (h : WI b c r) (hg : Good b) : TopOk r.base r.opens := by
 obtain ⟨hok, hbl⟩ := h.ok hg
 have ht := tame_of h hg
 have key : ∀ (es : List Dd) (l : List Ch), okTop l es → Tame l → l.length ≤ 200 → (∀ k (hk : k < es.length), doC (onTop l (es.take k)) es[k] openN = 0) ∧ ∀ k, k ≤ es.length → Tame (onTop l (es.take k)) ∧ (onTop l (es.take k)).length ≤ 200 := by
  intro es
  induction es with
  | nil => intro l _ ht hl; exact ⟨fun k hk => absurd hk (Nat.not_lt_zero _), fun k _ => by simpa [onTop] using ⟨ht, hl⟩⟩
  | cons e es ih =>
   intro l ho ht hl
   have hz := doC_zero ho.1
   have hlen := doL_len (l := l) (number := openN) (check_parts hz.1).2.2.2.2.2.2.2.2.2.2.2
   obtain ⟨i1, i2⟩ := ih (doL l e openN) ho.2 (tame_any ht hz.1 (by decide)) (by omega)
   refine ⟨fun k hk => ?_, fun k hk => ?_⟩
   ·cases k with
    | zero => exact ho.1
    | succ k => exact i1 k (by simpa using hk)
   ·cases k with
    | zero => exact ⟨ht, hl⟩
    | succ k => exact i2 k (by simpa using hk)
 obtain ⟨k1, k2⟩ := key r.opens r.base hok ht hbl
 exact ⟨k1, fun k hk => ⟨(k2 k hk).1, by have := (k2 k hk).2; omega⟩⟩
theorem Rel.took_len {r : Wr} {ts : List (List Ch)} (h : Rel r ts) (hl : r.list.length ≤ 200) (hf : fitTop r.base r.opens) : ∀ t ∈ ts, t.length ≤ 1000 := by
 have key : ∀ (es : List Dd) (ts : List (List Ch)) (l : List Ch), tkTop l es ts → fitTop l es → (onTop l es).length ≤ 200 → ∀ t ∈ ts, t.length ≤ 200 := by
  intro es
  induction es with
  | nil => intro ts l h _ _ t ht; cases ts with
   | nil => cases ht
   | cons _ _ => exact h.elim
  | cons e es ih =>
   intro ts l h hf hl t ht
   cases ts with
   | nil => exact h.elim
   | cons t0 ts =>
    rcases List.mem_cons.1 ht with rfl | ht
    ·have h1 := congrArg List.length h.1
     rw [List.length_map, List.length_map] at h1
     have h2 : (tookL l e).length ≤ l.length := by
      unfold tookL
      rw [List.length_take, List.length_drop]
      have := List.length_filter_le (seesC e.seen e.by_) l
      omega
     obtain ⟨_, h3⟩ := fitTop_ok (e :: es) l hf hl
     omega
    ·exact ih ts _ h.2 hf.2 hl t ht
 intro t ht
 have := key r.opens ts r.base h.tk hf hl t ht
 omega
end Go.Proofs.YtnabhdfodckpdacGreat

/-
  What walks over writers want besides their contracts: steps in a large frame, whole calls of Hear, what is known of a writer.
-/
namespace Go.Proofs.YtnabhdfodckpdacGreat
open Go Go.RowKit
section
variable {P : Program} {ops : Array Oper} {U : World → Prop} {sp fin : Nat → Bool}
theorem wsb {Q : Act → World → Prop} {a : Act} {o : Oper} {rest : List Oper} {k : Nat} {D : World → Prop} (d : Option Tmp) (w0 : World) (hs : sp k = false) (v : Value) (hd : o.dst = d) (hw : Region.wanted o (yielded ops a.tmps) = true)
 (hrun : ∀ w, U w → (execOp a.eval o).run P w = .ok (.value v) w) (h : Oper.quiet P ⟨d, .move (.const v), 0, "", #[], none⟩ a (fun _ => True) (fun a' => wpStage P ops U sp Q rest (k + 1) a' D)) : wpStage P ops U sp Q (o :: rest) k a D :=
 wss hs fun K hK => by
  rw [if_pos hw]
  refine ⟨v, hrun, hK _ ?_⟩
  rw [hd]
  exact put_of_quiet w0 h
theorem wpStage_bigSpine {Q : Act → World → Prop} {a : Act} {o : Oper} {rest : List Oper} {k : Nat} {D : World → Prop} (d : Option Tmp) (w0 : World) (hs : sp k = true) (hg : o.guard = none) (hd : o.dst = d) (p : Value → Prop) (D' : Value → World → Prop) (hp : ∃ v, p v) (hU : ∀ v w, D' v w → U w)
 (hrun : ∀ w, D w → spineUpon P (fun v w' => p v ∧ D' v w') ((execOp a.eval o).run P w)) (h : ∀ v, p v → Oper.quiet P ⟨d, .move (.const v), 0, "", #[], none⟩ a (fun _ => True) (fun a' => wpStage P ops U sp Q rest (k + 1) a' (D' v))) : wpStage P ops U sp Q (o :: rest) k a D :=
 wsp hs hg p D' hp hU hrun fun v hv => by
  rw [hd]
  exact put_of_quiet w0 (h v hv)
end
abbrev zObj : Obj := .cells #[.int .i64 0, .int .i64 0, .int .i64 0, .int .i64 0, .int .i64 0, .int .i64 0, .string ⟨#[]⟩] 41
def ptrOf (o : Bool) (P : Nat) : Value := if o = true then .pointer (some ⟨P, 0, none⟩) else .pointer none
def setN (f : Nat → Nat) (k P : Nat) : Nat → Nat := fun j => if j = k then P else f j
def setH (f : Nat → Bool) (k : Nat) : Nat → Bool := fun j => if j = k then true else f j
theorem PwAt.lower {w : World} {base base' P : Nat} {S : Nat → Prop} {lv ov : Value} {tvs : List Value} {l : List Ch} {ts : List (List Ch)} {me next seen sent : Int} (h : PwAt w base S P lv ov tvs l [] ts me next seen sent) (hts : ts = []) (hov : ov = .slice none 0 0) (hb : base' ≤ base) : PwAt w base' S P lv ov tvs l [] ts me next seen sent := by
 subst hts
 subst hov
 have htv : tvs = [] := List.length_eq_zero_iff.1 h.len
 subst htv
 exact ⟨fun k e => ⟨by have := (h.lo k e).1; omega, (h.lo k e).2⟩, h.hP, h.cells, h.ownL.mono hb, ownO_nil _ _, rfl, trivial, h.lB, h.oB, h.tB, h.tD⟩
structure WOk (r : Wr) (ts : List (List Ch)) : Prop where
 len : r.list.length ≤ 200
 fits : FitsL r.list
 few : r.opens.length ≤ 120
 n1 : 1 ≤ r.next
 n2 : r.next ≤ 121
 top : TopOk r.base r.opens
 base : r.base.length ≤ 200
 tame : Tame r.base
 took : ∀ t ∈ ts, t.length ≤ 1000
 seen : r.seen ≤ 120
 tlen : ts.length = r.opens.length
theorem heard_own {w : World} {base P : Nat} {S : Nat → Prop} {lv ov : Value} {tvs : List Value} {l t : List Ch} {d : Dd} {es : List Dd} {ts : List (List Ch)} {me next : Int} {seen sent : Nat} (h : PwAt w base S P lv ov tvs l (d :: es) (t :: ts) me next seen ((sent : Int) + 1)) (hb : d.by_ = me) (hl : l.length ≤ 1000) (hes : es.length ≤ 1000) (hts : ∀ u ∈ t :: ts, u.length ≤ 1000) (hsn : seen ≤ 1000) (hst : sent ≤ 1000) :
 Calls Tryz.prog 32 #[.pointer (some ⟨P, 0, none⟩), ddV d] w fun e w' => e = .returned (.int .i64 0) ∧ PwTo w base S P (l.map (ackF d.no ((seen : Int) + 1) t)) es (ts.map fun u => u.map (numF d.no ((seen : Int) + 1))) me next ((seen : Int) + 1) sent w' := by
 have hlo := h.lo
 have hba := h.base_le
 cases tvs with
 | nil => exact absurd h.len (by simp)
 | cons tv tvs =>
  refine (hearsOwn_pw h d hb (fun c w' => c = 0 ∧ PwTo w base S P (l.map (ackF d.no ((seen : Int) + 1) t)) es (ts.map fun u => u.map (numF d.no ((seen : Int) + 1))) me next ((seen : Int) + 1) sent w') (fun wk hj => ?_)).mono ?_
  ·refine (hearOwn_yes (h.below hj.below) hl hes hts hsn hst).mono ?_
   rintro e w' ⟨rfl, ⟨ov', hat⟩, hk⟩
   have hs1 := hj.below.size
   have hs2 := hk.size
   refine ⟨0, rfl, rfl, PwTo.of (hat.mono (fun k e => .inl e) (fun k e => ?_)) ((Kept.of_below hj.below).trans' hk)⟩
   rcases e with e | e
   ·have := hlo k e; omega
   ·omega
  ·rintro e w' ⟨c, rfl, rfl, ht⟩
   exact ⟨rfl, ht⟩
theorem is_yes {b : Bk} {i : Nat} (hi : i < b.ds.length) : isD b ((i : Int) + 1) = true ∧ nthD b ((i : Int) + 1) = b.ds[i] := by
 have hl : b.len = (b.ds.length : Int) := rfl
 refine ⟨by rw [isD, hl]; simp; omega, ?_⟩
 rw [nthD, if_pos (by rw [hl]; omega), show ((i : Int) + 1 - 1).toNat = i by omega]
 simp [hi]
theorem is_no {b : Bk} {i : Nat} (hi : ¬ i < b.ds.length) : isD b ((i : Int) + 1) = false := by
 have hl : b.len = (b.ds.length : Int) := rfl
 rw [isD, hl]; simp; omega
theorem joinB_ds (b : Bk) (v : Int) : (joinB b v).ds = b.ds := by
 unfold joinB
 split <;> rfl
theorem joinB_chars (b : Bk) (v : Int) : (joinB b v).chars = b.chars := by
 show (allL [] 0 (joinB b v).ds).1 = (allL [] 0 b.ds).1
 rw [joinB_ds]
theorem good_check {b : Bk} (hg : Good b) : ∀ r, CheckIs b.chars (b.ds.length : Int) r → r = 0 := fun r hr => by
 have h := chars_made hg b.ds.length (Nat.le_refl _)
 rw [chars_all] at h
 exact made_check h.1 h.2 hr
theorem good_open {b : Bk} (hg : Good b) : (b.chars.any fun x => decide (x.inn = openN)) = false := by
 have h := chars_made hg b.ds.length (Nat.le_refl _)
 rw [chars_all] at h
 have hs := hg.small
 rw [List.any_eq_false]
 intro x hx
 have := (h.1.inn x hx).2
 have ho : (openN : Int) = 1073741824 := rfl
 simp
 omega
theorem wpStage_bigStore {P : Program} {ops : Array Oper} {U : World → Prop} {sp : Nat → Bool} {Q : Act → World → Prop} {a : Act} {o : Oper} {rest : List Oper} {k : Nat} {D : World → Prop} (hs : sp k = true) (hg : o.guard = none) (hd : o.dst = none) (D' : World → Prop) (hU : ∀ w, D' w → U w)
 (hrun : ∀ w, D w → spineUpon P (fun _ w' => D' w') ((execOp a.eval o).run P w)) (h : wpStage P ops U sp Q rest (k + 1) a D') : wpStage P ops U sp Q (o :: rest) k a D :=
 wsp hs hg (fun _ => True) (fun _ => D') ⟨undef, trivial⟩ (fun _ => hU) (fun w hw => by
  have := hrun w hw
  revert this
  cases (execOp a.eval o).run P w <;> simp [spineUpon]) fun v _ => by
  rw [hd]
  exact h
abbrev logZ : Array Value := #[.bool false, .int .i64 0, .int .i64 0, .bool false, .int .i64 0, .int .i64 0, .bool false, .int .i64 0, .int .i64 0, .bool false, .int .i64 0, .int .i64 0, .slice none 0 0, .slice none 0 0]
theorem logAt_start (w : World) {base : Nat} (hb : base ≤ w.heap.size) : LogAt (w.alloc (.cells logZ 93)) base (fun k => k = w.heap.size) w.heap.size (.slice none 0 0) (.slice none 0 0) Bk.empty := by
 refine ⟨fun k e => ⟨by omega, by simp; omega⟩, rfl, ⟨by simp, fun j hj => ?_, fun j hj => ?_, fun j hj => ?_, by simp [go_sem], by simp [go_sem], fun o ho => ?_⟩, World.ownsRow_nil _ _ _ _, World.ownsRow_nil _ _ _ _, fun k e => by simp [Value.ownBlock] at e, fun k e => by simp [Value.ownBlock] at e⟩
 ·rcases (show j = 0 ∨ j = 1 ∨ j = 2 ∨ j = 3 by omega) with rfl | rfl | rfl | rfl <;> simp [go_sem, Bk.empty]
 ·rcases (show j = 0 ∨ j = 1 ∨ j = 2 ∨ j = 3 by omega) with rfl | rfl | rfl | rfl <;> simp [go_sem, Bk.empty]
 ·rcases (show j = 0 ∨ j = 1 ∨ j = 2 ∨ j = 3 by omega) with rfl | rfl | rfl | rfl <;> simp [go_sem, Bk.empty]
 ·rcases (show o = 0 ∨ o = 1 ∨ o = 2 ∨ o = 3 ∨ o = 4 ∨ o = 5 ∨ o = 6 ∨ o = 7 ∨ o = 8 ∨ o = 9 ∨ o = 10 ∨ o = 11 ∨ o = 12 ∨ o = 13 by omega) with rfl | rfl | rfl | rfl | rfl | rfl | rfl | rfl | rfl | rfl | rfl | rfl | rfl | rfl <;> simp [go_sem]
theorem newL_lg (w : World) : Calls Tryz.prog 36 #[] w fun e w' => e = .returned (.pointer (some ⟨w.heap.size, 0, none⟩)) ∧ w' = w.alloc (.cells logZ 93) := by
 go_enter Tryz.func36, Tryz.ntmps36
 go_wp2
 go_ret
 exact ⟨rfl, rfl⟩
end Go.Proofs.YtnabhdfodckpdacGreat

/-
  Things in memory that each own their blocks: what one of them does leaves all others. No walk.
-/
namespace Go.Proofs.YtnabhdfodckpdacGreat
open Go.RowKit
structure Th (base : Nat) where
 P : World → (Nat → Prop) → Prop
 kept : ∀ {w w' : World} {S T : Nat → Prop}, (∀ k, S k → base ≤ k ∧ k < w.heap.size) → P w S → Kept T w w' → (∀ k, S k → ¬ T k) → P w' S
 mono : ∀ {w : World} {S T : Nat → Prop}, P w S → (∀ k, S k → T k) → (∀ k, T k → base ≤ k ∧ k < w.heap.size) → P w T
def Th.no (base : Nat) : Th base := ⟨fun _ _ => True, fun _ _ _ _ => trivial, fun _ _ _ => trivial⟩
def Th.blk (base B : Nat) (C : World → Prop) (hC : ∀ w w' : World, w.heap.size ≤ w'.heap.size → w'.heap[B]? = w.heap[B]? → C w → C w') : Th base :=
 ⟨fun w S => S B ∧ C w, fun hl h hk hd => ⟨h.1, hC _ _ hk.size (hk.block B (hl B h.1).2 (hd B h.1)) h.2⟩, fun h hT _ => ⟨hT B h.1, h.2⟩⟩
def Th.log (base G : Nat) (b : Bk) : Th base :=
 ⟨fun w S => ∃ dv lv, LogAt w base S G dv lv b, fun _ h hk hd => by obtain ⟨dv, lv, h⟩ := h; exact ⟨dv, lv, h.kept hk hd⟩, fun h hT hl => by obtain ⟨dv, lv, h⟩ := h; exact ⟨dv, lv, h.mono hT hl⟩⟩
def Th.pw (base P : Nat) (r : Wr) (ts : List (List Ch)) : Th base :=
 ⟨fun w S => ∃ lv ov tvs, PwAt w base S P lv ov tvs r.list r.opens ts r.me r.next r.seen r.sent, fun _ h hk hd => by obtain ⟨lv, ov, tvs, h⟩ := h; exact ⟨lv, ov, tvs, h.kept hk hd⟩, fun h hT hl => by obtain ⟨lv, ov, tvs, h⟩ := h; exact ⟨lv, ov, tvs, h.mono hT hl⟩⟩
section
variable {base : Nat} {cs : Nat → Th base} {w w' : World}
def updT (cs : Nat → Th base) (i : Nat) (c : Th base) : Nat → Th base := fun j => if j = i then c else cs j
theorem updT_same (cs : Nat → Th base) (i : Nat) (c : Th base) : updT cs i c i = c := if_pos rfl
theorem updT_other (cs : Nat → Th base) {i j : Nat} (c : Th base) (h : j ≠ i) : updT cs i c j = cs j := if_neg h
structure HpAt (base : Nat) (cs : Nat → Th base) (ow : Nat → Nat) (w : World) : Prop where
 lo : ∀ k, ow k ≠ 0 → base ≤ k ∧ k < w.heap.size
 bs : base ≤ w.heap.size
 at_ : ∀ i, i ≠ 0 → (cs i).P w (fun k => ow k = i)
def moreT (ow : Nat → Nat) (i : Nat) (w w' : World) : Nat → Nat := fun k => if k < w.heap.size then ow k else if k < w'.heap.size then i else 0
theorem HpAt.turn {ow : Nat → Nat} (h : HpAt base cs ow w) {i : Nat} (hi : i ≠ 0) {c : Th base} (hk : Kept (fun k => ow k = i) w w') (hc : c.P w' (grow (fun k => ow k = i) w w')) : HpAt base (updT cs i c) (moreT ow i w w') w' := by
 have hlo : ∀ j, j ≠ 0 → ∀ k, ow k = j → base ≤ k ∧ k < w.heap.size := fun j hj k e => h.lo k (by rw [e]; exact hj)
 have hs := hk.size
 have hb := h.bs
 have hl' : ∀ k, moreT ow i w w' k ≠ 0 → base ≤ k ∧ k < w'.heap.size := by
  intro k hk'
  unfold moreT at hk'
  by_cases h1 : k < w.heap.size
  ·rw [if_pos h1] at hk'
   have := h.lo k hk'
   omega
  ·rw [if_neg h1] at hk'
   by_cases h2 : k < w'.heap.size
   ·omega
   ·rw [if_neg h2] at hk'; exact absurd rfl hk'
 refine ⟨hl', Nat.le_trans hb hs, fun j hj => ?_⟩
 by_cases e : j = i
 ·subst e
  rw [updT_same]
  refine c.mono hc (fun k e => ?_) (fun k e => hl' k (by rw [e]; exact hj))
  unfold moreT
  rcases e with e | e
  ·rw [if_pos (hlo j hj k e).2]; exact e
  ·rw [if_neg (by omega), if_pos e.2]
 ·rw [updT_other _ _ e]
  have h1 := (cs j).kept (hlo j hj) (h.at_ j hj) hk (fun k e1 e2 => e (by rw [← e1, e2]))
  refine (cs j).mono h1 (fun k e1 => ?_) (fun k e1 => hl' k (by rw [e1]; exact hj))
  unfold moreT
  rw [if_pos (hlo j hj k e1).2]
  exact e1
structure HqAt (base : Nat) (cs : Nat → Th base) (w0 : World) (S : Nat → Prop) (ow : Nat → Nat) (wk : World) : Prop where
 at_ : HpAt base cs ow wk
 old : ∀ k, ow k ≠ 0 → grow S w0 wk k
 kept : Kept S w0 wk
def Hq (base : Nat) (cs : Nat → Th base) (w0 : World) (S : Nat → Prop) (wk : World) : Prop := ∃ ow, HqAt base cs w0 S ow wk
variable {w0 wk : World} {S : Nat → Prop}
theorem Kept.wider {S T : Nat → Prop} (h : Kept S w w') (hT : ∀ k, S k → T k) : Kept T w w' := ⟨h.os, h.tape, h.output, h.size, fun k hk hn => h.block k hk (fun e => hn (hT k e))⟩
theorem Hq.base_le (h : Hq base cs w0 S wk) : base ≤ wk.heap.size := by
 obtain ⟨_, h⟩ := h
 exact h.at_.bs
theorem Hq.kept (h : Hq base cs w0 S wk) : Kept S w0 wk := by
 obtain ⟨_, h⟩ := h
 exact h.kept
theorem Hq.turn (h : Hq base cs w0 S wk) {i : Nat} (hi : i ≠ 0) : ∃ T, (cs i).P wk T ∧ (∀ k, T k → base ≤ k ∧ k < wk.heap.size) ∧ ∀ (c : Th base) (w' : World), Kept T wk w' → c.P w' (grow T wk w') → Hq base (updT cs i c) w0 S w' := by
 obtain ⟨ow, h⟩ := h
 have hlo : ∀ k, ow k = i → base ≤ k ∧ k < wk.heap.size := fun k e => h.at_.lo k (by rw [e]; exact hi)
 refine ⟨fun k => ow k = i, h.at_.at_ i hi, hlo, fun c w' hk hc => ⟨moreT ow i wk w', h.at_.turn hi hk hc, fun k e => ?_, h.kept.trans (hk.wider (fun k e => h.old k (by rw [e]; exact hi)))⟩⟩
 have hs := hk.size
 have hs0 := h.kept.size
 unfold moreT at e
 by_cases h1 : k < wk.heap.size
 ·rw [if_pos h1] at e
  rcases h.old k e with x | x
  ·exact .inl x
  ·exact .inr ⟨x.1, by omega⟩
 ·rw [if_neg h1] at e
  by_cases h2 : k < w'.heap.size
  ·exact .inr ⟨by omega, h2⟩
  ·rw [if_neg h2] at e; exact absurd rfl e
theorem Hq.after (h : Hq base cs w0 S wk) (hb : Below wk.heap.size wk w') : Hq base cs w0 S w' := by
 obtain ⟨ow, h⟩ := h
 have hs := hb.size
 refine ⟨ow, ⟨fun k e => ⟨(h.at_.lo k e).1, Nat.lt_of_lt_of_le (h.at_.lo k e).2 hs⟩, Nat.le_trans h.at_.bs hs, fun i hi => ?_⟩, fun k e => ?_, h.kept.after hb⟩
 ·exact (cs i).kept (fun k e => h.at_.lo k (by rw [e]; exact hi)) (h.at_.at_ i hi) (Kept.of_below (S := fun _ => False) hb) (fun _ _ e => e)
 ·rcases h.old k e with x | x
  ·exact .inl x
  ·exact .inr ⟨x.1, by omega⟩
theorem Hq.imp {cs' : Nat → Th base} (h : Hq base cs w0 S wk) (hc : ∀ i, i ≠ 0 → ∀ T, (∀ k, T k → base ≤ k ∧ k < wk.heap.size) → (cs i).P wk T → (cs' i).P wk T) : Hq base cs' w0 S wk := by
 obtain ⟨ow, h⟩ := h
 exact ⟨ow, ⟨h.at_.lo, h.at_.bs, fun i hi => hc i hi _ (fun k e => h.at_.lo k (by rw [e]; exact hi)) (h.at_.at_ i hi)⟩, h.old, h.kept⟩
theorem Hq.get (h : Hq base cs w0 S wk) {i : Nat} (hi : i ≠ 0) : ∃ T, (cs i).P wk T ∧ ∀ k, T k → base ≤ k ∧ k < wk.heap.size := by
 obtain ⟨T, h1, h2, _⟩ := h.turn hi
 exact ⟨T, h1, h2⟩
theorem Hq.lay (h : Hq base cs w0 S wk) (hb : Below wk.heap.size wk w') {i : Nat} (hi : i ≠ 0) (c : Th base) (hc : c.P w' (fun k => wk.heap.size ≤ k ∧ k < w'.heap.size)) : Hq base (updT cs i c) w0 S w' := by
 obtain ⟨T, _, h2, h3⟩ := h.turn hi
 have hs := hb.size
 have hbs := h.base_le
 refine h3 c w' (.of_below hb) (c.mono hc (fun k e => .inr e) (fun k e => ?_))
 rcases e with e | e
 ·have := h2 k e; omega
 ·omega
theorem Hq.start (w : World) : Hq w.heap.size (fun _ => Th.no _) w (fun _ => False) w := ⟨fun _ => 0, ⟨fun _ e => absurd rfl e, Nat.le_refl _, fun _ _ => trivial⟩, fun _ e => absurd rfl e, Kept.refl _ _⟩
end
end Go.Proofs.YtnabhdfodckpdacGreat

/-
  Plain mathematics of a town: a log, and writers at their desks; what steps do, and what always holds. No walk.
-/
namespace Go.Proofs.YtnabhdfodckpdacGreat
structure Tst where
 kind : Int
 w : Int
 at_ : Int
 many : Int
 text : ByteArray
structure Twn where
 b : Bk
 ws : Int → Option Wr
def leastFor (b : Bk) (seen : Nat) : Int := (b.ds.drop seen).foldl (fun n d => if d.seen < n then d.seen else n) (leastL b)
def ownD (w : Wr) (s : Tst) : Dd := if s.kind = 2 then ⟨1, w.me, w.next, w.seen, s.at_, 0, s.text⟩ else ⟨2, w.me, w.next, w.seen, s.at_, s.many, ByteArray.empty⟩
theorem dd_eq (a b : Dd) : (a.kind = b.kind ∧ a.by_ = b.by_ ∧ a.no = b.no ∧ a.seen = b.seen ∧ a.at_ = b.at_ ∧ a.many = b.many ∧ a.text.data = b.text.data) ↔ a = b := by
 obtain ⟨a1, a2, a3, a4, a5, a6, ⟨a7⟩⟩ := a
 obtain ⟨b1, b2, b3, b4, b5, b6, ⟨b7⟩⟩ := b
 simp
instance : DecidableEq Dd := fun a b => decidable_of_iff _ (dd_eq a b)
def doesW (w : Wr) (e : Dd) : Wr := ⟨w.me, w.seen, w.next + 1, w.base, w.opens ++ [e], w.sent⟩
def sentW (w : Wr) : Wr := ⟨w.me, w.seen, w.next, w.base, w.opens, w.sent + 1⟩
def hearC (w : Wr) (d : Dd) : Int := if d.by_ ≠ w.me then doC w.list d ((w.seen : Int) + 1) else if w.opens.head? = some d then 0 else 12
def hearW (w : Wr) (d : Dd) : Wr :=
 if d.by_ ≠ w.me then ⟨w.me, w.seen + 1, w.next, doL w.base d ((w.seen : Int) + 1), w.opens, w.sent⟩ else ⟨w.me, w.seen + 1, w.next, doL w.base d ((w.seen : Int) + 1), w.opens.tail, w.sent - 1⟩
def clearW (w : Wr) (least : Int) : Wr := ⟨w.me, w.seen, w.next, ofL least w.base, w.opens, w.sent⟩
def newW (b : Bk) (v : Int) : Wr := ⟨v, b.ds.length, b.last v + 1, b.chars, [], 0⟩
def dropT (t : Twn) (v : Int) : Twn := ⟨leaveB t.b v, setF t.ws v none⟩
def sendT (t : Twn) (v : Int) (w : Wr) : Int × Twn :=
 match w.opens[w.sent]? with
 | none => (5, t)
 | some d => (comesC t.b d, if comesC t.b d = 0 then ⟨comesB t.b d, setF t.ws v (some (sentW w))⟩ else dropT t v)
def hearT (t : Twn) (v : Int) (w : Wr) : Int × Twn :=
 match t.b.ds[w.seen]? with
 | none => (5, t)
 | some d => if hearC w d = 0 then (saysC t.b v (hearW w d).least, ⟨saysB t.b v (hearW w d).least, setF t.ws v (some (hearW w d))⟩) else (hearC w d, dropT t v)
def ownT (t : Twn) (v : Int) (w : Wr) (s : Tst) : Int × Twn :=
 (doC w.list (ownD w s) openN, if doC w.list (ownD w s) openN = 0 then ⟨t.b, setF t.ws v (some (doesW w (ownD w s)))⟩ else t)
def joinT (t : Twn) (v : Int) : Int × Twn :=
 (joinC t.b v, if joinC t.b v = 0 then ⟨joinB t.b v, setF t.ws v (some (newW t.b v))⟩ else t)
def tDo (t : Twn) (s : Tst) : Int × Twn :=
 if s.kind < 1 ∨ 7 < s.kind then (2, t) else if s.kind = 1 then joinT t s.w else
  match t.ws s.w with
  | none => (5, t)
  | some w =>
   if s.kind = 2 ∨ s.kind = 3 then ownT t s.w w s else if s.kind = 4 then sendT t s.w w else if s.kind = 5 then hearT t s.w w
   else if s.kind = 6 then (0, ⟨t.b, setF t.ws s.w (some (clearW w (leastFor t.b w.seen)))⟩) else (0, dropT t s.w)
structure TwI (t : Twn) : Prop where
 good : Good t.b
 wi : ∀ k w, t.ws k = some w → w.me = k ∧ ∃ c, WI t.b c w
 here : ∀ k, t.b.here k = true → ∃ w, t.ws k = some w
 none : ∀ k, wrB k = false → t.ws k = none
theorem twn_start : TwI ⟨Bk.empty, fun _ => none⟩ := by
 refine ⟨good_empty, fun k w h => ?_, fun k h => ?_, fun _ _ => rfl⟩
 ·cases h
 ·cases h
theorem TwI.set {t : Twn} (h : TwI t) {b' : Bk} {v : Int} {w' : Wr} (hg : Good b') (hv : wrB v = true) (hm : w'.me = v) (hw : ∃ c, WI b' c w') (ho : ∀ k w c, k ≠ v → t.ws k = some w → WI t.b c w → WI b' c w) (hh : ∀ k, k ≠ v → b'.here k = true → t.b.here k = true) :
 TwI ⟨b', setF t.ws v (some w')⟩ := by
 refine ⟨hg, fun k w hk => ?_, fun k hk => ?_, fun k hk => ?_⟩
 ·have hk' : setF t.ws v (some w') k = some w := hk
  by_cases e : k = v
  ·subst e
   rw [setF_same, Option.some.injEq] at hk'
   subst hk'
   exact ⟨hm, hw⟩
  ·rw [setF_other _ _ e] at hk'
   obtain ⟨h1, c, h2⟩ := h.wi k w hk'
   exact ⟨h1, c, ho k w c e hk' h2⟩
 ·show ∃ w, setF t.ws v (some w') k = some w
  by_cases e : k = v
  ·subst e
   exact ⟨w', setF_same _ _ _⟩
  ·rw [setF_other _ _ e]
   exact h.here k (hh k e hk)
 ·show setF t.ws v (some w') k = Option.none
  have e : k ≠ v := fun e => by subst e; rw [hv] at hk; cases hk
  rw [setF_other _ _ e]
  exact h.none k hk
theorem TwI.drop {t : Twn} (h : TwI t) {v : Int} (hv : t.b.isHere v = true) : TwI (dropT t v) := by
 refine ⟨good_leave v h.good, fun k w hk => ?_, fun k hk => ?_, fun k hk => ?_⟩
 ·have hk' : setF t.ws v Option.none k = some w := hk
  by_cases e : k = v
  ·subst e
   rw [setF_same] at hk'; cases hk'
  ·rw [setF_other _ _ e] at hk'
   obtain ⟨h1, c, h2⟩ := h.wi k w hk'
   exact ⟨h1, c, h2.other_leaves (by rw [h1]; exact Ne.symm e)⟩
 ·have hl : leaveC t.b v = 0 := by rw [leaveC, if_pos hv]
  have hk' : (leaveB t.b v).here k = true := hk
  rw [leaveB, if_pos hl] at hk'
  have hk'' : setF t.b.here v false k = true := hk'
  show ∃ w, setF t.ws v Option.none k = some w
  by_cases e : k = v
  ·subst e
   rw [setF_same] at hk''; cases hk''
  ·rw [setF_other _ _ e] at hk'' ⊢
   exact h.here k hk''
 ·show setF t.ws v Option.none k = Option.none
  by_cases e : k = v
  ·subst e; exact setF_same _ _ _
  ·rw [setF_other _ _ e]; exact h.none k hk
theorem TwI.is_here {t : Twn} (h : TwI t) {v : Int} {w : Wr} (hw : t.ws v = some w) : t.b.isHere v = true ∧ wrB v = true := by
 obtain ⟨rfl, c, hi⟩ := h.wi v w hw
 exact ⟨by rw [Bk.isHere, hi.wr, hi.here]; rfl, hi.wr⟩
theorem least_for (b : Bk) (seen : Nat) : leastFor b seen ≤ leastL b ∧ ∀ d ∈ b.ds.drop seen, leastFor b seen ≤ d.seen := by
 have : ∀ (l : List Dd) (n : Int), l.foldl (fun n d => if d.seen < n then d.seen else n) n ≤ n ∧ ∀ d ∈ l, l.foldl (fun n d => if d.seen < n then d.seen else n) n ≤ d.seen := by
  intro l
  induction l with
  | nil => exact fun n => ⟨Int.le_refl _, fun d hd => absurd hd (by simp)⟩
  | cons x l ih =>
   intro n
   obtain ⟨i1, i2⟩ := ih (if x.seen < n then x.seen else n)
   have hle : (if x.seen < n then x.seen else n) ≤ n ∧ (if x.seen < n then x.seen else n) ≤ x.seen := by split <;> omega
   rw [List.foldl_cons]
   refine ⟨by omega, fun d hd => ?_⟩
   rcases List.mem_cons.1 hd with rfl | hd
   ·omega
   ·exact i2 d hd
 exact this _ _
theorem ti_join {t : Twn} (h : TwI t) (v : Int) : TwI (joinT t v).2 := by
 unfold joinT
 by_cases hc : joinC t.b v = 0
 ·show TwI (if joinC t.b v = 0 then _ else _)
  rw [if_pos hc]
  have hv : wrB v = true := by
   unfold joinC at hc
   cases hh : wrB v
   ·rw [if_pos hh] at hc; cases hc
   ·rfl
  refine h.set (good_join v h.good) hv rfl ⟨0, WI.comes_in h.good hc⟩ (fun k w c hk hw hi => ?_) (fun k hk hh => ?_)
  ·obtain ⟨h1, _⟩ := h.wi k w hw
   exact hi.other_joins (by rw [h1]; exact Ne.symm hk)
  ·rw [joinB, if_pos hc] at hh
   have hh' : setF t.b.here v true k = true := hh
   rw [setF_other _ _ hk] at hh'
   exact hh'
 ·show TwI (if joinC t.b v = 0 then _ else _)
  rw [if_neg hc]; exact h
theorem own_parts (w : Wr) (s : Tst) : (ownD w s).by_ = w.me ∧ (ownD w s).no = w.next ∧ (ownD w s).seen = w.seen := by
 unfold ownD
 split <;> exact ⟨rfl, rfl, rfl⟩
theorem ti_own {t : Twn} (h : TwI t) {v : Int} {w : Wr} (hw : t.ws v = some w) (s : Tst) : TwI (ownT t v w s).2 := by
 obtain ⟨hm, c, hi⟩ := h.wi v w hw
 obtain ⟨o1, o2, o3⟩ := own_parts w s
 unfold ownT
 show TwI (if doC w.list (ownD w s) openN = 0 then _ else _)
 by_cases hc : doC w.list (ownD w s) openN = 0
 ·rw [if_pos hc]
  exact h.set h.good (h.is_here hw).2 hm ⟨c, hi.does h.good o1 o2 o3 hc⟩ (fun _ _ _ _ _ x => x) (fun _ _ x => x)
 ·rw [if_neg hc]; exact h
theorem ti_send {t : Twn} (h : TwI t) {v : Int} {w : Wr} (hw : t.ws v = some w) : TwI (sendT t v w).2 := by
 obtain ⟨hm, c, hi⟩ := h.wi v w hw
 unfold sendT
 cases hd : w.opens[w.sent]? with
 | none => exact h
 | some d =>
  show TwI (if comesC t.b d = 0 then _ else _)
  by_cases hc : comesC t.b d = 0
  ·rw [if_pos hc]
   have hb := (hi.own d (List.mem_of_getElem? hd)).1
   refine h.set (good_comes d h.good) (h.is_here hw).2 hm ⟨c, hi.sent_ok hd hc⟩ (fun k w' c' hk hw' hi' => ?_) (fun k _ hh => ?_)
   ·obtain ⟨h1, _⟩ := h.wi k w' hw'
    exact hi'.other_comes (by rw [hb, hm, h1]; exact Ne.symm hk) hc
   ·rw [comes_eq hc] at hh
    exact hh
  ·rw [if_neg hc]
   exact h.drop (h.is_here hw).1
theorem hear_ok {b : Bk} {c : Int} {w : Wr} (hi : WI b c w) (hg : Good b) {d : Dd} (hd : b.ds[w.seen]? = some d) : (hearC w d = 0 ∨ hearC w d = 9) ∧ (hearC w d = 0 → WI b c (hearW w d)) := by
 obtain ⟨hl, rfl⟩ := List.getElem?_eq_some_iff.1 hd
 unfold hearC hearW
 by_cases hb : b.ds[w.seen].by_ = w.me
 ·have hnb : ¬ b.ds[w.seen].by_ ≠ w.me := fun x => x hb
  rw [if_neg hnb, if_neg hnb]
  obtain ⟨es, he, h1⟩ := hi.own_first hl hb
  have hh : w.opens.head? = some b.ds[w.seen] := by rw [he]; rfl
  have ht : w.opens.tail = es := by rw [he]; rfl
  rw [if_pos hh, ht]
  exact ⟨.inl rfl, fun _ => (hi.hears_own hg hl he h1 hb).1⟩
 ·rw [if_pos hb, if_pos hb]
  obtain ⟨h1, h2⟩ := hi.hears_other hg hl hb
  exact ⟨h1, fun hc => (h2 hc).2⟩
theorem hearW_me (w : Wr) (d : Dd) : (hearW w d).me = w.me ∧ (hearW w d).seen = w.seen + 1 := by
 unfold hearW
 split <;> exact ⟨rfl, rfl⟩
theorem ti_hear {t : Twn} (h : TwI t) {v : Int} {w : Wr} (hw : t.ws v = some w) : TwI (hearT t v w).2 ∧ (∀ d, t.b.ds[w.seen]? = some d → hearC w d = 0 → (hearT t v w).1 = 0) := by
 obtain ⟨hm, c, hi⟩ := h.wi v w hw
 unfold hearT
 cases hd : t.b.ds[w.seen]? with
 | none => exact ⟨h, fun d hd => by cases hd⟩
 | some d =>
  obtain ⟨_, h2⟩ := hear_ok hi h.good hd
  by_cases hc : hearC w d = 0
  ·have hs := (h2 hc).says
   rw [(hearW_me w d).1, hm] at hs
   show TwI (if hearC w d = 0 then (_, _) else (_, _)).2 ∧ _
   refine ⟨?_, fun d' hd' hc' => ?_⟩
   ·rw [if_pos hc]
    refine h.set (good_says _ _ h.good) (h.is_here hw).2 ((hearW_me w d).1.trans hm) ⟨c, hs.2⟩ (fun k w' c' hk hw' hi' => ?_) (fun k _ hh => ?_)
    ·obtain ⟨h1, _⟩ := h.wi k w' hw'
     exact hi'.other_says (by rw [h1]; exact Ne.symm hk)
    ·rw [saysB, if_pos hs.1] at hh
     exact hh
   ·show (if hearC w d = 0 then (_, _) else (_, _)).1 = (0 : Int)
    rw [if_pos hc]
    exact hs.1
  ·show TwI (if hearC w d = 0 then (_, _) else (_, _)).2 ∧ _
   refine ⟨?_, fun d' hd' hc' => ?_⟩
   ·rw [if_neg hc]
    exact h.drop (h.is_here hw).1
   ·obtain rfl := Option.some.inj hd'
    exact absurd hc' hc
theorem ti_do {t : Twn} (h : TwI t) (s : Tst) : TwI (tDo t s).2 := by
 unfold tDo
 split
 ·exact h
 ·split
  ·exact ti_join h s.w
  ·cases hw : t.ws s.w with
   | none => exact h
   | some w =>
    show TwI (if s.kind = 2 ∨ s.kind = 3 then ownT t s.w w s else if s.kind = 4 then sendT t s.w w else if s.kind = 5 then hearT t s.w w
     else if s.kind = 6 then (0, ⟨t.b, setF t.ws s.w (some (clearW w (leastFor t.b w.seen)))⟩) else (0, dropT t s.w)).2
    split
    ·exact ti_own h hw s
    ·split
     ·exact ti_send h hw
     ·split
      ·exact (ti_hear h hw).1
      ·split
       ·obtain ⟨hm, c, hi⟩ := h.wi _ w hw
        obtain ⟨l1, l2⟩ := least_for t.b w.seen
        obtain ⟨c', hc', _⟩ := hi.clears h.good l1 l2
        exact h.set h.good (h.is_here hw).2 hm ⟨c', hc'⟩ (fun _ _ _ _ _ x => x) (fun _ _ x => x)
       ·exact h.drop (h.is_here hw).1
theorem gone_do {l : List Ch} {d : Dd} {n : Int} (h : ∀ x ∈ l, x.gone ≠ 0 → x.out ≠ 0) (h1 : 1 ≤ n) (ho : n < openN) : ∀ x ∈ doL l d n, x.gone ≠ 0 → x.out ≠ 0 := by
 by_cases kd : d.kind = 1
 ·rw [doL_put kd]
  intro x hx hg
  rcases ins_mem.1 hx with hx | hx
  ·exact absurd (new_parts hx).2.2.2.1 hg
  ·exact h x hx hg
 ·rw [doL_take kd]
  intro y hy hg
  obtain ⟨x, hx, hxy⟩ := takeL_mem hy
  rcases hxy with rfl | ⟨_, rfl⟩
  ·exact h y hx hg
  ·show markOut n x.out ≠ 0
   unfold markOut
   split
   ·omega
   ·rename_i hc
    intro e
    exact hc ⟨by omega, .inl e⟩
theorem gone_out {b : Bk} (hg : Good b) : ∀ i, i ≤ b.ds.length → ∀ x ∈ charsTo b.ds i, x.gone ≠ 0 → x.out ≠ 0
 | 0, _ => fun x hx => by simp [charsTo, allL] at hx
 | i + 1, hi => by
  obtain ⟨_, s2⟩ := chars_step hg (i := i) (by omega)
  rw [s2]
  have := hg.small
  exact gone_do (gone_out hg i (by omega)) (by omega) (by show (i : Int) + 1 < 1073741824; omega)
theorem vw_text {b : Bk} (hg : Good b) {me : Int} : vw b.chars b.ds.length me = textL b.chars := by
 rw [← good_text hg]
 unfold vw
 congr 1
 apply List.filter_congr
 intro x hx
 rw [← chars_all] at hx
 obtain ⟨hm, _⟩ := chars_made hg b.ds.length (Nat.le_refl _)
 have h1 := hm.inn x hx
 have h2 := hm.out x hx
 have h3 := gone_out hg b.ds.length (Nat.le_refl _) x hx
 have hs := hg.small
 have hw : wrB (-1) = false := by decide
 show (inB x.inn x.by_ b.ds.length me && !outB x.out x.gone b.ds.length me) = (inB x.inn x.by_ 1073741823 (-1) && !outB x.out x.gone 1073741823 (-1))
 have e1 : inB x.inn x.by_ b.ds.length me = true := by rw [inB, decide_eq_true_eq]; exact .inl h1.2
 have e2 : inB x.inn x.by_ 1073741823 (-1) = true := by rw [inB, decide_eq_true_eq]; exact .inl (by omega)
 have e3 : outB x.out x.gone b.ds.length me = decide (x.out ≠ 0) := by
  unfold outB
  by_cases ho : x.out = 0
  ·have : x.gone = 0 := by
    by_cases hz : x.gone = 0
    ·exact hz
    ·exact absurd ho (h3 hz)
   simp [ho, this, tookB, bitB]
  ·have : x.out ≠ 0 ∧ x.out ≤ b.ds.length := ⟨ho, h2.2.1⟩
   simp [ho, this]
 have e4 : outB x.out x.gone 1073741823 (-1) = decide (x.out ≠ 0) := by
  unfold outB
  rw [tookB, hw]
  by_cases ho : x.out = 0
  ·simp [ho]
  ·have : x.out ≠ 0 ∧ x.out ≤ 1073741823 := ⟨ho, by omega⟩
   simp [ho, this]
 rw [e1, e2, e3, e4]
theorem WI.settled {b : Bk} {c : Int} {w : Wr} (h : WI b c w) (hg : Good b) (hs : w.seen = b.ds.length) (ha : w.sent = w.opens.length) : w.opens = [] ∧ vw w.list w.seen w.me = textL b.chars := by
 have ht := h.told
 rw [hs, List.drop_length, List.filter_nil, ha, List.take_length] at ht
 refine ⟨ht.symm, ?_⟩
 rw [Wr.list, ← ht, onTop, h.base, hs, chars_all, vw_of _ (by have := h.cs; rw [hs] at this; exact this), vw_text hg]
end Go.Proofs.YtnabhdfodckpdacGreat
