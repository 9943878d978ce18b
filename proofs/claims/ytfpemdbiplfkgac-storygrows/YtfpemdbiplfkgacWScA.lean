/-
  The law's own example of a story (storyBegun).
-/
import Derived.Test.YtfpemdbiplfkgacStB
import Derived.Test.YtfpemdbiplfkgacTRel
import Derived.Test.YtfpemdbiplfkgacRAll
namespace Go.Proofs.Ytfpemdbiplfkgac
open Go Go.RowKit

def stS : List Tst := [⟨1, 0, 0, 0, ⟨#[]⟩⟩, ⟨2, 0, 0, 0, ⟨#[97, 98]⟩⟩, ⟨4, 0, 0, 0, ⟨#[]⟩⟩]
def stT : Twn := playT twn0 stS
theorem stL : stT.b.ds.length = 1 := by decide +kernel
theorem stX : (thS stT.b 1).map (·.c) = [97, 98] := by decide +kernel
theorem stY : (thS stT.b 1).map (·.by_) = [0, 0] := by decide +kernel
theorem stI : inS stT.b 1 = true := by decide +kernel
theorem stW : whS (thS stT.b 1) ⟨0, 0, 1, 1, 0, 0, 0⟩ = 1 := by decide +kernel
theorem stStr : strOfNums [97, 98] = ⟨#[97, 98]⟩ := by rfl

abbrev stObj : Obj := .cells #[.int .i64 1, .int .i64 0, .int .i64 0, .int .i64 0, .string ⟨#[]⟩, .int .i64 2, .int .i64 0, .int .i64 0, .int .i64 0, .string ⟨#[97, 98]⟩, .int .i64 4, .int .i64 0, .int .i64 0, .int .i64 0, .string ⟨#[]⟩] 67

theorem stS_lst (w : World) : TLst (w.alloc stObj) (.slice (some ⟨w.heap.size, 0, none⟩) 3 3) stS := by
  refine ⟨_, 3, 3, rfl, rfl, Nat.le_refl _, .inr ⟨_, 0, rfl, by simp, fun i hi => ?_⟩⟩
  have hi3 : i < 3 := hi
  rcases (show i = 0 ∨ i = 1 ∨ i = 2 by omega) with rfl | rfl | rfl
  · refine ⟨by simp, ?_, ?_, ?_, ?_, ?_⟩ <;> simp [go_sem, stS]
  · refine ⟨by simp, ?_, ?_, ?_, ?_, ?_⟩ <;> simp [go_sem, stS]
  · refine ⟨by simp, ?_, ?_, ?_, ?_, ?_⟩ <;> simp [go_sem, stS]

theorem stI_lst (w : World) : ILst (w.alloc (.cells #[.int .i64 0, .int .i64 0] 3)) (.slice (some ⟨w.heap.size, 0, none⟩) 2 2) [0, 0] := by
  refine ⟨_, 2, 2, rfl, rfl, Nat.le_refl _, .inr ⟨_, 0, rfl, by simp, fun i hi => ?_⟩⟩
  have hi3 : i < 2 := hi
  rcases (show i = 0 ∨ i = 1 by omega) with rfl | rfl <;> simp [go_sem]

set_option maxRecDepth 20000 in
set_option maxHeartbeats 3200000 in
theorem sbegun_any (w : World) : Calls Try.prog 39 #[] w fun e w' => e = .returned (.bool true) ∧ Below w.heap.size w w' := by
  go_enter Try.func39, Try.ntmps39
  go_wp2_with fail
  refine (tbegun_any _).mono ?_
  rintro e w0 ⟨rfl, hb0⟩
  have HB0 : Hid (Below w.heap.size w w0) := hb0
  clear hb0
  go_wp2_with fail
  refine (played_at _ stS _ (stS_lst w0) (by decide)).mono ?_
  rintro e w1 ⟨D, G, pw, rfl, hd⟩
  have HB1 : Hid (Below w.heap.size w w1) := below_after (below_after HB0.out (below1 _ _)) hd.below
  have H1 : Hid (∃ base w0 S, DkAny base w0 S D G pw stT w1) := ⟨_, _, _, hd⟩
  have g0 := hd.cells.book
  have hlt0 := hd.cells.lt
  clear hd HB0
  go_wp2_with fail
  clear g0 hlt0
  obtain ⟨base, wz, S, hd⟩ := H1.out
  refine (of_dk hd).mono ?_
  rintro e w2 ⟨P, rfl, hs, hb⟩
  have H2 : Hid (StTo w2 w1.heap.size P stT.b) := hs
  have HB2 : Hid (Below w.heap.size w w2) := below_after HB1.out hb
  clear hs hb hd H1 HB1
  generalize w1.heap.size = lo at *
  go_wp2_with fail
  refine (text_st H2.out 1).mono ?_
  rintro e w3 ⟨rfl, hb⟩
  rw [stX, stI, stStr]
  have H3 : Hid (StTo w3 lo P stT.b) := H2.out.below hb
  have HB3 : Hid (Below w.heap.size w w3) := below_after HB2.out hb
  clear hb H2 HB2
  go_wp2_with fail
  refine (by_st H3.out 1).mono ?_
  rintro e w4 ⟨v4, rfl, hi, hb⟩
  rw [stI]
  rw [stY] at hi
  have H4 : Hid (StTo w4 lo P stT.b) := H3.out.below hb
  have HB4 : Hid (Below w.heap.size w w4) := below_after HB3.out hb
  have HI : Hid (ILst w4 v4 [0, 0]) := hi
  obtain ⟨a4, c4, rfl⟩ := hi.len
  clear hb hi H3 HB3
  go_wp2_with fail
  refine (sameInts_eq (HI.out.below (below1 _ _)) (stI_lst w4) (by decide)).mono ?_
  rintro e w5 ⟨rfl, hb⟩
  have H5 : Hid (StTo w5 lo P stT.b) := (H4.out.below (below1 _ _)).below hb
  have HB5 : Hid (Below w.heap.size w w5) := below_after (below_after HB4.out (below1 _ _)) hb
  clear hb HI H4 HB4
  go_wp2_with fail
  refine (len_st H5.out (by rw [stL]; decide)).mono ?_
  rintro e w6 ⟨rfl, hw6⟩
  rw [hw6, stL]
  clear hw6 w6
  go_wp2_with fail
  refine (where_st H5.out 1 ⟨0, 0, 1, 1, 0, 0, 0⟩).mono ?_
  rintro e w7 ⟨rfl, hb⟩
  rw [stW]
  have HB7 : Hid (Below w.heap.size w w7) := below_after HB5.out hb
  clear hb H5 HB5
  go_wp2_with fail
  go_ret
  exact ⟨rfl, HB7.out⟩

end Go.Proofs.Ytfpemdbiplfkgac

/-
  A writer by the document: Own, NewScribe, Chars, Least, Text, ClearOf, Clear; SameDeeds: their contracts.
-/
namespace Go.Proofs.Ytfpemdbiplfkgac
open Go.RowKit

theorem ScC.setSeen {w : World} {Q : Nat} {bv ov : Value} {me seen next sent : Int} (h : ScC w Q bv ov me seen next sent) (x : Int) : ScC (w.setCell ⟨Q, 1, none⟩ (.int .i64 x)) Q bv ov me x next sent := by
  obtain ⟨hlt, c0, c1, c2, c3, c4, c5, hf⟩ := h
  refine ⟨by simpa using hlt, ?_, ?_, ?_, ?_, ?_, ?_, fun o ho => by simpa [go_sem] using hf o ho⟩
  · simp [go_sem, c0]
  · simp [go_sem, c1]
  · simp [go_sem, c2]
  · simp [go_sem, c3]
  · simp [go_sem, c4]
  · simp [go_sem, c5]
theorem ScC.setNext {w : World} {Q : Nat} {bv ov : Value} {me seen next sent : Int} (h : ScC w Q bv ov me seen next sent) (x : Int) : ScC (w.setCell ⟨Q, 2, none⟩ (.int .i64 x)) Q bv ov me seen x sent := by
  obtain ⟨hlt, c0, c1, c2, c3, c4, c5, hf⟩ := h
  refine ⟨by simpa using hlt, ?_, ?_, ?_, ?_, ?_, ?_, fun o ho => by simpa [go_sem] using hf o ho⟩
  · simp [go_sem, c0]
  · simp [go_sem, c1]
  · simp [go_sem, c2]
  · simp [go_sem, c3]
  · simp [go_sem, c4]
  · simp [go_sem, c5]
theorem ScC.setBase {w : World} {Q : Nat} {bv ov : Value} {me seen next sent : Int} (h : ScC w Q bv ov me seen next sent) (x : Value) : ScC (w.setCell ⟨Q, 3, none⟩ x) Q x ov me seen next sent := by
  obtain ⟨hlt, c0, c1, c2, c3, c4, c5, hf⟩ := h
  refine ⟨by simpa using hlt, ?_, ?_, ?_, ?_, ?_, ?_, fun o ho => by simpa [go_sem] using hf o ho⟩
  · simp [go_sem, c0]
  · simp [go_sem, c1]
  · simp [go_sem, c2]
  · simp [go_sem, c3]
  · simp [go_sem, c4]
  · simp [go_sem, c5]
theorem ScC.setOpens {w : World} {Q : Nat} {bv ov : Value} {me seen next sent : Int} (h : ScC w Q bv ov me seen next sent) (x : Value) : ScC (w.setCell ⟨Q, 4, none⟩ x) Q bv x me seen next sent := by
  obtain ⟨hlt, c0, c1, c2, c3, c4, c5, hf⟩ := h
  refine ⟨by simpa using hlt, ?_, ?_, ?_, ?_, ?_, ?_, fun o ho => by simpa [go_sem] using hf o ho⟩
  · simp [go_sem, c0]
  · simp [go_sem, c1]
  · simp [go_sem, c2]
  · simp [go_sem, c3]
  · simp [go_sem, c4]
  · simp [go_sem, c5]
theorem ScC.setSent {w : World} {Q : Nat} {bv ov : Value} {me seen next sent : Int} (h : ScC w Q bv ov me seen next sent) (x : Int) : ScC (w.setCell ⟨Q, 5, none⟩ (.int .i64 x)) Q bv ov me seen next x := by
  obtain ⟨hlt, c0, c1, c2, c3, c4, c5, hf⟩ := h
  refine ⟨by simpa using hlt, ?_, ?_, ?_, ?_, ?_, ?_, fun o ho => by simpa [go_sem] using hf o ho⟩
  · simp [go_sem, c0]
  · simp [go_sem, c1]
  · simp [go_sem, c2]
  · simp [go_sem, c3]
  · simp [go_sem, c4]
  · simp [go_sem, c5]

theorem ScAt.wrote {w : World} {base Q : Nat} {S : Nat → Prop} {bv ov : Value} {l : List Ch} {es : List Dd} {me seen next sent : Int} (h : ScAt w base S Q bv ov l es me seen next sent) {me' seen' next' sent' : Int} {o : Nat} {u : Value} (hc : ScC (w.setCell ⟨Q, o, none⟩ u) Q bv ov me' seen' next' sent') : ScAt (w.setCell ⟨Q, o, none⟩ u) base S Q bv ov l es me' seen' next' sent' := by
  have hne : ∀ k, k ≠ Q → (w.setCell ⟨Q, o, none⟩ u).heap[k]? = w.heap[k]? := fun k e => Below.heap_setCell _ _ _ _ e
  have hsz : (w.setCell ⟨Q, o, none⟩ u).heap.size = w.heap.size := by simp [World.setCell]
  exact ⟨fun k hs => by rw [hsz]; exact h.lo k hs, h.hQ, hc, owns_block h.ownB (fun k e => hne k (h.bB k e).2), owns_block h.ownO (fun k e => hne k (h.oB k e).2.1), h.bB, h.oB⟩

/-- A new list comes in its place. -/
theorem ScAt.rebase {w : World} {base Q : Nat} {S : Nat → Prop} {bv ov : Value} {l : List Ch} {es : List Dd} {me seen next sent : Int} (h : ScAt w base S Q bv ov l es me seen next sent) {w1 : World} {bv' : Value} {l' : List Ch} (hb : Below w.heap.size w w1) (ho : Own w1 w.heap.size bv' l') : ScAt (w1.setCell ⟨Q, 3, none⟩ bv') base (grow S w w1) Q bv' ov l' es me seen next sent := by
  have h1 := h.below hb
  have hQ := (h.lo Q h.hQ).2
  have hsz : (w1.setCell ⟨Q, 3, none⟩ bv').heap.size = w1.heap.size := by simp [World.setCell]
  have hne : ∀ k, k ≠ Q → (w1.setCell ⟨Q, 3, none⟩ bv').heap[k]? = w1.heap[k]? := fun k e => Below.heap_setCell _ _ _ _ e
  have hnew : ∀ k, bv'.ownBlock = some k → w.heap.size ≤ k ∧ k < w1.heap.size := fun k e => World.ownsRow.lt ho k e
  refine ⟨fun k hs => by rw [hsz]; exact grow_lo h.base_le hb.size h.lo k hs, .inl h.hQ, h1.cells.setBase _, owns_block (ho.mono h.base_le) (fun k e => hne k (by have := hnew k e; omega)), owns_block h1.ownO (fun k e => hne k (h1.oB k e).2.1), fun k e => ⟨.inr (hnew k e), by have := hnew k e; omega⟩, fun k e => ⟨.inl (h.oB k e).1, (h.oB k e).2.1, fun e' => ?_⟩⟩
  have := hnew k e'; have := (h.lo k (h.oB k e).1).2; omega

theorem ScTo.of {w w' : World} {base Q : Nat} {S : Nat → Prop} {bv ov : Value} {l : List Ch} {es : List Dd} {me seen next sent : Int} (hat : ScAt w' base (grow S w w') Q bv ov l es me seen next sent) (hk : Kept S w w') : ScTo w base S Q l es me seen next sent w' := ⟨⟨bv, ov, hat⟩, hk⟩

theorem refOwn_lst {w : World} {v : Value} {l : List Ch} (h : Lst w v l) (hl : l.length ≤ 1000) :
    Calls Try.prog 77 #[v] w fun e w' => ∃ v', e = .returned v' ∧ Own w' w.heap.size v' l ∧ Below w.heap.size w w' := by
  have HL : Hid (Lst w v l) := h
  obtain ⟨a, cap, rfl, _⟩ := h.len
  clear h
  go_enter Try.func77, Try.ntmps77
  go_wp2_with (at_builtin; refine append_lst _ rfl (.tmp 4) (.tmp 5) rfl w.heap.size (v := .slice none 0 0) (u := .slice a l.length cap) (a := []) rfl rfl (own_nil _ _) HL.out ?c0 (Nat.le_refl _) ?_)
  case c0 => simp; omega
  intro v' w' ho hg
  have HO : Hid (Own w' w.heap.size v' l) := ho
  have HB : Hid (Below w.heap.size w w') := (Below.refl _ w).grown hg (Nat.le_refl _) (by intro k hk; cases hk)
  clear ho hg
  go_wp2
  go_ret
  exact ⟨_, rfl, HO.out, HB.out⟩

abbrev scObj (me seen next : Int) (bv : Value) : Obj := .cells #[.int .i64 me, .int .i64 seen, .int .i64 next, bv, .slice none 0 0, .int .i64 0] 122

theorem scAt_new {w w1 : World} {v1 : Value} {l : List Ch} (ho : Own w1 w.heap.size v1 l) (hb : Below w.heap.size w w1) (me seen next : Int) :
    ScAt (w1.alloc (scObj me seen next v1)) w.heap.size (fun k => w.heap.size ≤ k ∧ k < w1.heap.size + 1) w1.heap.size v1 (.slice none 0 0) l [] me seen next 0 := by
  have hs := hb.size
  refine ⟨fun k hk => by simpa using hk, ⟨hs, by omega⟩, ⟨by simp, ?_, ?_, ?_, ?_, ?_, ?_, fun o ho' => ?_⟩, ho.below (below1 _ _), ownD_nil _ _, fun k e => ?_, fun k e => (by cases e)⟩
  · simp [go_sem]
  · simp [go_sem]
  · simp [go_sem]
  · simp [go_sem]
  · simp [go_sem]
  · simp [go_sem]
  · rcases (show o = 0 ∨ o = 1 ∨ o = 2 ∨ o = 3 ∨ o = 4 ∨ o = 5 by omega) with rfl | rfl | rfl | rfl | rfl | rfl <;> simp [go_sem]
  · have := World.ownsRow.lt ho k e
    exact ⟨⟨this.1, by omega⟩, by omega⟩

set_option maxRecDepth 20000 in
set_option maxHeartbeats 400000 in
theorem new_sc {w : World} {v : Value} {l : List Ch} (h : Lst w v l) (hl : l.length ≤ 1000) (me next seen : Int) :
    Calls Try.prog 50 #[.int .i64 me, .int .i64 next, .int .i64 seen, v] w fun e w' => ∃ Q v1, e = .returned (.pointer (some ⟨Q, 0, none⟩)) ∧ ScAt w' w.heap.size (fun k => w.heap.size ≤ k ∧ k < w'.heap.size) Q v1 (.slice none 0 0) l [] me seen next 0 ∧ Below w.heap.size w w' := by
  have HL : Hid (Lst w v l) := h
  obtain ⟨a, cap, rfl, _⟩ := h.len
  clear h
  go_enter Try.func50, Try.ntmps50
  go_wp2_with fail
  refine (refOwn_lst HL.out hl).mono ?_
  rintro e w3 ⟨v3, rfl, ho3, hb3⟩
  have HB3 : Hid (Below w.heap.size w w3) := hb3
  have HP : Hid (ScAt (w3.alloc (scObj me seen next v3)) w.heap.size (fun k => w.heap.size ≤ k ∧ k < w3.heap.size + 1) w3.heap.size v3 (.slice none 0 0) l [] me seen next 0) := scAt_new ho3 hb3 me seen next
  obtain ⟨va, vc, rfl, _⟩ := ho3.lst.len
  clear ho3 hb3
  go_wp2
  go_ret
  exact ⟨w3.heap.size, _, rfl, by simpa using HP.out, HB3.out.trans ((below1 _ _).mono HB3.out.size)⟩

theorem onTop_take {l : List Ch} {es : List Dd} {k : Nat} (h : k < es.length) : onTop l (es.take (k + 1)) = doL (onTop l (es.take k)) es[k] openN := by
  rw [List.take_succ_eq_append_getElem h, onTop_snoc]

theorem OwnD.nth {w : World} {base : Nat} {v : Value} {es : List Dd} (h : OwnD w base v es) {k : Nat} (hk : k < es.length) : ∃ b cap, v = .slice (some ⟨b, 0, none⟩) es.length cap ∧ DdAt w b (k * 7) es[k] := by
  obtain ⟨h1, h2⟩ := h
  rcases h2 with ⟨rfl, hn⟩ | ⟨g, cap, cur, rfl, hb, hg, hnc, hr⟩
  · omega
  · have h' : OwnD w base (.slice (some ⟨g, 0, none⟩) es.length cap) es := ⟨h1, .inr ⟨g, cap, cur, rfl, hb, hg, hnc, hr⟩⟩
    have hlt := (Array.getElem?_eq_some_iff.1 hg).1
    have key : ∀ r, r < 7 → w.cell? ⟨g, k * 7 + r, none⟩ = (ddCells es[k])[r]? := fun r hr => by
      rw [World.ownsRow.cellAt h' (k * 7 + r) (by omega), cellsD_get es k r hk hr]
    exact ⟨g, cap, rfl, ⟨hlt, key 0 (by omega), key 1 (by omega), key 2 (by omega), key 3 (by omega), key 4 (by omega), key 5 (by omega), key 6 (by omega)⟩⟩

set_option maxRecDepth 20000 in
set_option maxHeartbeats 800000 in
theorem chars_sc {w : World} {base Q : Nat} {S : Nat → Prop} {bv ov : Value} {l : List Ch} {es : List Dd} {me seen next sent : Int} (h : ScAt w base S Q bv ov l es me seen next sent) (hes : es.length ≤ 1000) (ht : TopOk l es) :
    Calls Try.prog 79 #[.pointer (some ⟨Q, 0, none⟩)] w fun e w' => ∃ v', e = .returned v' ∧ Lst w' v' (onTop l es) ∧ Below w.heap.size w w' := by
  have HA : Hid (ScAt w base S Q bv ov l es me seen next sent) := h
  have HT : Hid (TopOk l es) := ht
  have c3 := h.cells.base
  have hlt := h.cells.lt
  obtain ⟨oa, ocap, rfl⟩ := OwnD.len h.ownO
  have HL0 : Hid (Lst w bv (onTop l (es.take 0))) := h.ownB.lst
  obtain ⟨ba, bc, hbv, _⟩ := h.ownB.lst.len
  subst hbv
  generalize l.length = ll at *
  clear h ht
  go_enter Try.func79, Try.ntmps79
  go_wp2
  clear c3
  go_loopw [3, 4] (fun u i wr => ∃ k : Nat, k ≤ es.length ∧ i = .int .i64 k ∧ Hid (Below w.heap.size w wr) ∧ Hid (Lst wr u (onTop l (es.take k)))) (fun _ i _ => es.length - (intOf i).toNat)
  case atStart => exact ⟨0, Nat.zero_le _, rfl, Below.refl _ _, HL0⟩
  case round =>
    obtain ⟨k, hk, rfl, HB, HK⟩ := hrel
    clear HL0
    have hA := HA.out.below HB.out
    have c4 := hA.cells.opens
    have hltr := hA.cells.lt
    obtain ⟨ua, uc, hu, _⟩ := HK.out.len
    subst hu
    have HU : Hid (∃ n, (onTop l (es.take k)).length = n) := ⟨_, rfl⟩
    obtain ⟨ul, hul⟩ := HU.out
    rw [hul] at HK ⊢
    clear HU hul
    by_cases hk2 : k < es.length
    · obtain ⟨b, cap, hov, hdd⟩ := hA.ownO.nth hk2
      simp only [Value.slice.injEq] at hov
      obtain ⟨rfl, -, rfl⟩ := hov
      obtain ⟨hbl, g0, g1, g2, g3, g4, g5, g6⟩ := hdd
      have HOK : Hid (doC (onTop l (es.take k)) es[k] openN = 0) := HT.out.ok k hk2
      have HSU : Hid (onTop l (es.take (k + 1)) = doL (onTop l (es.take k)) es[k] openN) := onTop_take hk2
      have HTM : Hid _ := HT.out.tame k hk
      have HDO : Hid (∀ d, d = es[k] → Calls Try.prog 78 #[.slice ua ul uc, ddV d, .int .i64 1073741824] wr fun e w' => ∃ v', e = .returned (.tuple #[v', .int .i64 (doC (onTop l (es.take k)) d openN)]) ∧ Own w' wr.heap.size v' (doR (onTop l (es.take k)) d openN) ∧ Below wr.heap.size wr w') := fun d _ => refDo_open _ d _ wr HK.out HTM.out.2 HTM.out.1
      generalize hd : es[k] = d at *
      have HDD : Hid (d = d) := rfl
      obtain ⟨kind, by_, no, dseen, at_, many, text⟩ := d
      simp only at g0 g1 g2 g3 g4 g5 g6
      clear hA hd HTM
      go_wp2_with fail
      refine (HDO.out _ rfl).mono ?_
      rintro e w2 ⟨v2, rfl, ho2, hb2⟩
      rw [HOK.out]
      have HO2 : Hid (Lst w2 v2 (onTop l (es.take (k + 1)))) := by
        show Lst _ _ _
        rw [HSU.out]
        have := ho2.lst
        rw [doR, if_pos HOK.out] at this
        exact this
      have HB2 : Hid (Below w.heap.size w w2) := below_after HB.out hb2
      clear ho2 hb2 HDO HOK HSU g0 g1 g2 g3 g4 g5 g6 c4 HB HK
      go_wp2
      go_roundw
      case rel => exact ⟨k + 1, by omega, by go_num, HB2, HO2⟩
      case measure => simp [intOf]; omega
    · obtain rfl : k = es.length := by omega
      have HE : Hid (onTop l (es.take es.length) = onTop l es) := by show _ = _; rw [List.take_length]
      clear hA
      go_wp2
      go_ret
      exact ⟨_, rfl, by rw [← HE.out]; exact HK.out, HB.out⟩

theorem of_take_snoc (least : Int) (l : List Ch) {k : Nat} (h : k < l.length) : ofL least (l.take (k + 1)) = ofL least (l.take k) ++ if doneB least l[k] = true then [] else [l[k]] := ofL_take_succ least l k h

set_option maxRecDepth 20000 in
set_option maxHeartbeats 800000 in
theorem clearOf_lst {w : World} {v : Value} {l : List Ch} (least : Int) (h : Lst w v l) (hl : l.length ≤ 1000) (ht : Tame l) :
    Calls Try.prog 84 #[v, .int .i64 least] w fun e w' => ∃ v', e = .returned v' ∧ Own w' w.heap.size v' (ofL least l) ∧ Below w.heap.size w w' := by
  have HL : Hid (Lst w v l) := h
  have HT : Hid (Tame l) := ht
  obtain ⟨a, cap, rfl, _⟩ := h.len
  clear h ht
  generalize hn : l.length = n at *
  have HN : Hid (l.length = n) := hn
  clear hn
  go_enter Try.func84, Try.ntmps84
  go_wp2
  go_loopw [5, 6] (fun u i wr => ∃ k : Nat, k ≤ n ∧ i = .int .i64 k ∧ Hid (Below w.heap.size w wr) ∧ Hid (Own wr w.heap.size u (ofL least (l.take k)))) (fun _ i _ => n - (intOf i).toNat)
  case atStart => exact ⟨0, Nat.zero_le _, rfl, Below.refl _ _, own_nil _ _⟩
  case round =>
    obtain ⟨k, hk, rfl, HB, HO⟩ := hrel
    obtain ⟨ua, uc, hu, _⟩ := HO.out.lst.len
    subst hu
    have HZ : Hid ((ofL least (l.take k)).length ≤ 1000) := by
      have h1 := ofL_le least (l.take k)
      have h2 : (l.take k).length ≤ k := List.length_take_le _ _
      show _ ≤ _
      omega
    have HU : Hid (∃ m, (ofL least (l.take k)).length = m) := ⟨_, rfl⟩
    obtain ⟨ul, hul⟩ := HU.out
    rw [hul] at HO ⊢
    clear HU hul
    by_cases hlt : k < n
    · have hkl : k < l.length := by rw [HN.out]; exact hlt
      obtain ⟨b, off, rfl, _, hr⟩ := (HL.out.below HB.out).row (by omega)
      obtain ⟨g0, g1, g2, g3, g4, g5, g6⟩ := hr.at_ k hkl
      have ht0 := (tame_get HT.out k hkl).1
      have HS : Hid (_ = _) := of_take_snoc least l hkl
      generalize l[k] = x at *
      obtain ⟨xc, xb, xn, xk, xi, xo, xg⟩ := x
      simp only at g0 g1 g2 g3 g4 g5 g6 ht0
      have hsz := HB.out.size
      clear hr
      by_cases ho0 : xo = 0
      · have HS2 : Hid (ofL least (l.take (k + 1)) = ofL least (l.take k) ++ [⟨xc, xb, xn, xk, xi, xo, xg⟩]) := by show _ = _; rw [HS.out, if_neg (by simp [doneB, ho0])]
        have ho' : (xo == 0) = true := by simp [ho0]
        clear ho0 HS
        go_wp2_with (at_builtin; refine append_lst _ rfl (.tmp 36) (.tmp 41) rfl w.heap.size (v := .slice ua ul uc) (u := .slice (some ⟨_, 0, none⟩) 1 1) (b := [⟨xc, xb, xn, xk, xi, xo, xg⟩]) rfl rfl (HO.out.below ((Below.refl _ _).alloc (Nat.le_refl _) _)) (lst_one' _ ⟨xc, xb, xn, xk, xi, xo, xg⟩ (by simp)) ?ca ?cb ?_)
        case ca => have := HZ.out; first | omega | (simp; omega)
        case cb => first | omega | (simp; omega)
        intro v8 w8 ho hg
        have HO8 : Hid (Own w8 w.heap.size v8 (ofL least (l.take (k + 1)))) := by show Own _ _ _ _; rw [HS2.out]; exact ho
        have HB8 : Hid (Below w.heap.size w w8) := (HB.out.trans ((below1 _ _).mono hsz)).grown hg (by simp; omega) (fun k' hk' => (World.ownsRow.lt HO.out k' hk').1)
        clear ho hg g0 g1 g2 g3 g4 g5 g6
        go_wp2
        go_roundw
        case rel => exact ⟨k + 1, by omega, by go_num, HB8, HO8⟩
        case measure => simp [intOf]; omega
      · have ho' : (xo == 0) = false := by simp [ho0]
        by_cases hle : xo ≤ least
        · have HS2 : Hid (ofL least (l.take (k + 1)) = ofL least (l.take k)) := by show _ = _; rw [HS.out, if_pos (by simp [doneB, ho0, hle])]; simp
          have hg' : ¬ least < xo := by omega
          have hn0 : ¬ xo < 0 := by omega
          clear HS ho0
          go_wp2
          go_roundw
          case rel => exact ⟨k + 1, by omega, by go_num, HB, by rw [HS2.out]; exact HO⟩
          case measure => simp [intOf]; omega
        · have HS2 : Hid (ofL least (l.take (k + 1)) = ofL least (l.take k) ++ [⟨xc, xb, xn, xk, xi, xo, xg⟩]) := by show _ = _; rw [HS.out, if_neg (by simp [doneB]; omega)]
          have hg' : least < xo := by omega
          clear HS ho0
          go_wp2_with (at_builtin; refine append_lst _ rfl (.tmp 36) (.tmp 41) rfl w.heap.size (v := .slice ua ul uc) (u := .slice (some ⟨_, 0, none⟩) 1 1) (b := [⟨xc, xb, xn, xk, xi, xo, xg⟩]) rfl rfl (HO.out.below ((Below.refl _ _).alloc (Nat.le_refl _) _)) (lst_one' _ ⟨xc, xb, xn, xk, xi, xo, xg⟩ (by simp)) ?ca ?cb ?_)
          case ca => have := HZ.out; first | omega | (simp; omega)
          case cb => first | omega | (simp; omega)
          intro v8 w8 ho hg
          have HO8 : Hid (Own w8 w.heap.size v8 (ofL least (l.take (k + 1)))) := by show Own _ _ _ _; rw [HS2.out]; exact ho
          have HB8 : Hid (Below w.heap.size w w8) := (HB.out.trans ((below1 _ _).mono hsz)).grown hg (by simp; omega) (fun k' hk' => (World.ownsRow.lt HO.out k' hk').1)
          clear ho hg g0 g1 g2 g3 g4 g5 g6
          go_wp2
          go_roundw
          case rel => exact ⟨k + 1, by omega, by go_num, HB8, HO8⟩
          case measure => simp [intOf]; omega
    · obtain rfl : k = n := by omega
      have HE : Hid (ofL least (l.take k) = ofL least l) := by show _ = _; rw [← HN.out, List.take_length]
      go_wp2
      go_ret
      exact ⟨_, rfl, by rw [← HE.out]; exact HO.out, HB.out⟩

set_option maxRecDepth 20000 in
set_option maxHeartbeats 400000 in
theorem clear_sc {w : World} {base Q : Nat} {S : Nat → Prop} {bv ov : Value} {l : List Ch} {es : List Dd} {me seen next sent : Int} (h : ScAt w base S Q bv ov l es me seen next sent) (hl : l.length ≤ 1000) (ht : Tame l) (least : Int) :
    Calls Try.prog 58 #[.pointer (some ⟨Q, 0, none⟩), .int .i64 least] w fun e w' => e = .returned (.tuple #[]) ∧ ScTo w base S Q (ofL least l) es me seen next sent w' := by
  have HA : Hid (ScAt w base S Q bv ov l es me seen next sent) := h
  have HL : Hid (Lst w bv l) := h.ownB.lst
  have HT : Hid (Tame l) := ht
  have c3 := h.cells.base
  have hlt := h.cells.lt
  obtain ⟨la, lcap, hbv, _⟩ := h.ownB.lst.len
  subst hbv
  clear h ht
  go_enter Try.func58, Try.ntmps58
  go_wp2_with fail
  refine (clearOf_lst least HL.out hl HT.out).mono ?_
  rintro e w1 ⟨v1, rfl, ho, hb⟩
  obtain ⟨va, vcap, rfl, _⟩ := ho.lst.len
  have hc9 := (HA.out.below hb).cells
  have hP9 := hc9.lt
  have e3 := hc9.base
  have f3 := hc9.free 3 (by omega)
  have HR : Hid (ScTo w base S Q (ofL least l) es me seen next sent (w1.setCell ⟨Q, 3, none⟩ (.slice va (ofL least l).length vcap))) := ScTo.of (by rw [grow_set]; exact HA.out.rebase hb ho) ((Kept.of_below hb).set (p := ⟨Q, 3, none⟩) HA.out.hQ _)
  clear ho hb hc9
  go_wp2
  go_end0
  exact ⟨rfl, HR.out⟩

set_option maxRecDepth 20000 in
set_option maxHeartbeats 800000 in
theorem sameDeeds_eq {w : World} {va vb : Value} {a : List Dd} (ha : DLst w va a) (hb : DLst w vb a) (hl : a.length ≤ 1000) :
    Calls Try.prog 21 #[va, vb] w fun e w' => e = .returned (.bool true) ∧ Below w.heap.size w w' := by
  have HA : Hid (DLst w va a) := ha
  have HB : Hid (DLst w vb a) := hb
  obtain ⟨aa, n, ca, rfl, e1, _, _⟩ := ha
  obtain ⟨ab, n2, cb, rfl, e2, _, _⟩ := hb
  have hn2 : n2 = n := by omega
  subst hn2
  have HE : Hid (a.length = n2) := e1
  rw [e1] at hl
  clear e1 e2
  go_enter Try.func21, Try.ntmps21
  go_wp2
  go_loopw [5] (fun i wr => ∃ k : Nat, k ≤ n2 ∧ i = .int .i64 k ∧ Hid (Below w.heap.size w wr)) (fun i _ => n2 - (intOf i).toNat)
  case atStart => exact ⟨0, Nat.zero_le _, rfl, Below.refl _ _⟩
  case round =>
    obtain ⟨k, hk, rfl, HW⟩ := hrel
    by_cases hlt : k < n2
    · have hka : k < a.length := by rw [HE.out]; exact hlt
      obtain ⟨a1, l1, c1, he1, _, _, hr1⟩ := HA.out.below HW.out
      obtain ⟨a2, l2, c2, he2, _, _, hr2⟩ := HB.out.below HW.out
      simp only [Value.slice.injEq] at he1 he2
      obtain ⟨rfl, rfl, rfl⟩ := he1
      obtain ⟨rfl, -, rfl⟩ := he2
      rcases hr1 with hr1 | ⟨b1, o1, rfl, hr1⟩
      · omega
      rcases hr2 with hr2 | ⟨b2, o2, rfl, hr2⟩
      · omega
      obtain ⟨hb1, g0, g1, g2, g3, g4, g5, g6⟩ := hr1.at_ k hka
      obtain ⟨hb2, q0, q1, q2, q3, q4, q5, q6⟩ := hr2.at_ k hka
      generalize a[k] = d at *
      obtain ⟨kind, by_, no, dseen, at_, many, text⟩ := d
      simp only at g0 g1 g2 g3 g4 g5 g6 q0 q1 q2 q3 q4 q5 q6
      clear hr1 hr2
      go_wp2
      go_region
      go_wp2
      go_roundw
      case rel => exact ⟨k + 1, by omega, by go_num, below_drewN HW.out _⟩
      case measure => simp [intOf]; omega
    · go_wp2
      go_ret
      exact ⟨rfl, HW.out⟩

end Go.Proofs.Ytfpemdbiplfkgac
