/-
  A writer by the document: Own, NewScribe, Chars, Least, Text, ClearOf, Clear; SameDeeds: their contracts.
-/
import Derived.Test.YtnabhdfodckpdacGreatTPlain
import Derived.Test.YtnabhdfodckpdacGreatBkW
namespace Go.Proofs.YtnabhdfodckpdacGreat
set_option maxRecDepth 20000
open Go.RowKit
theorem ScC.setSeen {w : World} {Q : Nat} {bv ov : Value} {me seen next sent : Int} (h : ScC w Q bv ov me seen next sent) (x : Int) : ScC (w.setCell ⟨Q, 1, none⟩ (.int .i64 x)) Q bv ov me x next sent := by
 obtain ⟨hlt, c0, c1, c2, c3, c4, c5, hf⟩ := h
 refine ⟨by simpa using hlt, ?_, ?_, ?_, ?_, ?_, ?_, fun o ho => by simpa [go_sem] using hf o ho⟩
 ·simp [go_sem, c0]
 ·simp [go_sem, c1]
 ·simp [go_sem, c2]
 ·simp [go_sem, c3]
 ·simp [go_sem, c4]
 ·simp [go_sem, c5]
theorem ScC.setNext {w : World} {Q : Nat} {bv ov : Value} {me seen next sent : Int} (h : ScC w Q bv ov me seen next sent) (x : Int) : ScC (w.setCell ⟨Q, 2, none⟩ (.int .i64 x)) Q bv ov me seen x sent := by
 obtain ⟨hlt, c0, c1, c2, c3, c4, c5, hf⟩ := h
 refine ⟨by simpa using hlt, ?_, ?_, ?_, ?_, ?_, ?_, fun o ho => by simpa [go_sem] using hf o ho⟩
 ·simp [go_sem, c0]
 ·simp [go_sem, c1]
 ·simp [go_sem, c2]
 ·simp [go_sem, c3]
 ·simp [go_sem, c4]
 ·simp [go_sem, c5]
theorem ScC.setBase {w : World} {Q : Nat} {bv ov : Value} {me seen next sent : Int} (h : ScC w Q bv ov me seen next sent) (x : Value) : ScC (w.setCell ⟨Q, 3, none⟩ x) Q x ov me seen next sent := by
 obtain ⟨hlt, c0, c1, c2, c3, c4, c5, hf⟩ := h
 refine ⟨by simpa using hlt, ?_, ?_, ?_, ?_, ?_, ?_, fun o ho => by simpa [go_sem] using hf o ho⟩
 ·simp [go_sem, c0]
 ·simp [go_sem, c1]
 ·simp [go_sem, c2]
 ·simp [go_sem, c3]
 ·simp [go_sem, c4]
 ·simp [go_sem, c5]
theorem ScC.setOpens {w : World} {Q : Nat} {bv ov : Value} {me seen next sent : Int} (h : ScC w Q bv ov me seen next sent) (x : Value) : ScC (w.setCell ⟨Q, 4, none⟩ x) Q bv x me seen next sent := by
 obtain ⟨hlt, c0, c1, c2, c3, c4, c5, hf⟩ := h
 refine ⟨by simpa using hlt, ?_, ?_, ?_, ?_, ?_, ?_, fun o ho => by simpa [go_sem] using hf o ho⟩
 ·simp [go_sem, c0]
 ·simp [go_sem, c1]
 ·simp [go_sem, c2]
 ·simp [go_sem, c3]
 ·simp [go_sem, c4]
 ·simp [go_sem, c5]
theorem ScC.setSent {w : World} {Q : Nat} {bv ov : Value} {me seen next sent : Int} (h : ScC w Q bv ov me seen next sent) (x : Int) : ScC (w.setCell ⟨Q, 5, none⟩ (.int .i64 x)) Q bv ov me seen next x := by
 obtain ⟨hlt, c0, c1, c2, c3, c4, c5, hf⟩ := h
 refine ⟨by simpa using hlt, ?_, ?_, ?_, ?_, ?_, ?_, fun o ho => by simpa [go_sem] using hf o ho⟩
 ·simp [go_sem, c0]
 ·simp [go_sem, c1]
 ·simp [go_sem, c2]
 ·simp [go_sem, c3]
 ·simp [go_sem, c4]
 ·simp [go_sem, c5]
theorem ScAt.wrote {w : World} {base Q : Nat} {S : Nat → Prop} {bv ov : Value} {l : List Ch} {es : List Dd} {me seen next sent : Int} (h : ScAt w base S Q bv ov l es me seen next sent) {me' seen' next' sent' : Int} {o : Nat} {u : Value} (hc : ScC (w.setCell ⟨Q, o, none⟩ u) Q bv ov me' seen' next' sent') : ScAt (w.setCell ⟨Q, o, none⟩ u) base S Q bv ov l es me' seen' next' sent' := by
 have hne : ∀ k, k ≠ Q → (w.setCell ⟨Q, o, none⟩ u).heap[k]? = w.heap[k]? := fun k e => Below.heap_setCell _ _ _ _ e
 have hsz : (w.setCell ⟨Q, o, none⟩ u).heap.size = w.heap.size := by simp [World.setCell]
 exact ⟨fun k hs => by rw [hsz]; exact h.lo k hs, h.hQ, hc, owns_block h.ownB (fun k e => hne k (h.bB k e).2), owns_block h.ownO (fun k e => hne k (h.oB k e).2.1), h.bB, h.oB⟩
theorem ScAt.rebase {w : World} {base Q : Nat} {S : Nat → Prop} {bv ov : Value} {l : List Ch} {es : List Dd} {me seen next sent : Int} (h : ScAt w base S Q bv ov l es me seen next sent) {w1 : World} {bv' : Value} {l' : List Ch} (hb : Below w.heap.size w w1) (ho : Own w1 w.heap.size bv' l') : ScAt (w1.setCell ⟨Q, 3, none⟩ bv') base (grow S w w1) Q bv' ov l' es me seen next sent := by
 have h1 := h.below hb
 have hQ := (h.lo Q h.hQ).2
 have hsz : (w1.setCell ⟨Q, 3, none⟩ bv').heap.size = w1.heap.size := by simp [World.setCell]
 have hne : ∀ k, k ≠ Q → (w1.setCell ⟨Q, 3, none⟩ bv').heap[k]? = w1.heap[k]? := fun k e => Below.heap_setCell _ _ _ _ e
 have hnew : ∀ k, bv'.ownBlock = some k → w.heap.size ≤ k ∧ k < w1.heap.size := fun k e => World.ownsRow.lt ho k e
 refine ⟨fun k hs => by rw [hsz]; exact grow_lo h.base_le hb.size h.lo k hs, .inl h.hQ, h1.cells.setBase _, owns_block (ho.mono h.base_le) (fun k e => hne k (by have := hnew k e; omega)), owns_block h1.ownO (fun k e => hne k (h1.oB k e).2.1), fun k e => ⟨.inr (hnew k e), by have := hnew k e; omega⟩, fun k e => ⟨.inl (h.oB k e).1, (h.oB k e).2.1, fun e' => ?_⟩⟩
 have := hnew k e'; have := (h.lo k (h.oB k e).1).2; omega
theorem ScTo.of {w w' : World} {base Q : Nat} {S : Nat → Prop} {bv ov : Value} {l : List Ch} {es : List Dd} {me seen next sent : Int} (hat : ScAt w' base (grow S w w') Q bv ov l es me seen next sent) (hk : Kept S w w') : ScTo w base S Q l es me seen next sent w' := ⟨⟨bv, ov, hat⟩, hk⟩
theorem refOwn_lst {w : World} {v : Value} {l : List Ch} (h : Lst w v l) (hl : l.length ≤ 1000) :
 Calls Tryz.prog 87 #[v] w fun e w' => ∃ v', e = .returned v' ∧ Own w' w.heap.size v' l ∧ Below w.heap.size w w' := by
 have HL : Hid (Lst w v l) := h
 obtain ⟨a, cap, rfl, _⟩ := h.len
 clear h
 go_enter Tryz.func87, Tryz.ntmps87
 go_wp2_with (at_builtin; refine append_lst _ rfl (.tmp 4) (.tmp 5) rfl w.heap.size (v := .slice none 0 0) (u := .slice a l.length cap) (a := []) rfl rfl (own_nil _ _) HL.out ?c0 (Nat.le_refl _) ?_)
 case c0 => simp; omega
 intro v' w' ho hg
 have HO : Hid (Own w' w.heap.size v' l) := ho
 have HB : Hid (Below w.heap.size w w') := (Below.refl _ w).grown hg (Nat.le_refl _) (by intro k hk; cases hk)
 clear ho hg
 go_wp2
 go_ret
 exact ⟨_, rfl, HO.out, HB.out⟩
abbrev scObj (me seen next : Int) (bv : Value) : Obj := .cells #[.int .i64 me, .int .i64 seen, .int .i64 next, bv, .slice none 0 0, .int .i64 0] 118
theorem scAt_new {w w1 : World} {v1 : Value} {l : List Ch} (ho : Own w1 w.heap.size v1 l) (hb : Below w.heap.size w w1) (me seen next : Int) :
 ScAt (w1.alloc (scObj me seen next v1)) w.heap.size (fun k => w.heap.size ≤ k ∧ k < w1.heap.size + 1) w1.heap.size v1 (.slice none 0 0) l [] me seen next 0 := by
 have hs := hb.size
 refine ⟨fun k hk => by simpa using hk, ⟨hs, by omega⟩, ⟨by simp, ?_, ?_, ?_, ?_, ?_, ?_, fun o ho' => ?_⟩, ho.below (below1 _ _), ownD_nil _ _, fun k e => ?_, fun k e => (by cases e)⟩
 ·simp [go_sem]
 ·simp [go_sem]
 ·simp [go_sem]
 ·simp [go_sem]
 ·simp [go_sem]
 ·simp [go_sem]
 ·rcases (show o = 0 ∨ o = 1 ∨ o = 2 ∨ o = 3 ∨ o = 4 ∨ o = 5 by omega) with rfl | rfl | rfl | rfl | rfl | rfl <;> simp [go_sem]
 ·have := World.ownsRow.lt ho k e
  exact ⟨⟨this.1, by omega⟩, by omega⟩
set_option maxHeartbeats 400000 in
theorem new_sc {w : World} {v : Value} {l : List Ch} (h : Lst w v l) (hl : l.length ≤ 1000) (me next seen : Int) :
 Calls Tryz.prog 41 #[.int .i64 me, .int .i64 next, .int .i64 seen, v] w fun e w' => ∃ Q v1, e = .returned (.pointer (some ⟨Q, 0, none⟩)) ∧ ScAt w' w.heap.size (fun k => w.heap.size ≤ k ∧ k < w'.heap.size) Q v1 (.slice none 0 0) l [] me seen next 0 ∧ Below w.heap.size w w' := by
 have HL : Hid (Lst w v l) := h
 obtain ⟨a, cap, rfl, _⟩ := h.len
 clear h
 go_enter Tryz.func41, Tryz.ntmps41
 go_wp2_with fail
 refine (refOwn_lst HL.out hl).mono ?_
 rintro e w3 ⟨v3, rfl, ho3, hb3⟩
 have HB3 : Hid (Below w.heap.size w w3) := hb3
 have HP : Hid (ScAt (w3.alloc (scObj me seen next v3)) w.heap.size (fun k => w.heap.size ≤ k ∧ k < w3.heap.size + 1) w3.heap.size v3 (.slice none 0 0) l [] me seen next 0) := scAt_new ho3 hb3 me seen next
 obtain ⟨va, vc, rfl, _⟩ := ho3.lst.len
 clear ho3 hb3
 go_wp2
 go_ret
 exact ⟨w3.heap.size, _, rfl, by simpa using HP.out, HB3.out.trans ((below1 _ _).mono HB3.out.size)⟩
theorem onTop_take {l : List Ch} {es : List Dd} {k : Nat} (h : k < es.length) : onTop l (es.take (k + 1)) = doL (onTop l (es.take k)) es[k] openN := by
 rw [List.take_succ_eq_append_getElem h, onTop_snoc]
theorem OwnD.nth {w : World} {base : Nat} {v : Value} {es : List Dd} (h : OwnD w base v es) {k : Nat} (hk : k < es.length) : ∃ b cap, v = .slice (some ⟨b, 0, none⟩) es.length cap ∧ DdAt w b (k * 7) es[k] := by
 obtain ⟨h1, h2⟩ := h
 rcases h2 with ⟨rfl, hn⟩ | ⟨g, cap, cur, rfl, hb, hg, hnc, hr⟩
 ·omega
 ·have h' : OwnD w base (.slice (some ⟨g, 0, none⟩) es.length cap) es := ⟨h1, .inr ⟨g, cap, cur, rfl, hb, hg, hnc, hr⟩⟩
  have hlt := (Array.getElem?_eq_some_iff.1 hg).1
  have key : ∀ r, r < 7 → w.cell? ⟨g, k * 7 + r, none⟩ = (ddCells es[k])[r]? := fun r hr => by
   rw [World.ownsRow.cellAt h' (k * 7 + r) (by omega), cellsD_get es k r hk hr]
  exact ⟨g, cap, rfl, ⟨hlt, key 0 (by omega), key 1 (by omega), key 2 (by omega), key 3 (by omega), key 4 (by omega), key 5 (by omega), key 6 (by omega)⟩⟩
set_option maxHeartbeats 800000 in
theorem chars_sc {w : World} {base Q : Nat} {S : Nat → Prop} {bv ov : Value} {l : List Ch} {es : List Dd} {me seen next sent : Int} (h : ScAt w base S Q bv ov l es me seen next sent) (hes : es.length ≤ 1000) (ht : TopOk l es) :
 Calls Tryz.prog 89 #[.pointer (some ⟨Q, 0, none⟩)] w fun e w' => ∃ v', e = .returned v' ∧ Lst w' v' (onTop l es) ∧ Below w.heap.size w w' := by
 have HA : Hid (ScAt w base S Q bv ov l es me seen next sent) := h
 have HT : Hid (TopOk l es) := ht
 have c3 := h.cells.base
 have hlt := h.cells.lt
 obtain ⟨oa, ocap, rfl⟩ := OwnD.len h.ownO
 have HL0 : Hid (Lst w bv (onTop l (es.take 0))) := h.ownB.lst
 obtain ⟨ba, bc, hbv, _⟩ := h.ownB.lst.len
 subst hbv
 generalize l.length = ll at *
 clear h ht
 go_enter Tryz.func89, Tryz.ntmps89
 go_wp2
 clear c3
 go_loopw [3, 4] (fun u i wr => ∃ k : Nat, k ≤ es.length ∧ i = .int .i64 k ∧ Hid (Below w.heap.size w wr) ∧ Hid (Lst wr u (onTop l (es.take k)))) (fun _ i _ => es.length - (intOf i).toNat)
 case atStart => exact ⟨0, Nat.zero_le _, rfl, Below.refl _ _, HL0⟩
 case round =>
  obtain ⟨k, hk, rfl, HB, HK⟩ := hrel
  clear HL0
  have hA := HA.out.below HB.out
  have c4 := hA.cells.opens
  have hltr := hA.cells.lt
  obtain ⟨ua, uc, hu, _⟩ := HK.out.len
  subst hu
  have HU : Hid (∃ n, (onTop l (es.take k)).length = n) := ⟨_, rfl⟩
  obtain ⟨ul, hul⟩ := HU.out
  rw [hul] at HK ⊢
  clear HU hul
  by_cases hk2 : k < es.length
  ·obtain ⟨b, cap, hov, hdd⟩ := hA.ownO.nth hk2
   simp only [Value.slice.injEq] at hov
   obtain ⟨rfl, -, rfl⟩ := hov
   obtain ⟨hbl, g0, g1, g2, g3, g4, g5, g6⟩ := hdd
   have HOK : Hid (doC (onTop l (es.take k)) es[k] openN = 0) := HT.out.ok k hk2
   have HSU : Hid (onTop l (es.take (k + 1)) = doL (onTop l (es.take k)) es[k] openN) := onTop_take hk2
   have HTM : Hid _ := HT.out.tame k hk
   have HDO : Hid (∀ d, d = es[k] → Calls Tryz.prog 88 #[.slice ua ul uc, ddV d, .int .i64 1073741824] wr fun e w' => ∃ v', e = .returned (.tuple #[v', .int .i64 (doC (onTop l (es.take k)) d openN)]) ∧ Own w' wr.heap.size v' (doR (onTop l (es.take k)) d openN) ∧ Below wr.heap.size wr w') := fun d _ => refDo_open _ d _ wr HK.out HTM.out.2 HTM.out.1
   generalize hd : es[k] = d at *
   have HDD : Hid (d = d) := rfl
   obtain ⟨kind, by_, no, dseen, at_, many, text⟩ := d
   simp only at g0 g1 g2 g3 g4 g5 g6
   clear hA hd HTM
   go_wp2_with fail
   refine (HDO.out _ rfl).mono ?_
   rintro e w2 ⟨v2, rfl, ho2, hb2⟩
   rw [HOK.out]
   have HO2 : Hid (Lst w2 v2 (onTop l (es.take (k + 1)))) := by
    show Lst _ _ _
    rw [HSU.out]
    have := ho2.lst
    rw [doR, if_pos HOK.out] at this
    exact this
   have HB2 : Hid (Below w.heap.size w w2) := bla HB.out hb2
   clear ho2 hb2 HDO HOK HSU g0 g1 g2 g3 g4 g5 g6 c4 HB HK
   go_wp2
   go_roundw
   case rel => exact ⟨k + 1, by omega, by go_num, HB2, HO2⟩
   case measure => simp [intOf]; omega
  ·obtain rfl : k = es.length := by omega
   have HE : Hid (onTop l (es.take es.length) = onTop l es) := by show _ = _; rw [List.take_length]
   clear hA
   go_wp2
   go_ret
   exact ⟨_, rfl, by rw [← HE.out]; exact HK.out, HB.out⟩
set_option maxHeartbeats 400000 in
theorem least_sc {w : World} {base Q : Nat} {S : Nat → Prop} {bv ov : Value} {l : List Ch} {es : List Dd} {me seen next : Int} {sent : Nat} (h : ScAt w base S Q bv ov l es me seen next sent) :
 Calls Tryz.prog 72 #[.pointer (some ⟨Q, 0, none⟩)] w fun e w' => e = .returned (.int .i64 (leastW es sent seen)) ∧ Below w.heap.size w w' := by
 have c2 := h.cells.seen
 have c4 := h.cells.opens
 have c5 := h.cells.sent
 have hlt := h.cells.lt
 by_cases hs : sent < es.length
 ·have HE : Hid (leastW es sent seen = es[sent].seen) := by show leastW es sent seen = _; rw [leastW, List.getElem?_eq_getElem hs]
  obtain ⟨g, cap, rfl, ⟨hg, _, _, _, g3, _, _, _⟩⟩ := h.ownO.nth hs
  generalize es[sent].seen = s at *
  have hs' : (sent : Int) < (es.length : Int) := by omega
  clear h
  go_enter Tryz.func72, Tryz.ntmps72
  go_wp2
  go_quiet (fail)
  go_wp2
  go_quiet (fail)
  go_wp2
  go_ret
  exact ⟨ret_int HE.out.symm, below_drewN (below_drewN (Below.refl _ _) _) _⟩
 ·have HE : Hid (leastW es sent seen = seen) := by show leastW es sent seen = _; rw [leastW, List.getElem?_eq_none (by omega)]
  obtain ⟨a, cap, rfl⟩ := OwnD.len h.ownO
  have hs' : ¬ (sent : Int) < (es.length : Int) := by omega
  clear h
  go_enter Tryz.func72, Tryz.ntmps72
  go_wp2
  go_quiet (fail)
  go_wp2
  go_ret
  exact ⟨ret_int HE.out.symm, below_drewN (Below.refl _ _) _⟩
set_option maxHeartbeats 800000 in
theorem text_sc {w : World} {base Q : Nat} {S : Nat → Prop} {bv ov : Value} {l : List Ch} {es : List Dd} {me seen next sent : Int} (h : ScAt w base S Q bv ov l es me seen next sent) (hes : es.length ≤ 1000) (ht : TopOk l es) :
 Calls Tryz.prog 79 #[.pointer (some ⟨Q, 0, none⟩)] w fun e w' => e = .returned (.string (strOfNums (vw (onTop l es) seen me))) ∧ Below w.heap.size w w' := by
 have HA : Hid (ScAt w base S Q bv ov l es me seen next sent) := h
 have HC : Hid (∀ wk, Below w.heap.size w wk → Calls Tryz.prog 89 #[.pointer (some ⟨Q, 0, none⟩)] wk fun e w' => ∃ v', e = .returned v' ∧ Lst w' v' (onTop l es) ∧ Below wk.heap.size wk w') := fun wk hb => chars_sc (h.below hb) hes ht
 have hte : Tame (onTop l es) ∧ (onTop l es).length ≤ 1000 := by have := ht.tame es.length (Nat.le_refl _); rw [List.take_length] at this; exact this
 have HV : Hid (∀ wk v, Lst wk v (onTop l es) → Calls Tryz.prog 113 #[v, .int .i64 seen, .int .i64 me] wk fun e w' => e = .returned (.string (strOfNums (vw (onTop l es) seen me))) ∧ Below wk.heap.size wk w') := fun wk v hv => refView_lst hv hte.2 hte.1 seen me
 have hlt := h.cells.lt
 generalize strOfNums (vw (onTop l es) seen me) = T at *
 clear h hte ht
 go_enter Tryz.func79, Tryz.ntmps79
 go_wp2
 refine wrs (fun wk => Below w.heap.size w wk) (fun i => i == 1 || i == 10) (fun wk => Below w.heap.size w wk) (by kernel_rfl) (by kernel_rfl) (by kernel_rfl) (fun _ h => h) ((Below.refl _ _).drew) ?_
 refine wss rfl (fun K hK => ?_)
 go_simp
 refine ⟨_, fun _ _ => rfl, hK _ ?_⟩
 clear hK K
 refine wsp rfl rfl (fun u => ∃ a n c, u = .slice a n c) (fun u wk => Below w.heap.size w wk ∧ Lst wk u (onTop l es)) ⟨_, none, 0, 0, rfl⟩ (fun _ _ h => h.1) (fun wk hwk => ?_) (fun v1 hv1 => ?_)
 ·go_simp
  refine (HC.out wk hwk).mono ?_
  rintro e w6 ⟨u, rfl, hs, hb⟩
  obtain ⟨ta, tc, hu, _⟩ := hs.len
  exact ⟨u, rfl, ⟨_, _, _, hu⟩, bla hwk hb, hs⟩
 obtain ⟨va, vn, vc, rfl⟩ := hv1
 refine wss rfl (fun K hK => ?_)
 go_simp
 refine ⟨_, fun _ _ => rfl, hK _ ?_⟩
 clear hK K
 refine wss rfl (fun K hK => ?_)
 go_simp
 refine ⟨_, fun _ _ => rfl, hK _ ?_⟩
 clear hK K
 refine wss rfl (fun K hK => ?_)
 go_simp
 refine ⟨_, fun _ _ => rfl, hK _ ?_⟩
 clear hK K
 refine wss rfl (fun K hK => ?_)
 go_simp
 refine ⟨.int .i64 seen, fun wk hwk => ?_, hK _ ?_⟩
 ·have c := (HA.out.below hwk).cells.seen
  go_simp
 clear hK K
 refine wss rfl (fun K hK => ?_)
 go_simp
 refine ⟨_, fun _ _ => rfl, hK _ ?_⟩
 clear hK K
 refine wss rfl (fun K hK => ?_)
 go_simp
 refine ⟨_, fun _ _ => rfl, hK _ ?_⟩
 clear hK K
 refine wss rfl (fun K hK => ?_)
 go_simp
 refine ⟨_, fun _ _ => rfl, hK _ ?_⟩
 clear hK K
 refine wss rfl (fun K hK => ?_)
 go_simp
 refine ⟨.int .i64 me, fun wk hwk => ?_, hK _ ?_⟩
 ·have c := (HA.out.below hwk).cells.me
  go_simp
 clear hK K
 refine wsp rfl rfl (fun u => u = .string T) (fun u wk => Below w.heap.size w wk) ⟨_, rfl⟩ (fun _ _ h => h) (fun wk hwk => ?_) (fun v10 hv10 => ?_)
 ·go_simp
  refine (HV.out wk _ hwk.2).mono ?_
  rintro e w6 ⟨rfl, hb⟩
  exact ⟨_, rfl, rfl, bla hwk.1 hb⟩
 subst hv10
 refine wss rfl (fun K hK => ?_)
 go_simp
 refine ⟨_, fun _ _ => rfl, hK _ ?_⟩
 clear hK K
 refine wsn (fun w9 hw9 => ?_)
 have H9 : Hid _ := hw9
 clear hw9
 go_wp2
 go_ret
 exact ⟨rfl, H9.out⟩
theorem of_take_snoc (least : Int) (l : List Ch) {k : Nat} (h : k < l.length) : ofL least (l.take (k + 1)) = ofL least (l.take k) ++ if doneB least l[k] = true then [] else [l[k]] := ofL_take_succ least l k h
set_option maxHeartbeats 800000 in
theorem clearOf_lst {w : World} {v : Value} {l : List Ch} (least : Int) (h : Lst w v l) (hl : l.length ≤ 1000) (ht : Tame l) :
 Calls Tryz.prog 93 #[v, .int .i64 least] w fun e w' => ∃ v', e = .returned v' ∧ Own w' w.heap.size v' (ofL least l) ∧ Below w.heap.size w w' := by
 have HL : Hid (Lst w v l) := h
 have HT : Hid (Tame l) := ht
 obtain ⟨a, cap, rfl, _⟩ := h.len
 clear h ht
 generalize hn : l.length = n at *
 have HN : Hid (l.length = n) := hn
 clear hn
 go_enter Tryz.func93, Tryz.ntmps93
 go_wp2
 go_loopw [5, 6] (fun u i wr => ∃ k : Nat, k ≤ n ∧ i = .int .i64 k ∧ Hid (Below w.heap.size w wr) ∧ Hid (Own wr w.heap.size u (ofL least (l.take k)))) (fun _ i _ => n - (intOf i).toNat)
 case atStart => exact ⟨0, Nat.zero_le _, rfl, Below.refl _ _, own_nil _ _⟩
 case round =>
  obtain ⟨k, hk, rfl, HB, HO⟩ := hrel
  obtain ⟨ua, uc, hu, _⟩ := HO.out.lst.len
  subst hu
  have HZ : Hid ((ofL least (l.take k)).length ≤ 1000) := by
   have h1 := ofL_le least (l.take k)
   have h2 : (l.take k).length ≤ k := List.length_take_le _ _
   show _ ≤ _
   omega
  have HU : Hid (∃ m, (ofL least (l.take k)).length = m) := ⟨_, rfl⟩
  obtain ⟨ul, hul⟩ := HU.out
  rw [hul] at HO ⊢
  clear HU hul
  by_cases hlt : k < n
  ·have hkl : k < l.length := by rw [HN.out]; exact hlt
   obtain ⟨b, off, rfl, _, hr⟩ := (HL.out.below HB.out).row (by omega)
   obtain ⟨g0, g1, g2, g3, g4, g5, g6⟩ := hr.at_ k hkl
   have ht0 := (tame_get HT.out k hkl).1
   have HS : Hid (_ = _) := of_take_snoc least l hkl
   generalize l[k] = x at *
   obtain ⟨xc, xb, xn, xk, xi, xo, xg⟩ := x
   simp only at g0 g1 g2 g3 g4 g5 g6 ht0
   have hsz := HB.out.size
   clear hr
   by_cases ho0 : xo = 0
   ·have HS2 : Hid (ofL least (l.take (k + 1)) = ofL least (l.take k) ++ [⟨xc, xb, xn, xk, xi, xo, xg⟩]) := by show _ = _; rw [HS.out, if_neg (by simp [doneB, ho0])]
    have ho' : (xo == 0) = true := by simp [ho0]
    clear ho0 HS
    go_wp2_with (at_builtin; refine append_lst _ rfl (.tmp 36) (.tmp 41) rfl w.heap.size (v := .slice ua ul uc) (u := .slice (some ⟨_, 0, none⟩) 1 1) (b := [⟨xc, xb, xn, xk, xi, xo, xg⟩]) rfl rfl (HO.out.below ((Below.refl _ _).alloc (Nat.le_refl _) _)) (lst_one' _ ⟨xc, xb, xn, xk, xi, xo, xg⟩ (by simp)) ?ca ?cb ?_)
    case ca => have := HZ.out; first | omega | (simp; omega)
    case cb => first | omega | (simp; omega)
    intro v8 w8 ho hg
    have HO8 : Hid (Own w8 w.heap.size v8 (ofL least (l.take (k + 1)))) := by show Own _ _ _ _; rw [HS2.out]; exact ho
    have HB8 : Hid (Below w.heap.size w w8) := (HB.out.trans ((below1 _ _).mono hsz)).grown hg (by simp; omega) (fun k' hk' => (World.ownsRow.lt HO.out k' hk').1)
    clear ho hg g0 g1 g2 g3 g4 g5 g6
    go_wp2
    go_roundw
    case rel => exact ⟨k + 1, by omega, by go_num, HB8, HO8⟩
    case measure => simp [intOf]; omega
   ·have ho' : (xo == 0) = false := by simp [ho0]
    by_cases hle : xo ≤ least
    ·have HS2 : Hid (ofL least (l.take (k + 1)) = ofL least (l.take k)) := by show _ = _; rw [HS.out, if_pos (by simp [doneB, ho0, hle])]; simp
     have hg' : ¬ least < xo := by omega
     have hn0 : ¬ xo < 0 := by omega
     clear HS ho0
     go_wp2
     go_roundw
     case rel => exact ⟨k + 1, by omega, by go_num, HB, by rw [HS2.out]; exact HO⟩
     case measure => simp [intOf]; omega
    ·have HS2 : Hid (ofL least (l.take (k + 1)) = ofL least (l.take k) ++ [⟨xc, xb, xn, xk, xi, xo, xg⟩]) := by show _ = _; rw [HS.out, if_neg (by simp [doneB]; omega)]
     have hg' : least < xo := by omega
     clear HS ho0
     go_wp2_with (at_builtin; refine append_lst _ rfl (.tmp 36) (.tmp 41) rfl w.heap.size (v := .slice ua ul uc) (u := .slice (some ⟨_, 0, none⟩) 1 1) (b := [⟨xc, xb, xn, xk, xi, xo, xg⟩]) rfl rfl (HO.out.below ((Below.refl _ _).alloc (Nat.le_refl _) _)) (lst_one' _ ⟨xc, xb, xn, xk, xi, xo, xg⟩ (by simp)) ?ca ?cb ?_)
     case ca => have := HZ.out; first | omega | (simp; omega)
     case cb => first | omega | (simp; omega)
     intro v8 w8 ho hg
     have HO8 : Hid (Own w8 w.heap.size v8 (ofL least (l.take (k + 1)))) := by show Own _ _ _ _; rw [HS2.out]; exact ho
     have HB8 : Hid (Below w.heap.size w w8) := (HB.out.trans ((below1 _ _).mono hsz)).grown hg (by simp; omega) (fun k' hk' => (World.ownsRow.lt HO.out k' hk').1)
     clear ho hg g0 g1 g2 g3 g4 g5 g6
     go_wp2
     go_roundw
     case rel => exact ⟨k + 1, by omega, by go_num, HB8, HO8⟩
     case measure => simp [intOf]; omega
  ·obtain rfl : k = n := by omega
   have HE : Hid (ofL least (l.take k) = ofL least l) := by show _ = _; rw [← HN.out, List.take_length]
   go_wp2
   go_ret
   exact ⟨_, rfl, by rw [← HE.out]; exact HO.out, HB.out⟩
set_option maxHeartbeats 400000 in
theorem clear_sc {w : World} {base Q : Nat} {S : Nat → Prop} {bv ov : Value} {l : List Ch} {es : List Dd} {me seen next sent : Int} (h : ScAt w base S Q bv ov l es me seen next sent) (hl : l.length ≤ 1000) (ht : Tame l) (least : Int) :
 Calls Tryz.prog 49 #[.pointer (some ⟨Q, 0, none⟩), .int .i64 least] w fun e w' => e = .returned (.tuple #[]) ∧ ScTo w base S Q (ofL least l) es me seen next sent w' := by
 have HA : Hid (ScAt w base S Q bv ov l es me seen next sent) := h
 have HL : Hid (Lst w bv l) := h.ownB.lst
 have HT : Hid (Tame l) := ht
 have c3 := h.cells.base
 have hlt := h.cells.lt
 obtain ⟨la, lcap, hbv, _⟩ := h.ownB.lst.len
 subst hbv
 clear h ht
 go_enter Tryz.func49, Tryz.ntmps49
 go_wp2_with fail
 refine (clearOf_lst least HL.out hl HT.out).mono ?_
 rintro e w1 ⟨v1, rfl, ho, hb⟩
 obtain ⟨va, vcap, rfl, _⟩ := ho.lst.len
 have hc9 := (HA.out.below hb).cells
 have hP9 := hc9.lt
 have e3 := hc9.base
 have f3 := hc9.free 3 (by omega)
 have HR : Hid (ScTo w base S Q (ofL least l) es me seen next sent (w1.setCell ⟨Q, 3, none⟩ (.slice va (ofL least l).length vcap))) := ScTo.of (by rw [grow_set]; exact HA.out.rebase hb ho) ((Kept.of_below hb).set (p := ⟨Q, 3, none⟩) HA.out.hQ _)
 clear ho hb hc9
 go_wp2
 go_end0
 exact ⟨rfl, HR.out⟩
end Go.Proofs.YtnabhdfodckpdacGreat
