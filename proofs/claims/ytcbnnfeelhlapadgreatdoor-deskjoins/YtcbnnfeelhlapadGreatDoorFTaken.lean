/-
  The contracts of fold.May and fold.taken.
-/
import Derived.Test.YtcbnnfeelhlapadGreatDoorFClone
import Derived.Test.YtcbnnfeelhlapadGreatDoorDLeaf
import Derived.BigRegion
namespace Go.Proofs.YtcbnnfeelhlapadGreatDoor
set_option maxRecDepth 20000
open Go.RowKit
structure MInv (w : World) (B : Nat) (d : Dd) (v : Value) (l : List Ch) (wk : World) : Prop where
 below : Below w.heap.size w wk
 at_ : DdAt wk B 0 d
 lst : Lst wk v l
theorem MInv.after {w wk w' : World} {B : Nat} {d : Dd} {v : Value} {l : List Ch} (h : MInv w B d v l wk) (hb : Below wk.heap.size wk w') : MInv w B d v l w' :=
 ⟨bla h.below hb, h.at_.below hb, h.lst.below hb⟩
theorem MInv.drew {w wk : World} {B : Nat} {d : Dd} {v : Value} {l : List Ch} (h : MInv w B d v l wk) : MInv w B d v l wk.drew := h.after (Below.refl _ _).drew
theorem minv_start {w : World} {d : Dd} {v : Value} {l : List Ch} (h : Lst w v l) : MInv w w.heap.size d v l (w.alloc (dObj d)) :=
 have hb : Below w.heap.size w (w.alloc (dObj d)) := (Below.refl _ _).alloc (Nat.le_refl _) _
 ⟨hb, ddat_start w d, h.below hb⟩
theorem count_q {w wk : World} {B : Nat} {d : Dd} {v : Value} {l : List Ch} (h : MInv w B d v l wk) (hl : l.length ≤ 1000) (seen by_ : Int) :
 Calls Tryz.prog 231 #[v, .int .i64 seen, .int .i64 by_] wk fun e w' => e = .returned (.int .i64 (cnt l seen by_)) ∧ MInv w B d v l w' :=
 (count_lst h.lst hl seen by_).mono fun _ _ ⟨he, hb⟩ => ⟨he, h.after hb⟩
theorem mayC_of (l : List Ch) (d : Dd) (h : checkC d = 0) : mayC l d = if cnt l d.seen d.by_ < d.at_ + d.many then 1 else if 200 < l.length + d.text.size then 9 else 0 := by
 rw [mayC, if_neg (fun e => e h)]
set_option maxHeartbeats 800000 in
theorem may_any (l : List Ch) (d : Dd) (v : Value) (w : World) (h : Lst w v l) (hl : l.length ≤ 1000) :
 Calls Tryz.prog 218 #[v, ddV d] w fun e w' => e = .returned (.int .i64 (mayC l d)) ∧ Below w.heap.size w w' := by
 have HI : Hid _ := minv_start (d := d) h
 obtain ⟨ad, cap, rfl, hcap⟩ := h.len
 by_cases hc : checkC d = 0
 ·have HM : Hid _ := mayC_of l d hc
  have hp := check_parts hc
  obtain ⟨kind, by_, no, seen, at_, many, text⟩ := d
  have HC : Hid (checkC ⟨kind, by_, no, seen, at_, many, text⟩ = 0) := hc
  have hcn := cnt_bd l seen by_
  obtain ⟨_, _, _, _, _, _, p1, p2, p3, p4, p5, p6⟩ := hp
  have ht : text.size ≤ 20 := by
   by_cases hk : kind = 1
   ·exact (p5 hk).2.1
   ·have := p6 hk; simp only at this; omega
  simp only at p1 p2 p3 p4 HM
  clear h hc p5 p6
  go_enter Tryz.func218, Tryz.ntmps218
  go_wp2_with fail
  refine (check_any ⟨kind, by_, no, seen, at_, many, text⟩ _).mono ?_
  rintro e w1 ⟨rfl, hb⟩
  rw [HC.out]
  have HI1 : Hid _ := HI.out.after hb
  clear hb HI
  go_wp2
  refine wp_region_quiet (C := fun wk => MInv w w.heap.size ⟨kind, by_, no, seen, at_, many, text⟩ (.slice ad l.length cap) l wk) (by kernel_rfl) (by kernel_rfl) (HI1.out.drew) ?_
  refine wpQuiet_step (fun K hK => ?_)
  go_simp
  refine ⟨_, fun _ _ => rfl, hK _ ?_⟩
  clear hK K
  refine wpQuiet_step (fun K hK => ?_)
  go_simp
  refine ⟨_, fun _ _ => rfl, hK _ ?_⟩
  clear hK K
  refine wpQuiet_step (fun K hK => ?_)
  go_simp
  refine ⟨.int .i64 seen, fun wk hwk => ?_, hK _ ?_⟩
  ·obtain ⟨_, c0, c1, c2, c3, c4, c5, c6⟩ := hwk.at_
   simp only [Nat.zero_add] at c0 c1 c2 c3 c4 c5 c6
   go_simp
  clear hK K
  refine wpQuiet_step (fun K hK => ?_)
  go_simp
  refine ⟨_, fun _ _ => rfl, hK _ ?_⟩
  clear hK K
  refine wpQuiet_step (fun K hK => ?_)
  go_simp
  refine ⟨.int .i64 by_, fun wk hwk => ?_, hK _ ?_⟩
  ·obtain ⟨_, c0, c1, c2, c3, c4, c5, c6⟩ := hwk.at_
   simp only [Nat.zero_add] at c0 c1 c2 c3 c4 c5 c6
   go_simp
  clear hK K
  refine wpQuiet_step (fun K hK => ?_)
  go_simp
  refine ⟨_, fun wk hwk => count_q hwk hl _ _, hK _ ?_⟩
  clear hK K
  refine wpQuiet_step (fun K hK => ?_)
  go_simp
  refine ⟨_, fun _ _ => rfl, hK _ ?_⟩
  clear hK K
  refine wpQuiet_step (fun K hK => ?_)
  go_simp
  refine ⟨.int .i64 at_, fun wk hwk => ?_, hK _ ?_⟩
  ·obtain ⟨_, c0, c1, c2, c3, c4, c5, c6⟩ := hwk.at_
   simp only [Nat.zero_add] at c0 c1 c2 c3 c4 c5 c6
   go_simp
  clear hK K
  refine wpQuiet_step (fun K hK => ?_)
  go_simp
  refine ⟨_, fun _ _ => rfl, hK _ ?_⟩
  clear hK K
  refine wpQuiet_step (fun K hK => ?_)
  go_simp
  refine ⟨.int .i64 many, fun wk hwk => ?_, hK _ ?_⟩
  ·obtain ⟨_, c0, c1, c2, c3, c4, c5, c6⟩ := hwk.at_
   simp only [Nat.zero_add] at c0 c1 c2 c3 c4 c5 c6
   go_simp
  clear hK K
  refine wpQuiet_step (fun K hK => ?_)
  go_simp
  refine ⟨.int .i64 (at_ + many), fun wk hwk => ?_, hK _ ?_⟩
  ·have e : IntKind.i64.wrap (at_ + many) = at_ + many := by rw [IntKind.wrap_i64]; omega
   rw [e]
  clear hK K
  refine wpQuiet_step (fun K hK => ?_)
  go_simp
  refine ⟨_, fun _ _ => rfl, hK _ ?_⟩
  clear hK K
  refine wpQuiet_step (fun K hK => ?_)
  go_simp
  refine ⟨_, fun _ _ => rfl, hK _ ?_⟩
  clear hK K
  refine wpQuiet_nil ?_
  intro w2 hw2
  have HI2 : Hid _ := hw2
  obtain ⟨_, c0, c1, c2, c3, c4, c5, c6⟩ := hw2.at_
  simp only [Nat.zero_add] at c0 c1 c2 c3 c4 c5 c6
  clear hw2
  by_cases h1 : cnt l seen by_ < at_ + many
  ·go_wp2
   go_ret
   exact ⟨ret_int (by rw [HM.out, if_pos (by omega)]), HI2.out.below⟩
  ·by_cases h2 : 200 < l.length + text.size
   ·go_wp2
    go_ret
    exact ⟨ret_int (by rw [HM.out, if_neg (by omega), if_pos (by omega)]), HI2.out.below⟩
   ·go_wp2
    go_ret
    exact ⟨ret_int (by rw [HM.out, if_neg (by omega), if_neg (by omega)]), HI2.out.below⟩
 ·have HM : Hid (mayC l d = checkC d) := by show mayC l d = checkC d; rw [mayC, if_pos hc]
  have hne : (checkC d != 0) = true := by simp [hc]
  obtain ⟨kind, by_, no, seen, at_, many, text⟩ := d
  clear h hc
  go_enter Tryz.func218, Tryz.ntmps218
  go_wp2_with fail
  refine (check_any ⟨kind, by_, no, seen, at_, many, text⟩ _).mono ?_
  rintro e w1 ⟨rfl, hb⟩
  have HI1 : Hid _ := HI.out.after hb
  clear hb HI
  generalize checkC ⟨kind, by_, no, seen, at_, many, text⟩ = c at *
  go_wp2
  go_ret
  exact ⟨ret_int HM.out.symm, HI1.out.below⟩
end Go.Proofs.YtcbnnfeelhlapadGreatDoor

/-
  The contract of chars.Behind over a list as a value, and that of fold.put.
-/
namespace Go.Proofs.YtcbnnfeelhlapadGreatDoor
open Go.RowKit
theorem behindL_char {seen by_ : Int} : ∀ (l : List Ch) (m n : Nat) (hm : m < l.length), seesC seen by_ l[m] = true → (vw (l.take (m + 1)) seen by_).length = n → behindL seen by_ n l = some (m + 1)
 | [], m, n, hm, _, _ => absurd hm (Nat.not_lt_zero _)
 | x :: r, 0, n, _, hs, hn => by
  have hs' : seesC seen by_ x = true := hs
  rw [List.take_succ_cons, List.take_zero, vw_cons_yes _ hs'] at hn
  obtain rfl : n = 1 := by simpa [vw] using hn.symm
  rw [behindL, if_pos hs']
  cases r <;> rfl
 | x :: r, m + 1, n, hm, hs, hn => by
  have hm' : m < r.length := by simpa using hm
  have hs' : seesC seen by_ r[m] = true := hs
  rw [List.take_succ_cons] at hn
  by_cases hx : seesC seen by_ x = true
  ·rw [vw_cons_yes _ hx, List.length_cons] at hn
   obtain ⟨n', rfl⟩ : ∃ n', n = n' + 1 := ⟨_, hn.symm⟩
   rw [behindL, if_pos hx, behindL_char r m n' hm' hs' (by omega)]
   rfl
  ·rw [vw_cons_no _ (by simpa using hx)] at hn
   have hpos : 0 < n := by
    rw [take_snoc r m hm', vw_app, vw_cons_yes _ hs', List.length_append, List.length_cons] at hn
    omega
   obtain ⟨n', rfl⟩ : ∃ n', n = n' + 1 := ⟨n - 1, by omega⟩
   rw [behindL, if_neg hx, behindL_char r m (n' + 1) hm' hs' hn]
   rfl
theorem behind_lst {w : World} {v : Value} {l : List Ch} (h : Lst w v l) (hl : l.length ≤ 1000) (seen by_ n : Int) (h0 : 0 ≤ n) (hn : n ≤ cnt l seen by_) :
 Calls Tryz.prog 232 #[v, .int .i64 seen, .int .i64 by_, .int .i64 n] w fun e w' => ∃ p : Nat, e = .returned (.int .i64 p) ∧ behindL seen by_ n.toNat l = some p ∧ p ≤ l.length ∧ Below w.heap.size w w' := by
 obtain ⟨a, len, cap, rfl, h1, h2, h3⟩ := h
 rcases h3 with rfl | ⟨b, off, rfl, hr⟩
 ·obtain rfl : l = [] := List.length_eq_zero_iff.1 h1
  have hz : n = 0 := by simp [cnt] at hn; omega
  subst hz
  refine (behind_empty a cap seen by_ 0 w).mono ?_
  rintro e w' ⟨rfl, hb⟩
  exact ⟨0, rfl, rfl, Nat.le_refl _, hb⟩
 ·refine (behind_some b off len cap l seen by_ n w h1 (by omega) hr).mono ?_
  rintro e w' ⟨r, rfl, hbi, hb⟩
  by_cases hz : n = 0
  ·subst hz
   rw [behind_zero hbi]
   exact ⟨0, rfl, by cases l <;> rfl, Nat.zero_le _, hb⟩
  ·obtain ⟨m, hm, rfl, hc, hs⟩ := behind_pos hbi (by omega) hn
   refine ⟨m + 1, rfl, behindL_char l m n.toNat hm hs ?_, hm, hb⟩
   have := vw_len (l.take (m + 1)) seen by_
   omega
theorem exec_slice {P : Program} {ρ : Operand → Value} {o : Oper} {t : TypeId} {x : Operand} {lo hi mx : Option Operand} {u : Value} {w : World} (h : o.op = .slice t x lo hi mx)
 (hr : (Instr.sliceAt t (ρ x) (lo.map ρ) (hi.map ρ) (mx.map ρ)).run P w = .ok u w) : (execOp ρ o).run P w = .ok (.value u) w := by
 unfold execOp
 rw [h]
 simp [hr]
theorem elem_chars : Tryz.prog.elem 91 = 127 := by kernel_rfl
theorem und_chars : Tryz.prog.underlying 91 = some (.slice (Tryz.prog.elem 91)) := by kernel_rfl
theorem size_char (w : World) : (sizeOf 127).run Tryz.prog w = .ok 7 w := by
 obtain ⟨i0, hi, _, hz1, _⟩ := info_parts Tryz.infoChar
 simp [sizeOf, typeInfo, hi, hz1]
theorem run_take_val (a : Option Addr) (len cap k : Nat) (hk : k ≤ cap) (w : World) : (Instr.sliceAt 91 (.slice a len cap) none (some (.int .i64 k)) none).run Tryz.prog w = .ok (sliced a 0 k cap 7) w := by
 rw [run_sliceAt_slice _ _ _ _ _ _ und_chars, run_slice_h _ _ _ _ _ und_chars _ _ (by omega) (by omega), elem_chars, size_char]
 rfl
theorem run_drop_val (a : Option Addr) (len cap k : Nat) (hk : k ≤ len) (w : World) : (Instr.sliceAt 91 (.slice a len cap) (some (.int .i64 k)) none none).run Tryz.prog w = .ok (sliced a k len cap 7) w := by
 rw [run_sliceAt_slice _ _ _ _ _ _ und_chars, run_slice_l _ _ _ _ _ und_chars _ _ (by omega) (by omega), elem_chars, size_char]
 rfl
theorem lst_take {w : World} {a : Option Addr} {cap : Nat} {l : List Ch} (h : Lst w (.slice a l.length cap) l) {k : Nat} (hk : k ≤ l.length) : Lst w (sliced a 0 k cap 7) (l.take k) := by
 obtain ⟨a', len, cap', he, h1, h2, h3⟩ := h
 simp only [Value.slice.injEq] at he
 obtain ⟨rfl, rfl, rfl⟩ := he
 have e : (if cap = 0 then a else a.map (·.add (0 * 7))) = a := by
  split
  ·rfl
  ·cases a with
   | none => rfl
   | some ad => rcases h3 with h3 | ⟨b, off, h3, _⟩
                ·obtain ⟨b, off, spot⟩ := ad
                 cases spot <;> simp [Addr.add]
                ·cases h3
                 simp [addr_add]
 refine ⟨a, k, cap, ?_, by rw [List.length_take]; omega, by omega, ?_⟩
 ·unfold sliced
  rw [e]
  rfl
 ·rcases h3 with h3 | ⟨b, off, rfl, hr⟩
  ·exact .inl (by omega)
  ·exact .inr ⟨b, off, rfl, hr.take k⟩
theorem lst_drop {w : World} {a : Option Addr} {cap : Nat} {l : List Ch} (h : Lst w (.slice a l.length cap) l) {k : Nat} (hk : k ≤ l.length) : Lst w (sliced a k l.length cap 7) (l.drop k) := by
 obtain ⟨a', len, cap', he, h1, h2, h3⟩ := h
 simp only [Value.slice.injEq] at he
 obtain ⟨rfl, rfl, rfl⟩ := he
 refine ⟨_, l.length - k, cap - k, rfl, by rw [List.length_drop], by omega, ?_⟩
 rcases h3 with h3 | ⟨b, off, rfl, hr⟩
 ·exact .inl (by omega)
 ·by_cases hc : cap = k
  ·exact .inl (by omega)
  ·rw [if_neg hc]
   exact .inr ⟨b, off + k * 7, by simp [addr_add], hr.drop' k⟩
end Go.Proofs.YtcbnnfeelhlapadGreatDoor

/-
  The contract of fold.put.
-/
namespace Go.Proofs.YtcbnnfeelhlapadGreatDoor
set_option maxRecDepth 20000
open Go.RowKit
theorem skip_step {by_ : Int} {l : List Ch} {k : Nat} (h : k < l.length) (hi : l[k].inn = openN) (hb : l[k].by_ ≠ by_) : skipL by_ (l.drop k) = skipL by_ (l.drop (k + 1)) + 1 := by
 rw [List.drop_eq_getElem_cons h, skipL, if_pos ⟨hi, hb⟩]
theorem skip_stop {by_ : Int} {l : List Ch} {k : Nat} (h : ∀ hk : k < l.length, ¬ (l[k].inn = openN ∧ l[k].by_ ≠ by_)) : skipL by_ (l.drop k) = 0 := by
 by_cases hk : k < l.length
 ·rw [List.drop_eq_getElem_cons hk, skipL, if_neg (h hk)]
 ·rw [List.drop_eq_nil_of_le (by omega)]
  rfl
theorem three_start {wk : World} {va vn vb : Value} {a n b : List Ch} (ha : Lst wk va a) (hn : Lst wk vn n) (hb : Lst wk vb b) : Three (wk.alloc (.cells #[va, vn, vb] 91)) wk.heap.size va vn vb a n b := by
 have hbl : Below wk.heap.size wk (wk.alloc (.cells #[va, vn, vb] 91)) := (Below.refl _ _).alloc (Nat.le_refl _) _
 refine ⟨by simp, ?_, ?_, ?_, ha.below hbl, hn.below hbl, hb.below hbl⟩ <;> simp [go_sem]
set_option maxHeartbeats 800000 in
theorem put_any (l : List Ch) (d : Dd) (number : Int) (v : Value) (w : World) (h : Lst w v l) (hl : l.length ≤ 1000) (hc : checkC d = 0) (hk : d.kind = 1) (hn : d.at_ ≤ cnt l d.seen d.by_) :
 Calls Tryz.prog 219 #[v, ddV d, .int .i64 number] w fun e w' => ∃ v', e = .returned v' ∧ Own w' w.heap.size v' (doL l d number) ∧ Below w.heap.size w w' := by
 have HI : Hid _ := minv_start (d := d) h
 obtain ⟨ad, cap, rfl, hcap⟩ := h.len
 obtain ⟨_, _, _, _, _, _, p1, p2, _, _, p5, _⟩ := check_parts hc
 have HD : Hid (∀ p, behindL d.seen d.by_ d.at_.toNat l = some p → doL l d number = l.take (p + skipL d.by_ (l.drop p)) ++ (newL d number ++ l.drop (p + skipL d.by_ (l.drop p)))) := by
  intro p hp
  have : placeL l d = p + skipL d.by_ (l.drop p) := by rw [placeL, hp]
  rw [doL, if_pos hk, this]
 have ht := (p5 hk).2.1
 obtain ⟨kind, by_, no, seen, at_, many, text⟩ := d
 simp only at hn p1 p2 ht HD
 obtain rfl : kind = 1 := hk
 clear h hc p5
 go_enter Tryz.func219, Tryz.ntmps219
 go_wp2_with fail
 refine (behind_lst HI.out.lst hl seen by_ at_ p1 hn).mono ?_
 rintro e w1 ⟨p, rfl, hp, hpl, hb⟩
 have HP : Hid _ := HD.out p hp
 have HI1 : Hid _ := HI.out.after hb
 clear hb HI HD hp
 go_wp2
 go_loopw [7] (fun i wr => ∃ k : Nat, k ≤ l.length ∧ i = .int .i64 k ∧ Hid (k + skipL by_ (l.drop k) = p + skipL by_ (l.drop p)) ∧ Hid (MInv w w.heap.size ⟨1, by_, no, seen, at_, many, text⟩ (.slice ad l.length cap) l wr)) (fun i _ => l.length - (intOf i).toNat)
 case atStart => exact ⟨p, hpl, rfl, rfl, HI1⟩
 case round =>
  obtain ⟨k, hk, rfl, HS, HK⟩ := hrel
  clear HI1
  by_cases hlt : k < l.length
  ·have hxx : ∃ x, x = l[k] := ⟨_, rfl⟩
   obtain ⟨x, hx⟩ := hxx
   have HX : Hid _ := hx
   obtain ⟨b, off, rfl, hr⟩ : ∃ b off, ad = some ⟨b, off, none⟩ ∧ Row wr b off l := by
    obtain ⟨a', len', cap', he, h1, h2, h3⟩ := HK.out.lst
    simp only [Value.slice.injEq] at he
    obtain ⟨rfl, rfl, rfl⟩ := he
    rcases h3 with h3 | ⟨b, off, h3, hr⟩
    ·omega
    ·exact ⟨b, off, h3, hr⟩
   have hat := hr.at_ k hlt
   rw [← hx] at hat
   obtain ⟨g0, g1, g2, g3, g4, g5, g6⟩ := hat
   obtain ⟨_, c0, c1, c2, c3, c4, c5, c6⟩ := HK.out.at_
   simp only [Nat.zero_add] at c0 c1 c2 c3 c4 c5 c6
   clear hr hx
   by_cases hi : x.inn = openN
   ·have hi' : (x.inn == 1073741824) = true := by simp [hi]
    by_cases hby : x.by_ = by_
    ·have hby' : (x.by_ != by_) = false := by simp [hby]
     have HE : Hid (skipL by_ (l.drop k) = 0) := skip_stop (fun _ e => e.2 (by rw [← HX.out]; exact hby))
     clear hi hby
     go_wp2
     go_quiet (fail)
     go_wp2
     clear g0 g1 g2 g3 g4 g5 g6 c0 c1 c2 c3 c4 c5 c6
     generalize hw3 : wr.drewN nq = w3 at *
     have HK3 : Hid (MInv w w.heap.size ⟨1, by_, no, seen, at_, many, text⟩ (.slice (some ⟨b, off, none⟩) l.length cap) l w3) := by
      show MInv _ _ _ _ _ _
      rw [← hw3]
      exact HK.out.after (below_drewN (Below.refl _ _) _)
     have HF : Hid (doL l ⟨1, by_, no, seen, at_, many, text⟩ number = l.take k ++ (newL ⟨1, by_, no, seen, at_, many, text⟩ number ++ l.drop k)) := by
      show doL _ _ _ = _
      rw [HP.out, ← HS.out, HE.out, Nat.add_zero]
     obtain ⟨aa, na, ca, hva, hvl⟩ : ∃ aa na ca, (∀ w, (Instr.sliceAt 91 (.slice (some ⟨b, off, none⟩) l.length cap) none (some (.int .i64 k)) none).run Tryz.prog w = .ok (.slice aa na ca) w) ∧ ∀ wk, Lst wk (.slice (some ⟨b, off, none⟩) l.length cap) l → Lst wk (.slice aa na ca) (l.take k) := ⟨_, _, _, run_take_val _ l.length cap k (by omega), fun wk h => lst_take h hk⟩
     obtain ⟨ab, nb, cb, hvb, hvd⟩ : ∃ ab nb cb, (∀ w, (Instr.sliceAt 91 (.slice (some ⟨b, off, none⟩) l.length cap) (some (.int .i64 k)) none none).run Tryz.prog w = .ok (.slice ab nb cb) w) ∧ ∀ wk, Lst wk (.slice (some ⟨b, off, none⟩) l.length cap) l → Lst wk (.slice ab nb cb) (l.drop k) := ⟨_, _, _, run_drop_val _ l.length cap k hk, fun wk h => lst_drop h hk⟩
     have HVL : Hid _ := hvl
     have HVD : Hid _ := hvd
     have HVA : Hid _ := hva
     have HVB : Hid _ := hvb
     clear hvl hvd hva hvb HK HS HP HE hw3
     refine wrs (fun wk => MInv w w.heap.size ⟨1, by_, no, seen, at_, many, text⟩ (.slice (some ⟨b, off, none⟩) l.length cap) l wk) (fun i => i == 5 || i == 9 || i == 10) (fun wk => MInv w w.heap.size ⟨1, by_, no, seen, at_, many, text⟩ (.slice (some ⟨b, off, none⟩) l.length cap) l wk) (by kernel_rfl) (by kernel_rfl) (by kernel_rfl) (fun _ h => h) HK3.out.drew ?_
     refine wss rfl (fun K hK => ?_)
     go_simp
     refine ⟨_, fun _ _ => rfl, hK _ ?_⟩
     clear hK K
     refine wss rfl (fun K hK => ?_)
     go_simp
     refine ⟨_, fun _ _ => rfl, hK _ ?_⟩
     clear hK K
     refine wss rfl (fun K hK => ?_)
     rw [if_pos (by rfl)]
     refine ⟨.slice aa na ca, fun wk _ => exec_slice rfl (HVA.out wk), hK _ ?_⟩
     clear hK K
     refine wss rfl (fun K hK => ?_)
     go_simp
     refine ⟨ddV ⟨1, by_, no, seen, at_, many, text⟩, fun wk hwk => ?_, hK _ ?_⟩
     ·obtain ⟨_, c0, c1, c2, c3, c4, c5, c6⟩ := hwk.at_
      simp only [Nat.zero_add] at c0 c1 c2 c3 c4 c5 c6
      go_simp
     clear hK K
     refine wss rfl (fun K hK => ?_)
     go_simp
     refine ⟨_, fun _ _ => rfl, hK _ ?_⟩
     clear hK K
     refine wsp rfl rfl (fun u => ∃ a n c, u = .slice a n c) (fun u wk => MInv w w.heap.size ⟨1, by_, no, seen, at_, many, text⟩ (.slice (some ⟨b, off, none⟩) l.length cap) l wk ∧ Lst wk u (newL ⟨1, by_, no, seen, at_, many, text⟩ number)) ⟨_, none, 0, 0, rfl⟩ (fun _ _ h => h.1) (fun wk hwk => ?_) (fun vn hvn => ?_)
     ·go_simp
      refine (new_any ⟨1, by_, no, seen, at_, many, text⟩ number wk (by simp only; omega)).mono ?_
      rintro e w4 ⟨u, rfl, ho, hb⟩
      obtain ⟨a4, c4, rfl, _⟩ := ho.lst.len
      exact ⟨_, rfl, ⟨_, _, _, rfl⟩, hwk.after hb, ho.lst⟩
     obtain ⟨an, nn, cn, rfl⟩ := hvn
     refine wss rfl (fun K hK => ?_)
     go_simp
     refine ⟨_, fun _ _ => rfl, hK _ ?_⟩
     clear hK K
     refine wss rfl (fun K hK => ?_)
     go_simp
     refine ⟨_, fun _ _ => rfl, hK _ ?_⟩
     clear hK K
     refine wss rfl (fun K hK => ?_)
     rw [if_pos (by rfl)]
     refine ⟨.slice ab nb cb, fun wk _ => exec_slice rfl (HVB.out wk), hK _ ?_⟩
     clear hK K
     refine wsp rfl rfl (fun u => ∃ g, u = .slice (some ⟨g, 0, none⟩) 3 3) (fun u wk => ∃ g, u = .slice (some ⟨g, 0, none⟩) 3 3 ∧ MInv w w.heap.size ⟨1, by_, no, seen, at_, many, text⟩ (.slice (some ⟨b, off, none⟩) l.length cap) l wk ∧ Three wk g (.slice aa na ca) (.slice an nn cn) (.slice ab nb cb) (l.take k) (newL ⟨1, by_, no, seen, at_, many, text⟩ number) (l.drop k)) ⟨_, 0, rfl⟩ (fun _ _ h => by obtain ⟨_, _, h, _⟩ := h; exact h) (fun wk hwk => ?_) (fun vs hvs => ?_)
     ·go_simp
      exact ⟨⟨_, rfl⟩, _, rfl, hwk.1.after ((Below.refl _ _).alloc (Nat.le_refl _) _), three_start (HVL.out _ hwk.1.lst) hwk.2 (HVD.out _ hwk.1.lst)⟩
     obtain ⟨g, rfl⟩ := hvs
     refine wsp rfl rfl (fun _ => True) (fun u wk => MInv w w.heap.size ⟨1, by_, no, seen, at_, many, text⟩ (.slice (some ⟨b, off, none⟩) l.length cap) l wk ∧ Own wk w.heap.size u (l.take k ++ (newL ⟨1, by_, no, seen, at_, many, text⟩ number ++ l.drop k))) ⟨.int .i64 0, trivial⟩ (fun _ _ h => h.1) (fun wk hwk => ?_) (fun vr _ => ?_)
     ·obtain ⟨g', hg, hm, h3⟩ := hwk
      simp only [Value.slice.injEq, Option.some.injEq, Addr.mk.injEq, and_true] at hg
      subst hg
      go_simp
      refine (concat_three g _ _ _ _ _ _ wk h3 ?_).mono ?_
      ·rw [List.length_take, List.length_drop, newL_len]; simp only; omega
      rintro e w5 ⟨u, rfl, ho, hb⟩
      exact ⟨u, rfl, hm.after hb, by have := ho.mono (base' := w.heap.size) hm.below.size; rwa [List.append_assoc] at this⟩
     refine wss rfl (fun K hK => ?_)
     go_simp
     refine ⟨_, fun _ _ => rfl, hK _ ?_⟩
     clear hK K
     refine wsn (fun w6 hw6 => ?_)
     have H6 : Hid _ := hw6
     clear hw6
     go_wp2
     go_ret
     exact ⟨_, rfl, by rw [HF.out]; exact H6.out.2, H6.out.1.below⟩
    ·have hby' : (x.by_ != by_) = true := by simp [hby]
     have HE : Hid _ := skip_step hlt (by rw [← HX.out]; exact hi) (by rw [← HX.out]; exact hby)
     clear hi hby
     go_wp2
     go_quiet (fail)
     go_wp2
     go_roundw
     case rel => exact ⟨k + 1, by omega, by go_num, by show _ = _; rw [← HS.out, HE.out]; omega, HK.out.after (below_drewN (Below.refl _ _) _)⟩
     case measure => simp [intOf]; omega
   ·have hi' : (x.inn == 1073741824) = false := by simp; exact hi
    have HE : Hid (skipL by_ (l.drop k) = 0) := skip_stop (fun _ e => hi (by rw [HX.out]; exact e.1))
    clear hi
    go_wp2
    go_quiet (fail)
    go_wp2
    clear g0 g1 g2 g3 g4 g5 g6 c0 c1 c2 c3 c4 c5 c6
    generalize hw3 : wr.drewN nq = w3 at *
    have HK3 : Hid (MInv w w.heap.size ⟨1, by_, no, seen, at_, many, text⟩ (.slice (some ⟨b, off, none⟩) l.length cap) l w3) := by
     show MInv _ _ _ _ _ _
     rw [← hw3]
     exact HK.out.after (below_drewN (Below.refl _ _) _)
    have HF : Hid (doL l ⟨1, by_, no, seen, at_, many, text⟩ number = l.take k ++ (newL ⟨1, by_, no, seen, at_, many, text⟩ number ++ l.drop k)) := by
     show doL _ _ _ = _
     rw [HP.out, ← HS.out, HE.out, Nat.add_zero]
    obtain ⟨aa, na, ca, hva, hvl⟩ : ∃ aa na ca, (∀ w, (Instr.sliceAt 91 (.slice (some ⟨b, off, none⟩) l.length cap) none (some (.int .i64 k)) none).run Tryz.prog w = .ok (.slice aa na ca) w) ∧ ∀ wk, Lst wk (.slice (some ⟨b, off, none⟩) l.length cap) l → Lst wk (.slice aa na ca) (l.take k) := ⟨_, _, _, run_take_val _ l.length cap k (by omega), fun wk h => lst_take h hk⟩
    obtain ⟨ab, nb, cb, hvb, hvd⟩ : ∃ ab nb cb, (∀ w, (Instr.sliceAt 91 (.slice (some ⟨b, off, none⟩) l.length cap) (some (.int .i64 k)) none none).run Tryz.prog w = .ok (.slice ab nb cb) w) ∧ ∀ wk, Lst wk (.slice (some ⟨b, off, none⟩) l.length cap) l → Lst wk (.slice ab nb cb) (l.drop k) := ⟨_, _, _, run_drop_val _ l.length cap k hk, fun wk h => lst_drop h hk⟩
    have HVL : Hid _ := hvl
    have HVD : Hid _ := hvd
    have HVA : Hid _ := hva
    have HVB : Hid _ := hvb
    clear hvl hvd hva hvb HK HS HP HE hw3
    refine wrs (fun wk => MInv w w.heap.size ⟨1, by_, no, seen, at_, many, text⟩ (.slice (some ⟨b, off, none⟩) l.length cap) l wk) (fun i => i == 5 || i == 9 || i == 10) (fun wk => MInv w w.heap.size ⟨1, by_, no, seen, at_, many, text⟩ (.slice (some ⟨b, off, none⟩) l.length cap) l wk) (by kernel_rfl) (by kernel_rfl) (by kernel_rfl) (fun _ h => h) HK3.out.drew ?_
    refine wss rfl (fun K hK => ?_)
    go_simp
    refine ⟨_, fun _ _ => rfl, hK _ ?_⟩
    clear hK K
    refine wss rfl (fun K hK => ?_)
    go_simp
    refine ⟨_, fun _ _ => rfl, hK _ ?_⟩
    clear hK K
    refine wss rfl (fun K hK => ?_)
    rw [if_pos (by rfl)]
    refine ⟨.slice aa na ca, fun wk _ => exec_slice rfl (HVA.out wk), hK _ ?_⟩
    clear hK K
    refine wss rfl (fun K hK => ?_)
    go_simp
    refine ⟨ddV ⟨1, by_, no, seen, at_, many, text⟩, fun wk hwk => ?_, hK _ ?_⟩
    ·obtain ⟨_, c0, c1, c2, c3, c4, c5, c6⟩ := hwk.at_
     simp only [Nat.zero_add] at c0 c1 c2 c3 c4 c5 c6
     go_simp
    clear hK K
    refine wss rfl (fun K hK => ?_)
    go_simp
    refine ⟨_, fun _ _ => rfl, hK _ ?_⟩
    clear hK K
    refine wsp rfl rfl (fun u => ∃ a n c, u = .slice a n c) (fun u wk => MInv w w.heap.size ⟨1, by_, no, seen, at_, many, text⟩ (.slice (some ⟨b, off, none⟩) l.length cap) l wk ∧ Lst wk u (newL ⟨1, by_, no, seen, at_, many, text⟩ number)) ⟨_, none, 0, 0, rfl⟩ (fun _ _ h => h.1) (fun wk hwk => ?_) (fun vn hvn => ?_)
    ·go_simp
     refine (new_any ⟨1, by_, no, seen, at_, many, text⟩ number wk (by simp only; omega)).mono ?_
     rintro e w4 ⟨u, rfl, ho, hb⟩
     obtain ⟨a4, c4, rfl, _⟩ := ho.lst.len
     exact ⟨_, rfl, ⟨_, _, _, rfl⟩, hwk.after hb, ho.lst⟩
    obtain ⟨an, nn, cn, rfl⟩ := hvn
    refine wss rfl (fun K hK => ?_)
    go_simp
    refine ⟨_, fun _ _ => rfl, hK _ ?_⟩
    clear hK K
    refine wss rfl (fun K hK => ?_)
    go_simp
    refine ⟨_, fun _ _ => rfl, hK _ ?_⟩
    clear hK K
    refine wss rfl (fun K hK => ?_)
    rw [if_pos (by rfl)]
    refine ⟨.slice ab nb cb, fun wk _ => exec_slice rfl (HVB.out wk), hK _ ?_⟩
    clear hK K
    refine wsp rfl rfl (fun u => ∃ g, u = .slice (some ⟨g, 0, none⟩) 3 3) (fun u wk => ∃ g, u = .slice (some ⟨g, 0, none⟩) 3 3 ∧ MInv w w.heap.size ⟨1, by_, no, seen, at_, many, text⟩ (.slice (some ⟨b, off, none⟩) l.length cap) l wk ∧ Three wk g (.slice aa na ca) (.slice an nn cn) (.slice ab nb cb) (l.take k) (newL ⟨1, by_, no, seen, at_, many, text⟩ number) (l.drop k)) ⟨_, 0, rfl⟩ (fun _ _ h => by obtain ⟨_, _, h, _⟩ := h; exact h) (fun wk hwk => ?_) (fun vs hvs => ?_)
    ·go_simp
     exact ⟨⟨_, rfl⟩, _, rfl, hwk.1.after ((Below.refl _ _).alloc (Nat.le_refl _) _), three_start (HVL.out _ hwk.1.lst) hwk.2 (HVD.out _ hwk.1.lst)⟩
    obtain ⟨g, rfl⟩ := hvs
    refine wsp rfl rfl (fun _ => True) (fun u wk => MInv w w.heap.size ⟨1, by_, no, seen, at_, many, text⟩ (.slice (some ⟨b, off, none⟩) l.length cap) l wk ∧ Own wk w.heap.size u (l.take k ++ (newL ⟨1, by_, no, seen, at_, many, text⟩ number ++ l.drop k))) ⟨.int .i64 0, trivial⟩ (fun _ _ h => h.1) (fun wk hwk => ?_) (fun vr _ => ?_)
    ·obtain ⟨g', hg, hm, h3⟩ := hwk
     simp only [Value.slice.injEq, Option.some.injEq, Addr.mk.injEq, and_true] at hg
     subst hg
     go_simp
     refine (concat_three g _ _ _ _ _ _ wk h3 ?_).mono ?_
     ·rw [List.length_take, List.length_drop, newL_len]; simp only; omega
     rintro e w5 ⟨u, rfl, ho, hb⟩
     exact ⟨u, rfl, hm.after hb, by have := ho.mono (base' := w.heap.size) hm.below.size; rwa [List.append_assoc] at this⟩
    refine wss rfl (fun K hK => ?_)
    go_simp
    refine ⟨_, fun _ _ => rfl, hK _ ?_⟩
    clear hK K
    refine wsn (fun w6 hw6 => ?_)
    have H6 : Hid _ := hw6
    clear hw6
    go_wp2
    go_ret
    exact ⟨_, rfl, by rw [HF.out]; exact H6.out.2, H6.out.1.below⟩
  ·have HE : Hid (skipL by_ (l.drop k) = 0) := skip_stop (fun h => absurd h hlt)
   have hlt' : decide ((k : Int) < (l.length : Int)) = false := decide_eq_false (by omega)
   go_wp2
   go_quiet (fail)
   go_wp2
   generalize hw3 : wr.drewN nq = w3 at *
   have HK3 : Hid (MInv w w.heap.size ⟨1, by_, no, seen, at_, many, text⟩ (.slice ad l.length cap) l w3) := by
    show MInv _ _ _ _ _ _
    rw [← hw3]
    exact HK.out.after (below_drewN (Below.refl _ _) _)
   have HF : Hid (doL l ⟨1, by_, no, seen, at_, many, text⟩ number = l.take k ++ (newL ⟨1, by_, no, seen, at_, many, text⟩ number ++ l.drop k)) := by
    show doL _ _ _ = _
    rw [HP.out, ← HS.out, HE.out, Nat.add_zero]
   obtain ⟨aa, na, ca, hva, hvl⟩ : ∃ aa na ca, (∀ w, (Instr.sliceAt 91 (.slice ad l.length cap) none (some (.int .i64 k)) none).run Tryz.prog w = .ok (.slice aa na ca) w) ∧ ∀ wk, Lst wk (.slice ad l.length cap) l → Lst wk (.slice aa na ca) (l.take k) := ⟨_, _, _, run_take_val _ l.length cap k (by omega), fun wk h => lst_take h hk⟩
   obtain ⟨ab, nb, cb, hvb, hvd⟩ : ∃ ab nb cb, (∀ w, (Instr.sliceAt 91 (.slice ad l.length cap) (some (.int .i64 k)) none none).run Tryz.prog w = .ok (.slice ab nb cb) w) ∧ ∀ wk, Lst wk (.slice ad l.length cap) l → Lst wk (.slice ab nb cb) (l.drop k) := ⟨_, _, _, run_drop_val _ l.length cap k hk, fun wk h => lst_drop h hk⟩
   have HVL : Hid _ := hvl
   have HVD : Hid _ := hvd
   have HVA : Hid _ := hva
   have HVB : Hid _ := hvb
   clear hvl hvd hva hvb HK HS HP HE hw3
   refine wrs (fun wk => MInv w w.heap.size ⟨1, by_, no, seen, at_, many, text⟩ (.slice ad l.length cap) l wk) (fun i => i == 5 || i == 9 || i == 10) (fun wk => MInv w w.heap.size ⟨1, by_, no, seen, at_, many, text⟩ (.slice ad l.length cap) l wk) (by kernel_rfl) (by kernel_rfl) (by kernel_rfl) (fun _ h => h) HK3.out.drew ?_
   refine wss rfl (fun K hK => ?_)
   go_simp
   refine ⟨_, fun _ _ => rfl, hK _ ?_⟩
   clear hK K
   refine wss rfl (fun K hK => ?_)
   go_simp
   refine ⟨_, fun _ _ => rfl, hK _ ?_⟩
   clear hK K
   refine wss rfl (fun K hK => ?_)
   rw [if_pos (by rfl)]
   refine ⟨.slice aa na ca, fun wk _ => exec_slice rfl (HVA.out wk), hK _ ?_⟩
   clear hK K
   refine wss rfl (fun K hK => ?_)
   go_simp
   refine ⟨ddV ⟨1, by_, no, seen, at_, many, text⟩, fun wk hwk => ?_, hK _ ?_⟩
   ·obtain ⟨_, c0, c1, c2, c3, c4, c5, c6⟩ := hwk.at_
    simp only [Nat.zero_add] at c0 c1 c2 c3 c4 c5 c6
    go_simp
   clear hK K
   refine wss rfl (fun K hK => ?_)
   go_simp
   refine ⟨_, fun _ _ => rfl, hK _ ?_⟩
   clear hK K
   refine wsp rfl rfl (fun u => ∃ a n c, u = .slice a n c) (fun u wk => MInv w w.heap.size ⟨1, by_, no, seen, at_, many, text⟩ (.slice ad l.length cap) l wk ∧ Lst wk u (newL ⟨1, by_, no, seen, at_, many, text⟩ number)) ⟨_, none, 0, 0, rfl⟩ (fun _ _ h => h.1) (fun wk hwk => ?_) (fun vn hvn => ?_)
   ·go_simp
    refine (new_any ⟨1, by_, no, seen, at_, many, text⟩ number wk (by simp only; omega)).mono ?_
    rintro e w4 ⟨u, rfl, ho, hb⟩
    obtain ⟨a4, c4, rfl, _⟩ := ho.lst.len
    exact ⟨_, rfl, ⟨_, _, _, rfl⟩, hwk.after hb, ho.lst⟩
   obtain ⟨an, nn, cn, rfl⟩ := hvn
   refine wss rfl (fun K hK => ?_)
   go_simp
   refine ⟨_, fun _ _ => rfl, hK _ ?_⟩
   clear hK K
   refine wss rfl (fun K hK => ?_)
   go_simp
   refine ⟨_, fun _ _ => rfl, hK _ ?_⟩
   clear hK K
   refine wss rfl (fun K hK => ?_)
   rw [if_pos (by rfl)]
   refine ⟨.slice ab nb cb, fun wk _ => exec_slice rfl (HVB.out wk), hK _ ?_⟩
   clear hK K
   refine wsp rfl rfl (fun u => ∃ g, u = .slice (some ⟨g, 0, none⟩) 3 3) (fun u wk => ∃ g, u = .slice (some ⟨g, 0, none⟩) 3 3 ∧ MInv w w.heap.size ⟨1, by_, no, seen, at_, many, text⟩ (.slice ad l.length cap) l wk ∧ Three wk g (.slice aa na ca) (.slice an nn cn) (.slice ab nb cb) (l.take k) (newL ⟨1, by_, no, seen, at_, many, text⟩ number) (l.drop k)) ⟨_, 0, rfl⟩ (fun _ _ h => by obtain ⟨_, _, h, _⟩ := h; exact h) (fun wk hwk => ?_) (fun vs hvs => ?_)
   ·go_simp
    exact ⟨⟨_, rfl⟩, _, rfl, hwk.1.after ((Below.refl _ _).alloc (Nat.le_refl _) _), three_start (HVL.out _ hwk.1.lst) hwk.2 (HVD.out _ hwk.1.lst)⟩
   obtain ⟨g, rfl⟩ := hvs
   refine wsp rfl rfl (fun _ => True) (fun u wk => MInv w w.heap.size ⟨1, by_, no, seen, at_, many, text⟩ (.slice ad l.length cap) l wk ∧ Own wk w.heap.size u (l.take k ++ (newL ⟨1, by_, no, seen, at_, many, text⟩ number ++ l.drop k))) ⟨.int .i64 0, trivial⟩ (fun _ _ h => h.1) (fun wk hwk => ?_) (fun vr _ => ?_)
   ·obtain ⟨g', hg, hm, h3⟩ := hwk
    simp only [Value.slice.injEq, Option.some.injEq, Addr.mk.injEq, and_true] at hg
    subst hg
    go_simp
    refine (concat_three g _ _ _ _ _ _ wk h3 ?_).mono ?_
    ·rw [List.length_take, List.length_drop, newL_len]; simp only; omega
    rintro e w5 ⟨u, rfl, ho, hb⟩
    exact ⟨u, rfl, hm.after hb, by have := ho.mono (base' := w.heap.size) hm.below.size; rwa [List.append_assoc] at this⟩
   refine wss rfl (fun K hK => ?_)
   go_simp
   refine ⟨_, fun _ _ => rfl, hK _ ?_⟩
   clear hK K
   refine wsn (fun w6 hw6 => ?_)
   have H6 : Hid _ := hw6
   clear hw6
   go_wp2
   go_ret
   exact ⟨_, rfl, by rw [HF.out]; exact H6.out.2, H6.out.1.below⟩
end Go.Proofs.YtcbnnfeelhlapadGreatDoor

/-
  The contract of fold.taken.
-/
namespace Go.Proofs.YtcbnnfeelhlapadGreatDoor
set_option maxRecDepth 20000
open Go.RowKit
theorem or_bit (g w : Int) (hw : wrB w = true) (h : tookB g w = false) (h0 : -9223372036854775808 ≤ g) (h1 : g ≤ 9223372036854775807) : bits .or .i64 g (IntKind.i64.wrap (2 ^ w.toNat)) = g + 2 ^ w.toNat := by
 have hw' : 0 ≤ w ∧ w ≤ 3 := by simpa [wrB] using hw
 obtain ⟨k, rfl⟩ := Int.eq_ofNat_of_zero_le hw'.1
 have hk : k ≤ 3 := by omega
 have hf := add_fits hw h h1
 have e : IntKind.i64.wrap ((2 : Int) ^ (k : Int).toNat) = 2 ^ k := by
  rcases (show k = 0 ∨ k = 1 ∨ k = 2 ∨ k = 3 by omega) with rfl | rfl | rfl | rfl <;> decide
 rw [tookB, hw, Bool.true_and, bitB, Int.toNat_natCast] at h
 have h' : ¬ g / 2 ^ k % 2 = 1 := by simpa using h
 have h2 : (BitVec.ofInt 64 (2 ^ k)).toNat = 2 ^ k := by
  rcases (show k = 0 ∨ k = 1 ∨ k = 2 ∨ k = 3 by omega) with rfl | rfl | rfl | rfl <;> decide
 have hz : BitVec.ofInt 64 g &&& BitVec.ofInt 64 (2 ^ k) = 0#64 := by
  apply BitVec.eq_of_toNat_eq
  rw [BitVec.toNat_and, BitVec.toNat_ofInt, h2, nat_bit]
  rcases (show k = 0 ∨ k = 1 ∨ k = 2 ∨ k = 3 by omega) with rfl | rfl | rfl | rfl <;> simp at h' ⊢ <;> omega
 rw [e, Int.toNat_natCast] at *
 show IntKind.i64.wrap ((BitVec.ofInt 64 g ||| BitVec.ofInt 64 (2 ^ k)).toNat : Nat) = _
 rw [← BitVec.add_eq_or_of_and_eq_zero _ _ hz, BitVec.toNat_add, h2, BitVec.toNat_ofInt, IntKind.wrap_i64]
 rcases (show k = 0 ∨ k = 1 ∨ k = 2 ∨ k = 3 by omega) with rfl | rfl | rfl | rfl <;> simp at hf ⊢ <;> omega
theorem wrapEq (x : Int) : IntKind.i64.wrap x = wrap64 x := by rw [IntKind.wrap_i64]; unfold wrap64; omega
theorem char_end {fn : Func} {p : Tmp} {R : Ending → World → Prop} {a : Act} {w : World} {B : Nat} {x : Ch} (hf : fn.results = #[.cell p 127]) (h : w.heap[B]? = some (.cells (chCells x).toArray 127 (0, 0))) (h2 : a.tmps.getD p undef = .pointer (some ⟨B, 0, none⟩)) (hd : a.defers = [])
 (hR : R (.returned (chV x)) w) : bodyPost Tryz.prog fn R Exit.ret a w :=
 bodyPost_ret (results_cell_row hf _ _ B 127 (chCells x).toArray (0, 0) _ h2 h Tryz.underlying127 rfl (by kernel_rfl)) hd hR
theorem last_heap (w : World) (o1 o2 : Obj) : ((w.alloc o1).alloc o2).drew.heap[w.heap.size + 1]? = some o2 := by
 have h : ((w.alloc o1).alloc o2).heap[(w.alloc o1).heap.size]? = some o2 := heap_alloc_new (w.alloc o1) o2
 have e : (w.alloc o1).heap.size = w.heap.size + 1 := by simp
 rw [e] at h
 exact h
theorem ret_ch {x y : Ch} (h : x = y) : Ending.returned (chV x) = .returned (chV y) := by rw [h]
set_option maxHeartbeats 800000 in
theorem taken_any (x : Ch) (by_ number : Int) (w : World) (hw : wrB by_ = true) (ht : tookB x.gone by_ = false) (h0 : -9223372036854775808 ≤ x.gone) (h1 : x.gone ≤ 9223372036854775807) :
 Calls Tryz.prog 235 #[chV x, .int .i64 by_, .int .i64 number] w fun e w' => e = .returned (chV (mark by_ number x)) ∧ Below w.heap.size w w' := by
 have HO : Hid (bits .or .i64 x.gone (wrap64 (2 ^ by_.toNat)) = x.gone + 2 ^ by_.toNat) := by
  show bits .or .i64 x.gone (wrap64 (2 ^ by_.toNat)) = _
  rw [← wrapEq]
  exact or_bit x.gone by_ hw ht h0 h1
 have hb : 0 ≤ by_ ∧ by_ ≤ 3 := by simpa [wrB] using hw
 obtain ⟨hb0, hb3⟩ := hb
 have HB : Hid (∀ o1 o2, Below w.heap.size w ((w.alloc o1).alloc o2)) := fun o1 o2 => ((Below.refl _ _).alloc (Nat.le_refl _) _).alloc (by simp) _
 by_cases hn : number = openN
 ·have HM : Hid (mark by_ number x = ⟨x.c, x.by_, x.no, x.k, x.inn, x.out, x.gone + 2 ^ by_.toNat⟩) := by
   show mark by_ number x = _
   rw [mark, markOut, if_neg (by simp [hn])]
  have hn' : (number != 1073741824) = false := by simp [hn]
  obtain ⟨c, b, no, k, i, o, g⟩ := x
  simp only at HO HM 
  clear hn hw ht h0 h1
  go_enter Tryz.func235, Tryz.ntmps235
  go_wp2
  go_region
  rw [HO.out]
  go_wp2
  exact char_end (x := ⟨c, b, no, k, i, o, g + 2 ^ by_.toNat⟩) rfl (last_heap w _ _) rfl rfl ⟨ret_ch HM.out.symm, (HB.out _ _).drew⟩
 ·have hn' : (number != 1073741824) = true := by simp; exact hn
  by_cases ho : x.out = 0
  ·have HM : Hid (mark by_ number x = ⟨x.c, x.by_, x.no, x.k, x.inn, number, x.gone + 2 ^ by_.toNat⟩) := by
    show mark by_ number x = _
    rw [mark, markOut, if_pos ⟨hn, .inl ho⟩]
   have ho' : (x.out == 0) = true := by simp [ho]
   obtain ⟨c, b, no, k, i, o, g⟩ := x
   simp only at HO HM ho'
   clear hn ho hw ht h0 h1
   go_enter Tryz.func235, Tryz.ntmps235
   go_wp2
   go_region
   rw [HO.out]
   go_wp2
   exact char_end (x := ⟨c, b, no, k, i, number, g + 2 ^ by_.toNat⟩) rfl (last_heap w _ _) rfl rfl ⟨ret_ch HM.out.symm, (HB.out _ _).drew⟩
  ·have ho' : (x.out == 0) = false := by simp [ho]
   by_cases hl : number < x.out
   ·have HM : Hid (mark by_ number x = ⟨x.c, x.by_, x.no, x.k, x.inn, number, x.gone + 2 ^ by_.toNat⟩) := by
     show mark by_ number x = _
     rw [mark, markOut, if_pos ⟨hn, .inr hl⟩]
    obtain ⟨c, b, no, k, i, o, g⟩ := x
    simp only at HO HM ho' hl
    clear hn ho hw ht h0 h1
    go_enter Tryz.func235, Tryz.ntmps235
    go_wp2
    go_region
    rw [HO.out]
    go_wp2
    exact char_end (x := ⟨c, b, no, k, i, number, g + 2 ^ by_.toNat⟩) rfl (last_heap w _ _) rfl rfl ⟨ret_ch HM.out.symm, (HB.out _ _).drew⟩
   ·have HM : Hid (mark by_ number x = ⟨x.c, x.by_, x.no, x.k, x.inn, x.out, x.gone + 2 ^ by_.toNat⟩) := by
     show mark by_ number x = _
     rw [mark, markOut, if_neg (fun e => by rcases e.2 with e | e; exact ho e; exact hl e)]
    obtain ⟨c, b, no, k, i, o, g⟩ := x
    simp only at HO HM ho' hl
    clear hn ho hw ht h0 h1
    go_enter Tryz.func235, Tryz.ntmps235
    go_wp2
    go_region
    rw [HO.out]
    go_wp2
    exact char_end (x := ⟨c, b, no, k, i, o, g + 2 ^ by_.toNat⟩) rfl (last_heap w _ _) rfl rfl ⟨ret_ch HM.out.symm, (HB.out _ _).drew⟩
end Go.Proofs.YtcbnnfeelhlapadGreatDoor
