/-
  The desk in memory: a builder's bytes, and desks; the builder's methods where it lies at the head of the desk's block.
-/
import Derived.Test.YtcbnnfeelhlapadGreatDoorKMath
import Derived.Lib.Builder
import Derived.Lib.UnsafeStr
import Derived.Lib.AppendStr
import Derived.Deep.AppendLies
import Derived.BigRegion
import Derived.RegionTactic
import Derived.Test.YtcbnnfeelhlapadGreatDoorDParse
import Derived.Test.YtcbnnfeelhlapadGreatDoorDLeaf
namespace Go.Proofs.YtcbnnfeelhlapadGreatDoor
set_option maxRecDepth 20000
open Go Go.RowKit
structure LkAt (w : World) (base : Nat) (S : Nat → Prop) (R D : Nat) (told : List UInt8) : Prop where
 hR : S R
 own : ∃ p v, (p = .pointer none ∨ p = .pointer (some ⟨R, 0, none⟩)) ∧ w.heap[R]? = some (.cells #[p, v, .pointer (some ⟨D, 0, none⟩)] 46 (0, 0)) ∧ w.ownsRow base 5 1 v told.length (Lib.byteCells told) ∧ (∀ k, v.ownBlock = some k → S k ∧ k ≠ R) ∧ (told = [] → v = .slice none 0 0)
theorem heap_lt {w : World} {b : Nat} {o : Obj} (h : w.heap[b]? = some o) : b < w.heap.size := by
 rcases Nat.lt_or_ge b w.heap.size with h' | h'
 ·exact h'
 ·rw [Array.getElem?_eq_none h'] at h; cases h
def Th.lk (base R D : Nat) (told : List UInt8) : Th base :=
 ⟨fun w S => LkAt w base S R D told, fun hl h hk hd => by
  obtain ⟨hR, p, v, hp, hb, ho, hv, hn⟩ := h
  have hbl : ∀ k, _ → _ := fun k hs => hk.block k (hl k hs).2 (hd k hs)
  exact ⟨hR, p, v, hp, by rw [hbl R hR]; exact hb, owns_block ho (fun k e => hbl k (hv k e).1), hv, hn⟩, fun h hT _ => by
  obtain ⟨hR, p, v, hp, hb, ho, hv, hn⟩ := h
  exact ⟨hT R hR, p, v, hp, hb, ho, fun k e => ⟨hT k (hv k e).1, (hv k e).2⟩, hn⟩⟩
theorem LkAt.block {w : World} {base R D : Nat} {S : Nat → Prop} {told : List UInt8} (h : LkAt w base S R D told) : w.cell? ⟨R, 2, none⟩ = some (.pointer (some ⟨D, 0, none⟩)) ∧ R < w.heap.size := by
 obtain ⟨_, p, v, _, hb, _⟩ := h
 exact ⟨by rw [Lib.cell_of_heap hb]; rfl, heap_lt hb⟩
theorem infoB : (Tryz.prog.info? 5).map (fun i => (i.zero, i.size, i.bytes)) = some (some (.int .u8 0), 1, 1) := by kernel_rfl
theorem sizeBd : (Tryz.prog.info? 44).map (·.size) = some 2 := by kernel_rfl
theorem liesBd : liesAt Tryz.prog Tryz.prog.depth 46 (3 / Tryz.prog.cellsOf 46) 0 44 1 = true := by kernel_rfl
theorem set_heap {w : World} {R : Nat} {cs : Array Value} {T : TypeId} (hb : w.heap[R]? = some (.cells cs T (0, 0))) (j : Nat) (v : Value) : (w.setCell ⟨R, j, none⟩ v).heap[R]? = some (.cells (cs.setIfInBounds j v) T (0, 0)) := by
 simp [World.setCell, Array.getElem?_modify, hb]
def ccW (p : Value) (R : Nat) (w : World) : World := match p with
 | .pointer none => w.setCell ⟨R, 0, none⟩ (.pointer (some ⟨R, 0, none⟩))
 | _ => w
theorem cc_block {w : World} {R D : Nat} {p v : Value} (hp : p = .pointer none ∨ p = .pointer (some ⟨R, 0, none⟩)) (hb : w.heap[R]? = some (.cells #[p, v, .pointer (some ⟨D, 0, none⟩)] 46 (0, 0))) :
 (ccW p R w).heap[R]? = some (.cells #[.pointer (some ⟨R, 0, none⟩), v, .pointer (some ⟨D, 0, none⟩)] 46 (0, 0)) := by
 rcases hp with rfl | rfl
 ·show (w.setCell ⟨R, 0, none⟩ (.pointer (some ⟨R, 0, none⟩))).heap[R]? = _
  rw [set_heap hb]; rfl
 ·exact hb
theorem cc_kept (w : World) (R : Nat) (p : Value) : Kept (fun k => k = R) w (ccW p R w) := by
 unfold ccW
 split
 ·exact (Kept.refl (fun k => k = R) w).set (p := ⟨R, 0, none⟩) rfl _
 ·exact Kept.refl _ _
theorem cc_size (w : World) (R : Nat) (p : Value) : (ccW p R w).heap.size = w.heap.size := by
 unfold ccW
 split
 ·simp [World.setCell]
 ·rfl
set_option maxHeartbeats 1600000 in
theorem copyCheck_lk {w : World} {R D : Nat} {p v : Value} (hp : p = .pointer none ∨ p = .pointer (some ⟨R, 0, none⟩)) (hb : w.heap[R]? = some (.cells #[p, v, .pointer (some ⟨D, 0, none⟩)] 46 (0, 0))) :
 Calls Tryz.prog 124 #[.pointer (some ⟨R, 0, none⟩)] w fun e w' => e = .returned (.tuple #[]) ∧ w' = ccW p R w := by
 obtain ⟨j, hj, hjs⟩ := Option.map_eq_some_iff.1 sizeBd
 have hlt := heap_lt hb
 have c0 : w.cell? ⟨R, 0, none⟩ = some p := by rw [Lib.cell_of_heap hb]; rfl
 have f0 := Lib.frozen_of_heap hb 0
 have hsh : w.shape? R = some (46, 3) := by simp [World.shape?, hb]
 rcases hp with rfl | rfl
 ·have HW : Hid (ccW (.pointer none) R w = w.setCell ⟨R, 0, none⟩ (.pointer (some ⟨R, 0, none⟩))) := rfl
  clear hb
  go_enter Tryz.func124, Tryz.ntmps124
  go_wp2
  rw [Lib.run_to_unsafe w ⟨R, 0, none⟩ Tryz.underlying41 Tryz.underlying201 hj (by rw [hjs]; decide) hsh (Nat.zero_lt_succ 2)]
  simp only [Result.andThen]
  rw [Oper.upon_value]
  go_wp2
  rw [run_callFunc_extern Tryz.func171 (by kernel_rfl) (by kernel_rfl) (by kernel_rfl) (e := Extern.AbiNoEscape.same) (by kernel_rfl)]
  rw [Lib.run_noEscape]
  simp only [Result.andThen]
  rw [Oper.upon_value]
  go_wp2
  rw [Lib.run_from_unsafe w ⟨R, 0, none⟩ Tryz.underlying201 Tryz.underlying41 hj hsh liesBd]
  simp only [Result.andThen]
  rw [Oper.upon_value]
  go_wp2
  go_end0
  exact ⟨rfl, HW.out.symm⟩
 ·have HW : Hid (ccW (.pointer (some ⟨R, 0, none⟩)) R w = w) := rfl
  clear hb hsh
  go_enter Tryz.func124, Tryz.ntmps124
  go_wp2
  rw [Lib.run_neq_ptr_same w _ Tryz.underlying41 hj]
  go_wp2
  go_end0
  exact ⟨rfl, HW.out.symm⟩
def LkTo (w : World) (base : Nat) (S : Nat → Prop) (R D : Nat) (told : List UInt8) (w' : World) : Prop := LkAt w' base (grow S w w') R D told ∧ Kept S w w'
theorem byteCells_app (a b : List UInt8) : Lib.byteCells a ++ Lib.byteCells b = Lib.byteCells (a ++ b) := by
 unfold Lib.byteCells
 rw [List.map_append]
theorem ccW_lk {w : World} {base R : Nat} {S : Nat → Prop} {p v : Value} {told : List UInt8} (hR : S R) (ho : w.ownsRow base 5 1 v told.length (Lib.byteCells told)) (hv : ∀ k, v.ownBlock = some k → S k ∧ k ≠ R) :
 (ccW p R w).ownsRow base 5 1 v told.length (Lib.byteCells told) ∧ Kept S w (ccW p R w) :=
 ⟨owns_block ho (fun k e => (cc_kept w R p).block k (World.ownsRow.lt ho k e).2 (hv k e).2), (cc_kept w R p).wider (fun k e => by rw [e]; exact hR)⟩
theorem lk_put {w w1 w2 : World} {base R D : Nat} {S : Nat → Prop} {v v' : Value} {t2 : List UInt8} (hR : S R) (hk1 : Kept S w w1) (hsz : w.heap.size ≤ w1.heap.size) (hv : ∀ k, v.ownBlock = some k → S k ∧ k ≠ R)
 (hb : w1.heap[R]? = some (.cells #[.pointer (some ⟨R, 0, none⟩), v, .pointer (some ⟨D, 0, none⟩)] 46 (0, 0))) (ho2 : w2.ownsRow base 5 1 v' t2.length (Lib.byteCells t2)) (hg : w1.grownBy w2 v.ownBlock) (hv2 : ∀ k, v'.ownBlock = some k → v.ownBlock = some k ∨ w1.heap.size ≤ k) (hn2 : t2 = [] → v' = .slice none 0 0) :
 w2.heap[R]? = some (.cells #[.pointer (some ⟨R, 0, none⟩), v, .pointer (some ⟨D, 0, none⟩)] 46 (0, 0)) ∧ LkTo w base S R D t2 (w2.setCell ⟨R, 1, none⟩ v') := by
 have hRl := heap_lt hb
 have hb2 : w2.heap[R]? = some (.cells #[.pointer (some ⟨R, 0, none⟩), v, .pointer (some ⟨D, 0, none⟩)] 46 (0, 0)) := by
  rw [hg.block R hRl (fun e => (hv R e.symm).2 rfl)]; exact hb
 have hk2 : Kept S w w2 := hk1.grown hg (fun k e => .inl (hv k e).1)
 have hgs := hg.size
 have hne : ∀ k, v'.ownBlock = some k → k ≠ R := fun k e e' => by
  rcases hv2 k e with x | x
  ·exact (hv k x).2 e'
  ·omega
 refine ⟨hb2, ⟨.inl hR, .pointer (some ⟨R, 0, none⟩), v', .inr rfl, ?_, ?_, fun k e => ⟨?_, hne k e⟩, hn2⟩, hk2.set (p := ⟨R, 1, none⟩) hR _⟩
 ·rw [set_heap hb2]; rfl
 ·exact owns_block ho2 (fun k e => Below.heap_setCell w2 ⟨R, 1, none⟩ v' k (hne k e))
 ·have hlt := (World.ownsRow.lt ho2 k e).2
  rcases hv2 k e with x | x
  ·exact .inl (hv k x).1
  ·exact .inr ⟨by omega, by simpa [World.setCell] using hlt⟩
theorem append_str {P : Program} (w : World) (base : Nat) (t u ty e : TypeId) (i : TypeInfo) (ht : P.underlying t = some (.slice e)) (hu : P.underlying u = some .string) (hi : P.info? e = some i) (hz : i.zero = some (.int .u8 0)) (hsize : i.size = 1) (hby : i.bytes = 1)
 (v : Value) (n : Nat) (xs : List Value) (hown : w.ownsRow base e 1 v n xs) (s : ByteArray) (h63 : n + s.size ≤ maxLen) (hbytes : n + s.size ≤ 140737488355328) (hbase : base ≤ w.heap.size) :
 ∃ v' w', (Builtin.append_ #[t, u] ty #[v, .string s]).run P w = .ok v' w' ∧ w'.ownsRow base e 1 v' (n + s.size) (xs ++ Lib.strCells s) ∧ w.grownBy w' v.ownBlock ∧ (∀ k, v'.ownBlock = some k → v.ownBlock = some k ∨ w.heap.size ≤ k) ∧ (v = .slice none 0 0 → s.size = 0 → v' = .slice none 0 0) := by
 obtain ⟨v', w', hr, h2, h3, h4⟩ := Lib.run_append_own_string (P := P) w base t u ty e i ht hu hi hz hsize hby v n xs hown s h63 hbytes hbase
 refine ⟨v', w', hr, h2, h3, fun k hk => ?_, fun e1 e2 => h4.2 ⟨e1, e2⟩⟩
 have hsmall : n + s.size ≤ 9223372036854775807 := by simp only [maxLen] at h63; omega
 have hxl : xs.length = n := by simpa using hown.1
 rcases hown.2 with ⟨rfl, rfl⟩ | ⟨g, cap, cur, rfl, hbg, hg, hnc, hcm, hcs, htake⟩
 ·by_cases hm : s.size = 0
  ·rw [h4.2 ⟨rfl, hm⟩] at hk
   cases hk
  ·have hr2 := run_append_nil_string (P := P) w t u ty e i (.int .u8 0) ht hu hi hz s (by omega) (by omega) (by rw [hby]; omega)
   rw [hr] at hr2
   obtain ⟨rfl, _⟩ := Result.ok.inj hr2
   obtain rfl : w.heap.size = k := by simpa [Value.ownBlock] using hk
   exact .inr (Nat.le_refl _)
 ·by_cases hroom : n + s.size ≤ cap
  ·have hcs' : cur.size = cap := by simpa using hcs
   have hr2 := Lib.run_append_room_string (P := P) w t u ty e i ht hu hi hsize g n cap cur hg s hroom (by omega)
   rw [hr] at hr2
   obtain ⟨rfl, _⟩ := Result.ok.inj hr2
   obtain rfl : g = k := by simpa [Value.ownBlock] using hk
   exact .inl rfl
  ·have holds : ∀ j u, xs[j]? = some u → w.cell? ((⟨g, 0, none⟩ : Addr).add j) = some u := hown.cells (g := g) rfl
   have hr2 := Lib.run_append_grow_string (P := P) w t u ty e i (.int .u8 0) ht hu hi hz ⟨g, 0, none⟩ n cap xs (by rw [hsize]; simpa using hxl) holds s (by omega) (by omega) (by rw [hby]; exact growslice_fits (by omega) (by omega))
   rw [hr] at hr2
   obtain ⟨rfl, _⟩ := Result.ok.inj hr2
   obtain rfl : w.heap.size = k := by simpa [Value.ownBlock] using hk
   exact .inr (Nat.le_refl _)
theorem wpList_append_str {P : Program} (w : World) {ops : Array Oper} {rest : List Oper} {o : Oper} {a : Act} {Q : Exit → Act → World → Prop} (hgd : o.guard = none) (sl x : Operand) (t u : TypeId) (ho : o.op = .call { callee := .builtin .append, args := #[sl, x], argTypes := #[t, u] })
 (base : Nat) (e : TypeId) (i : TypeInfo) (ht : P.underlying t = some (.slice e)) (hu : P.underlying u = some .string) (hi : P.info? e = some i) (hz : i.zero = some (.int .u8 0)) (hsize : i.size = 1) (hby : i.bytes = 1)
 (v : Value) (n : Nat) (xs : List Value) (hs : a.eval sl = v) (hown : w.ownsRow base e 1 v n xs) (s : ByteArray) (hx : a.eval x = .string s) (h63 : n + s.size ≤ maxLen) (hbytes : n + s.size ≤ 140737488355328) (hbase : base ≤ w.heap.size)
 (h : ∀ v' w', w'.ownsRow base e 1 v' (n + s.size) (xs ++ Lib.strCells s) → w.grownBy w' v.ownBlock → (∀ k, v'.ownBlock = some k → v.ownBlock = some k ∨ w.heap.size ≤ k) → (v = .slice none 0 0 → s.size = 0 → v' = .slice none 0 0) → wpList P ops Q rest (a.put o.dst v') w') : wpList P ops Q (o :: rest) a w := by
 refine wpList_plain hgd fun K hK => ?_
 obtain ⟨v', w', hr, h2, h3, h4, h5⟩ := append_str (P := P) w base t u o.type e i ht hu hi hz hsize hby v n xs hown s h63 hbytes hbase
 unfold Oper.wp execOp
 simp only [ho, resolve, invoke, builtin, Sem.run_bind, Sem.run_pure, Result.andThen_ok, List.map_toArray, List.map_cons, List.map_nil, hs, hx, hr]
 exact hK _ _ (h v' w' h2 h3 h4 h5)
section
variable {w : World} {base R D : Nat} {S : Nat → Prop} {told : List UInt8}
set_option maxHeartbeats 1600000 in
theorem writeString_lk (h : LkAt w base S R D told) (hl : base ≤ w.heap.size ∧ ∀ k, S k → base ≤ k ∧ k < w.heap.size) (s : ByteArray) (hlen : told.length + s.size ≤ 2000000000) :
 Calls Tryz.prog 69 #[.pointer (some ⟨R, 0, none⟩), .string s] w fun e w' => e = .returned (.tuple #[.int .i64 s.size, .nilIface]) ∧ LkTo w base S R D (told ++ s.data.toList) w' := by
 obtain ⟨i0, hi, hz0, hz1, hz2⟩ := info_parts infoB
 obtain ⟨hR, p, v, hp, hb, ho, hv, hn⟩ := h
 obtain ⟨ho1, hk1⟩ := ccW_lk (p := p) hR ho hv
 have hb1 := cc_block hp hb
 have HS1 : Hid ((ccW p R w).heap.size = w.heap.size) := cc_size w R p
 have HCC : Hid (Calls Tryz.prog 124 #[.pointer (some ⟨R, 0, none⟩)] w fun e w' => e = .returned (.tuple #[]) ∧ w' = ccW p R w) := copyCheck_lk hp hb
 clear hb ho hp
 go_enter Tryz.func69, Tryz.ntmps69
 go_wp2_with fail
 refine HCC.out.mono ?_
 rintro e w1 ⟨rfl, rfl⟩
 clear HCC
 generalize ccW p R w = w1 at *
 have c1 : w1.cell? ⟨R, 1, none⟩ = some v := by rw [Lib.cell_of_heap hb1]; rfl
 have hlt := heap_lt hb1
 go_wp2_with (at_builtin; refine wpList_append_str _ rfl (.tmp 12) (.tmp 13) 42 9 rfl base 5 i0 Tryz.underlying42 Tryz.underlying9 hi hz0 hz1 hz2 v told.length (Lib.byteCells told) rfl ho1 s rfl ?c3 ?c4 ?c5 ?_)
 case c3 => unfold maxLen; omega
 case c4 => omega
 case c5 => have := hl.1; have := HS1.out; omega
 intro v' w2 hown' hgrow hlies hnil
 have hown2 : w2.ownsRow base 5 1 v' (told ++ s.data.toList).length (Lib.byteCells (told ++ s.data.toList)) := by
  rw [List.length_append, ← byteCells_app]
  exact hown'
 obtain ⟨hb2, hto⟩ := lk_put (t2 := told ++ s.data.toList) hR hk1 (by have := HS1.out; omega) hv hb1 hown2 hgrow hlies (fun e => by
  obtain ⟨e1, e2⟩ := List.append_eq_nil_iff.1 e
  exact hnil (hn e1) (by have h0 : s.size = 0 := by rw [← size_list, e2]; rfl
                         simpa using h0))
 have HTO : Hid (LkTo w base S R D (told ++ s.data.toList) (w2.setCell ⟨R, 1, none⟩ v')) := hto
 have d1 : w2.cell? ⟨R, 1, none⟩ = some v := by rw [Lib.cell_of_heap hb2]; rfl
 have f1 : w2.frozen? ⟨R, 1, none⟩ = false := Lib.frozen_of_heap hb2 1
 have hlt2 := heap_lt hb2
 obtain ⟨ao, n', cap, rfl⟩ : ∃ ao n' cap, v' = .slice ao n' cap := by
  rcases hown'.2 with ⟨hv, _⟩ | ⟨g, cap, cur, hv, _⟩
  ·exact ⟨_, _, _, hv⟩
  ·exact ⟨_, _, _, hv⟩
 clear hto hown' hown2 hgrow hlies hnil ho1 hk1 hb1 hb2 c1 hlt hv hn
 go_wp2
 go_ret2
 exact ⟨rfl, HTO.out⟩
set_option maxHeartbeats 1600000 in
theorem writeByte_lk (h : LkAt w base S R D told) (hl : base ≤ w.heap.size ∧ ∀ k, S k → base ≤ k ∧ k < w.heap.size) (c : UInt8) (hlen : told.length ≤ 2000000000) :
 Calls Tryz.prog 71 #[.pointer (some ⟨R, 0, none⟩), .int .u8 c.toNat] w fun e w' => e = .returned .nilIface ∧ LkTo w base S R D (told ++ [c]) w' := by
 obtain ⟨i0, hi, hz0, hz1, hz2⟩ := info_parts infoB
 obtain ⟨hR, p, v, hp, hb, ho, hv, hn⟩ := h
 obtain ⟨ho1, hk1⟩ := ccW_lk (p := p) hR ho hv
 have hb1 := cc_block hp hb
 have HS1 : Hid ((ccW p R w).heap.size = w.heap.size) := cc_size w R p
 have HCC : Hid (Calls Tryz.prog 124 #[.pointer (some ⟨R, 0, none⟩)] w fun e w' => e = .returned (.tuple #[]) ∧ w' = ccW p R w) := copyCheck_lk hp hb
 clear hb ho hp hn
 go_enter Tryz.func71, Tryz.ntmps71
 go_wp2_with fail
 refine HCC.out.mono ?_
 rintro e w1 ⟨rfl, rfl⟩
 clear HCC
 generalize ccW p R w = w1 at *
 have c1 : w1.cell? ⟨R, 1, none⟩ = some v := by rw [Lib.cell_of_heap hb1]; rfl
 have hlt := heap_lt hb1
 have ho2 : (w1.alloc (.cells #[.int .u8 c.toNat] 5)).ownsRow base 5 1 v told.length (Lib.byteCells told) := owns_below ho1 (below1 _ _)
 go_wp2_with (at_builtin; refine wpList_append_lies _ rfl (.tmp 11) (.tmp 13) 42 rfl base 5 i0 (.int .u8 0) 1 1 Tryz.underlying42 hi hz0 hz1 hz2 rfl (by decide) v told.length (Lib.byteCells told) rfl ho2 ⟨w1.heap.size, 0, none⟩ 1 1 [.int .u8 c.toNat] rfl rfl ?c1 ?c2 (by decide) ?c3 ?c4 ?c5 (w1.heap.size + 1) (by simp) ?_)
 case c1 =>
  intro j u hj
  match j, hj with
  | 0, hj => simp at hj; subst hj; simp [Addr.add]
 case c2 => intro u hu; simp at hu; subst hu; rfl
 case c3 => unfold maxLen; omega
 case c4 => omega
 case c5 => have := hl.1; have := HS1.out; simp; omega
 intro g cap w2 hown' hgrow hat hlt8
 have hb1' : (w1.alloc (.cells #[.int .u8 c.toNat] 5)).heap[R]? = some (.cells #[.pointer (some ⟨R, 0, none⟩), v, .pointer (some ⟨D, 0, none⟩)] 46 (0, 0)) := by
  rw [Lib.alloc_old w1 _ R hlt]; exact hb1
 have hown2 : w2.ownsRow base 5 1 (.slice (some ⟨g, 0, none⟩) (told.length + 1) cap) (told ++ [c]).length (Lib.byteCells (told ++ [c])) := by
  rw [List.length_append, ← byteCells_app]
  exact hown'
 obtain ⟨hb2, hto⟩ := lk_put (t2 := told ++ [c]) hR (hk1.after (below1 _ _)) (by have := HS1.out; simp; omega) hv hb1' hown2 hgrow (fun k e => by
  obtain rfl : g = k := by simpa [Value.ownBlock] using e
  rcases hat with x | x
  ·exact .inl x
  ·exact .inr (by simp; omega)) (fun e => by simp at e)
 have HTO : Hid (LkTo w base S R D (told ++ [c]) (w2.setCell ⟨R, 1, none⟩ (.slice (some ⟨g, 0, none⟩) (told.length + 1) cap))) := hto
 have d1 : w2.cell? ⟨R, 1, none⟩ = some v := by rw [Lib.cell_of_heap hb2]; rfl
 have f1 : w2.frozen? ⟨R, 1, none⟩ = false := Lib.frozen_of_heap hb2 1
 have hlt2 := heap_lt hb2
 clear hto hown' hown2 hgrow hat ho1 ho2 hk1 hb1 hb1' hb2 c1 hlt hv
 go_wp2
 go_ret
 exact ⟨rfl, HTO.out⟩
def StrTo (w : World) (S : Nat → Prop) (R D : Nat) (w' : World) : Prop := Kept S w w' ∧ ∃ p v, w'.heap[R]? = some (.cells #[p, v, .pointer (some ⟨D, 0, none⟩)] 46 (0, 0))
theorem kept_freeze {w' : World} (h : Kept S w w') {g : Nat} (hg : S g) (n : Nat) : Kept S w (w'.freeze ⟨g, 0, none⟩ n) := by
 unfold World.freeze
 split
 ·exact h
 ·refine ⟨h.os, h.tape, h.output, by simpa using h.size, fun k hk hs => ?_⟩
  rw [← h.block k hk hs]
  simp only [Array.getElem?_modify]
  rw [if_neg (fun e => hs (by rw [← e]; exact hg))]
set_option maxHeartbeats 1600000 in
theorem string_lk (h : LkAt w base S R D told) (hlen : told.length ≤ 2000000000) :
 Calls Tryz.prog 16 #[.pointer (some ⟨R, 0, none⟩)] w fun e w' => e = .returned (.string (bl told)) ∧ StrTo w S R D w' := by
 obtain ⟨hR, p, v, hp, hb, ho, hv, hn⟩ := h
 have hlt := heap_lt hb
 have hbd : w.drew.heap[R]? = some (.cells #[p, v, .pointer (some ⟨D, 0, none⟩)] 46 (0, 0)) := hb
 have c1 : w.drew.cell? ⟨R, 1, none⟩ = some v := by rw [Lib.cell_of_heap hbd]; rfl
 by_cases h0 : told = []
 ·obtain rfl := hn h0
  subst h0
  have hUS : ∀ W : World, (Builtin.unsafeString_ #[83, 3] 9 #[.pointer none, .int .i64 0]).run Tryz.prog W = .ok (.string .empty) W := fun W => Lib.run_unsafeString_none W _ _ _ none
  have hSD : (Builtin.unsafeSliceData_ #[42] 83 #[.slice none 0 0]).run Tryz.prog w.drew = .ok (.pointer none) w.drew := rfl
  have HE : Hid (StrTo w S R D w.drew) := ⟨(Kept.refl S w).after (Below.refl _ _).drew, p, _, hbd⟩
  clear hb hbd ho hv hn hp
  go_enter Tryz.func16, Tryz.ntmps16
  go_wp2
  go_region
  all_goals (go_wp2; go_ret; exact ⟨rfl, HE.out⟩)
 ·have hl0 : told.length ≠ 0 := by simpa using h0
  obtain ⟨g, cap, cur, rfl, hbg, hg, hnc, hcm, hcs, htake⟩ : ∃ g cap cur, v = .slice (some ⟨g, 0, none⟩) told.length cap ∧ base ≤ g ∧ w.heap[g]? = some (.cells cur 5 (0, 0)) ∧ told.length ≤ cap ∧ cap ≤ maxLen ∧ cur.size = cap * 1 ∧ cur.toList.take (told.length * 1) = Lib.byteCells told := by
   rcases ho.2 with ⟨_, hz⟩ | ⟨g, cap, cur, hv, r⟩
   ·exact absurd hz hl0
   ·exact ⟨g, cap, cur, hv, r⟩
  have hSD : (Builtin.unsafeSliceData_ #[42] 83 #[.slice (some ⟨g, 0, none⟩) told.length cap]).run Tryz.prog w.drew = .ok (.pointer (some ⟨g, 0, none⟩)) w.drew := Lib.run_unsafeSliceData_row _ _ _ _ _ _ (by omega)
  have hUS : (Builtin.unsafeString_ #[83, 3] 9 #[.pointer (some ⟨g, 0, none⟩), .int .i64 told.length]).run Tryz.prog w.drew = .ok (.string ⟨told.toArray⟩) (w.drew.freeze ⟨g, 0, none⟩ told.length) := by
   refine Lib.run_unsafeString_row w.drew 83 3 9 5 Tryz.underlying83 (by kernel_rfl) g cur.size (by have hg' : w.drew.heap[g]? = some (.cells cur 5 (0, 0)) := hg; simp [World.shape?, hg']) told h0 (by omega) (by unfold maxLen at hcm; omega) ?_
   intro j x hx
   have := ho.cells (g := g) rfl j (.int .u8 x.toNat) (by simp [Lib.byteCells, hx])
   exact this
  have hgS := hv g rfl
  have HE : Hid (StrTo w S R D (w.drew.freeze ⟨g, 0, none⟩ told.length)) := by
   have hk := kept_freeze ((Kept.refl S w).after (Below.refl _ _).drew) hgS.1 told.length
   refine ⟨hk, p, .slice (some ⟨g, 0, none⟩) told.length cap, ?_⟩
   have hk1 := kept_freeze (S := fun k => k = g) (Kept.refl _ w.drew) (g := g) rfl told.length
   rw [hk1.block R hlt (fun e => hgS.2 e.symm)]
   exact hbd
  clear hb hbd ho hv hn hp hgS hg htake
  generalize w.drew.freeze ⟨g, 0, none⟩ told.length = wf at *
  go_enter Tryz.func16, Tryz.ntmps16
  go_wp2
  go_region
  all_goals (go_wp2; go_ret; exact ⟨rfl, HE.out⟩)
set_option maxHeartbeats 1600000 in
theorem reset_lk (hR : S R) (h : ∃ p v, w.heap[R]? = some (.cells #[p, v, .pointer (some ⟨D, 0, none⟩)] 46 (0, 0))) :
 Calls Tryz.prog 17 #[.pointer (some ⟨R, 0, none⟩)] w fun e w' => e = .returned (.tuple #[]) ∧ LkTo w base S R D [] w' := by
 obtain ⟨p, v, hb⟩ := h
 have hlt := heap_lt hb
 have c0 : w.cell? ⟨R, 0, none⟩ = some p := by rw [Lib.cell_of_heap hb]; rfl
 have c1 : w.cell? ⟨R, 1, none⟩ = some v := by rw [Lib.cell_of_heap hb]; rfl
 have f0 : w.frozen? ⟨R, 0, none⟩ = false := Lib.frozen_of_heap hb 0
 have f1 : w.frozen? ⟨R, 1, none⟩ = false := Lib.frozen_of_heap hb 1
 have HE : Hid (LkTo w base S R D [] ((w.setCell ⟨R, 0, none⟩ (.pointer none)).setCell ⟨R, 1, none⟩ (.slice none 0 0))) := by
  refine ⟨⟨.inl hR, .pointer none, .slice none 0 0, .inl rfl, ?_, World.ownsRow_nil _ _ _ _, fun _ e => (by cases e), fun _ => rfl⟩, ((Kept.refl S w).set (p := ⟨R, 0, none⟩) hR _).set (p := ⟨R, 1, none⟩) hR _⟩
  rw [set_heap (set_heap hb 0 _) 1]
  rfl
 clear hb
 go_enter Tryz.func17, Tryz.ntmps17
 go_wp2
 go_end0
 exact ⟨rfl, HE.out⟩
end
end Go.Proofs.YtcbnnfeelhlapadGreatDoor

/-
  The contracts of the story's Text, By and Where; SameInts of two that are the same.
-/
namespace Go.Proofs.YtcbnnfeelhlapadGreatDoor
set_option maxRecDepth 20000
open Go Go.RowKit
theorem run_makeBytes (n : Nat) (hn : n ≤ 100000) (w : World) : (Instr.makeSlice 42 (.int .i64 n) (.int .i64 n)).run Tryz.prog w = .ok (.slice (some ⟨w.heap.size, 0, none⟩) n n) (w.alloc (.cells (madeCells (Value.int .u8 0).cells (n * 1)) 5)) := by
 obtain ⟨i0, hi, hz0, hz1, hz2⟩ := info_parts Tryz.infoByte
 have := run_make (P := Tryz.prog) w 42 5 i0 (.int .u8 0) Tryz.underlying42 hi hz0 .i64 .i64 n n (by omega) (Int.le_refl _) (by rw [hz2]; omega) (by omega)
 simp only [Int.toNat_natCast, hz1] at this
 exact this
structure TxI (w1 : World) (l : List Ch) (k : Nat) (wr : World) : Prop where
 below : Below w1.heap.size w1 wr
 own : ∃ r, wr.ownsRow w1.heap.size 5 1 (.slice (some ⟨w1.heap.size, 0, none⟩) l.length l.length) l.length (cells8 ((l.map (·.c)).take k) ++ r)
theorem txI_start (w1 : World) (l : List Ch) (hl : l.length ≤ 100000) : TxI w1 l 0 (w1.alloc (.cells (madeCells #[Value.int .u8 0] l.length) 5)) := by
 have e0 : (madeCells #[Value.int .u8 0] l.length) = madeCells (Value.int .u8 0).cells (l.length * 1) := by rw [Nat.mul_one]; rfl
 rw [e0]
 refine ⟨below1 _ _, (madeCells (Value.int .u8 0).cells (l.length * 1)).toList, ?_⟩
 rw [List.take_zero]
 have := World.ownsRow_lit (base := w1.heap.size) (e := 5) (size := 1) w1 (madeCells (Value.int .u8 0).cells (l.length * 1)) l.length (Nat.le_refl _) (by unfold maxLen; omega) (size_madeCells _ _)
 simpa [cells8] using this
theorem TxI.after {w1 wr w' : World} {l : List Ch} {k : Nat} (h : TxI w1 l k wr) (hb : Below wr.heap.size wr w') : TxI w1 l k w' := by
 obtain ⟨h1, r, h2⟩ := h
 exact ⟨bla h1 hb, r, owns_below h2 hb⟩
theorem TxI.step {w1 wr : World} {l : List Ch} {k : Nat} (h : TxI w1 l k wr) (hk : k < l.length) {c : Int} (hc : c = l[k].c) : TxI w1 l (k + 1) (wr.setCell ⟨w1.heap.size, k, none⟩ (.int .u8 c)) := by
 obtain ⟨hb, r, ho⟩ := h
 refine ⟨hb.setCell (by simp) _, r.drop 1, ?_⟩
 have hlm : (l.map (·.c)).length = l.length := List.length_map ..
 have hlen := ho.1
 have hl8 : (cells8 ((l.map (·.c)).take k)).length = k := by
  unfold cells8
  rw [List.length_map, List.length_take, hlm]
  omega
 rw [List.length_append, hl8] at hlen
 have e : cells8 ((l.map (·.c)).take (k + 1)) ++ r.drop 1 = (cells8 ((l.map (·.c)).take k) ++ r).set k (.int .u8 c) := by
  match r, (show 1 ≤ r.length by omega) with
  | r0 :: r, _ =>
   rw [List.take_succ_eq_append_getElem (by omega), List.getElem_map, ← hc]
   have : ∀ (p : List Value) (m : Nat) (x y : Value), p.length = m → (p ++ y :: r).set m x = p ++ x :: r := by
    intro p m x y hm
    subst hm
    simp
   rw [this _ _ _ _ hl8]
   simp [cells8]
 rw [e]
 exact (ho.stored _ _).1
theorem tx_spot {w : World} {base g n cap : Nat} {xs : List Value} (h : w.ownsRow base 5 1 (.slice (some ⟨g, 0, none⟩) n cap) n xs) {j : Nat} (hj : j < n) : (∃ u, w.cell? ⟨g, j, none⟩ = some u) ∧ w.frozen? ⟨g, j, none⟩ = false := by
 refine ⟨?_, h.frozenAt j⟩
 rw [h.cellAt j (by omega)]
 exact ⟨_, List.getElem?_eq_getElem (by rw [h.1]; omega)⟩
theorem txI_end {w1 wr : World} {l : List Ch} (h : TxI w1 l l.length wr) : (convert 42 9 (.slice (some ⟨w1.heap.size, 0, none⟩) l.length l.length)).run Tryz.prog wr = .ok (.string (strOfNums (l.map (·.c)))) wr := by
 obtain ⟨hb, r, ho⟩ := h
 have hlm : (l.map (·.c)).length = l.length := List.length_map ..
 rw [show (l.map (·.c)).take l.length = l.map (·.c) by rw [← hlm]; exact List.take_length] at ho
 have hr : r = [] := by
  have := ho.1
  unfold cells8 at this
  rw [List.length_append, List.length_map, hlm] at this
  exact List.length_eq_zero_iff.1 (by omega)
 rw [hr, List.append_nil] at ho
 have ho' : wr.ownsRow w1.heap.size 5 1 (.slice (some ⟨w1.heap.size, 0, none⟩) l.length l.length) (l.map (·.c)).length (cells8 (l.map (·.c))) := by rw [hlm]; exact ho
 exact own_string ho'
section
variable {w : World} {lo P : Nat} {b : Bk}
set_option maxHeartbeats 3200000 in
theorem text_st (h : StTo w lo P b) (n : Int) :
 Calls Tryz.prog 141 #[.pointer (some ⟨P, 0, none⟩), .int .i64 n] w fun e w' => e = .returned (.tuple #[.string (strOfNums ((thS b n).map (·.c))), .bool (inS b n)]) ∧ Below w.heap.size w w' := by
 have HA : Hid (StTo w lo P b) := h
 have hcl : (thS b n).length ≤ 200 := by
  have := thS_le b n
  have := small_chars (b := b)
  omega
 clear h
 go_enter Tryz.func141, Tryz.ntmps141
 go_wp2_with fail
 refine (then_st HA.out n).mono ?_
 rintro e w1 ⟨v1, rfl, ho, hb⟩
 have HL : Hid (Lst w1 v1 (thS b n)) := ho.lst
 have HB : Hid (Below w.heap.size w w1) := hb
 obtain ⟨a, cap, rfl, hcap⟩ := ho.lst.len
 obtain ⟨l, hl⟩ : ∃ l, thS b n = l := ⟨_, rfl⟩
 obtain ⟨ok, hok⟩ : ∃ ok, inS b n = ok := ⟨_, rfl⟩
 have HTH : Hid (thS b n = l) := hl
 have HOK : Hid (inS b n = ok) := hok
 rw [hl] at hcl hcap HL ⊢
 rw [hok]
 clear hl hok
 clear ho hb HA
 have hmk := run_makeBytes l.length (by omega)
 have HI : Hid (TxI w1 l 0 _) := txI_start w1 l (by omega)
 go_wp2
 go_loopw [22] (fun i wr => ∃ k : Nat, k ≤ l.length ∧ i = .int .i64 k ∧ Hid (TxI w1 l k wr)) (fun i _ => l.length - (intOf i).toNat)
 case atStart => exact ⟨0, Nat.zero_le _, rfl, HI⟩
 case round =>
  obtain ⟨k, hk, rfl, HK⟩ := hrel
  clear HI hmk
  by_cases hkl : k < l.length
  ·have hki : (k : Int) < (l.length : Int) := by omega
   obtain ⟨bb, off, rfl, hr⟩ : ∃ b off, a = some ⟨b, off, none⟩ ∧ Row wr b off l := by
    obtain ⟨b1, o1, e1, _, r1⟩ := (HL.out.below HK.out.below).row (by omega)
    exact ⟨b1, o1, e1, r1⟩
   have hbl := hr.lt
   obtain ⟨h0, h1, h2, h3, h4, h5, h6⟩ := hr.at_ k hkl
   obtain ⟨x, hx⟩ : ∃ x, l[k] = x := ⟨_, rfl⟩
   have HX : Hid (l[k] = x) := hx
   rw [hx] at h0 h1 h2 h3 h4 h5 h6
   have HK2 : Hid (TxI w1 l k (wr.alloc (.cells #[.int .u8 x.c, .int .i64 x.by_, .int .i64 x.no, .int .i64 x.k, .int .i64 x.inn, .int .i64 x.out, .int .i64 x.gone] 127))) := HK.out.after (below1 _ _)
   obtain ⟨r, ho⟩ := HK2.out.own
   obtain ⟨⟨q0, e0⟩, f0⟩ := tx_spot ho (j := k) hkl
   have hw1 : w1.heap.size < wr.heap.size := by
    obtain ⟨_, ho'⟩ := HK.out.own
    exact (World.ownsRow.lt ho' _ rfl).2
   have HN : Hid (TxI w1 l (k + 1) ((wr.setCell ⟨w1.heap.size, k, none⟩ (.int .u8 x.c)).alloc (.cells #[.int .u8 x.c, .int .i64 x.by_, .int .i64 x.no, .int .i64 x.k, .int .i64 x.inn, .int .i64 x.out, .int .i64 x.gone] 127))) := (HK.out.step hkl (by rw [HX.out])).after (below1 _ _)
   clear hr ho hx HX HK HK2
   go_wp2
   go_roundw
   case rel => exact ⟨k + 1, by omega, by go_num, HN⟩
   case measure => simp [intOf]; omega
  ·obtain rfl : k = l.length := by omega
   have hcv := txI_end HK.out
   go_wp2
   go_ret2
   exact ⟨by rw [HTH.out, HOK.out]; rfl, bla HB.out HK.out.below⟩
theorem cellsI_app (a b : List Int) : cellsI (a ++ b) = cellsI a ++ cellsI b := List.map_append ..
structure ByI (w w1 : World) (v : Value) (zs : List Int) (wk : World) : Prop where
 below : Below w1.heap.size w1 wk
 own : OwnI wk w1.heap.size v zs
theorem ByI.after {w w1 wk w' : World} {v : Value} {zs : List Int} (h : ByI w w1 v zs wk) (hb : Below wk.heap.size wk w') : ByI w w1 v zs w' := ⟨bla h.below hb, h.own.below hb⟩
theorem src_newI (w : World) (z : Int) : ∀ j u, ([Value.int .i64 z])[j]? = some u → (w.alloc (.cells #[.int .i64 z] 3)).cell? ((⟨w.heap.size, 0, none⟩ : Addr).add j) = some u := by
 intro j u hj
 match j, hj with
 | 0, hj => simp at hj; subst hj; simp [Addr.add, go_sem]
theorem ByI.grown {w w1 wr w2 : World} {v v' : Value} {zs : List Int} {z : Int} (h : ByI w w1 v zs wr) (ho : w2.ownsRow w1.heap.size 3 1 v' (zs.length + 1) (cellsI zs ++ [.int .i64 z])) (hg : wr.grownBy w2 v.ownBlock) : ByI w w1 v' (zs ++ [z]) w2 := by
 refine ⟨h.below.grown hg (by have := h.below.size; omega) (fun j hj => (World.ownsRow.lt h.own j hj).1), ?_⟩
 unfold OwnI
 rw [cellsI_app, List.length_append]
 exact ho
set_option maxHeartbeats 3200000 in
theorem by_own (h : StTo w lo P b) (n : Int) :
 Calls Tryz.prog 142 #[.pointer (some ⟨P, 0, none⟩), .int .i64 n] w fun e w' => ∃ v, e = .returned (.tuple #[v, .bool (inS b n)]) ∧ (∃ m, w.heap.size ≤ m ∧ OwnI w' m v ((thS b n).map (·.by_))) ∧ Below w.heap.size w w' := by
 have HA : Hid (StTo w lo P b) := h
 have hcl : (thS b n).length ≤ 200 := by
  have := thS_le b n
  have := small_chars (b := b)
  omega
 clear h
 obtain ⟨i0, hi, hz0, hz1, hz2⟩ := info_parts infoInt
 go_enter Tryz.func142, Tryz.ntmps142
 go_wp2_with fail
 refine (then_st HA.out n).mono ?_
 rintro e w1 ⟨v1, rfl, ho, hb⟩
 have HL : Hid (Lst w1 v1 (thS b n)) := ho.lst
 have HB : Hid (Below w.heap.size w w1) := hb
 obtain ⟨a, cap, rfl, hcap⟩ := ho.lst.len
 obtain ⟨l, hl⟩ : ∃ l, thS b n = l := ⟨_, rfl⟩
 obtain ⟨ok, hok⟩ : ∃ ok, inS b n = ok := ⟨_, rfl⟩
 have HTH : Hid (thS b n = l) := hl
 have HOK : Hid (inS b n = ok) := hok
 rw [hl] at hcl hcap HL ⊢
 rw [hok]
 clear hl hok
 clear ho hb HA
 go_wp2
 go_loopw [8, 19] (fun v i wr => ∃ k : Nat, k ≤ l.length ∧ i = .int .i64 k ∧ Hid (ByI w w1 v ((l.map (·.by_)).take k) wr)) (fun _ i _ => l.length - (intOf i).toNat)
 case atStart => exact ⟨0, Nat.zero_le _, rfl, Below.refl _ _, ownI_nil _ _⟩
 case round =>
  obtain ⟨k, hk, rfl, HK⟩ := hrel
  have hlm : (l.map (·.by_)).length = l.length := List.length_map ..
  by_cases hkl : k < l.length
  ·have hki : (k : Int) < (l.length : Int) := by omega
   have HN : Hid ((l.map (·.by_)).take (k + 1) = (l.map (·.by_)).take k ++ [l[k].by_]) := by
    show List.take _ _ = _
    rw [List.take_succ_eq_append_getElem (by omega), List.getElem_map]
   have hzl : ((l.map (·.by_)).take k).length ≤ 200 := by rw [List.length_take]; omega
   obtain ⟨bb, off, rfl, hr⟩ : ∃ b off, a = some ⟨b, off, none⟩ ∧ Row wr b off l := by
    obtain ⟨b1, o1, e1, _, r1⟩ := (HL.out.below HK.out.below).row (by omega)
    exact ⟨b1, o1, e1, r1⟩
   have hbl := hr.lt
   obtain ⟨h0, h1, h2, h3, h4, h5, h6⟩ := hr.at_ k hkl
   generalize l[k] = x at *
   generalize (l.map (·.by_)).take k = zs at *
   have HZ : Hid (zs.length ≤ 200) := hzl
   have HK2 : Hid (ByI w w1 u8 zs ((wr.alloc (.cells #[.int .u8 x.c, .int .i64 x.by_, .int .i64 x.no, .int .i64 x.k, .int .i64 x.inn, .int .i64 x.out, .int .i64 x.gone] 127)).alloc (.cells #[.int .i64 x.by_] 3))) := (HK.out.after (below1 _ _)).after (below1 _ _)
   clear hr hlm hzl
   go_wp2_with (at_builtin; refine wpList_append_own _ rfl (.tmp 23) (.tmp 26) 79 rfl w1.heap.size 3 i0 (.int .i64 0) 1 8 Tryz.underlying79 hi hz0 hz1 hz2 rfl (by decide) u8 zs.length (cellsI zs) rfl HK2.out.own ⟨(wr.alloc (.cells #[.int .u8 x.c, .int .i64 x.by_, .int .i64 x.no, .int .i64 x.k, .int .i64 x.inn, .int .i64 x.out, .int .i64 x.gone] 127)).heap.size, 0, none⟩ 1 1 [.int .i64 x.by_] (by simp [go_sem]) rfl (src_newI _ _) ?c2 ?c3 ?c4 ?c5 ?_)
   case c2 => intro u hu; simp at hu; subst hu; rfl
   case c3 => have := HZ.out; unfold maxLen; omega
   case c4 => have := HZ.out; omega
   case c5 => exact HK2.out.below.size
   ·intro v' w2 hown' hgrow _
    have H2 : Hid (ByI w w1 v' ((l.map (·.by_)).take (k + 1)) w2) := by
     show ByI _ _ _ _ _
     rw [HN.out]
     exact HK2.out.grown hown' hgrow
    clear hgrow hown' h0 h1 h2 h3 h4 h5 h6 HK HK2
    go_wp2
    go_roundw
    case rel => exact ⟨k + 1, by omega, by go_num, H2.out⟩
    case measure => simp [intOf]; omega
  ·obtain rfl : k = l.length := by omega
   have HE : Hid ((l.map (·.by_)).take l.length = l.map (·.by_)) := by show List.take _ _ = _; rw [← hlm]; exact List.take_length
   go_wp2
   go_ret2
   refine ⟨u8, by rw [HOK.out]; rfl, ⟨w1.heap.size, HB.out.size, ?_⟩, bla HB.out HK.out.below⟩
   rw [HTH.out, ← HE.out]
   exact HK.out.own
end
end Go.Proofs.YtcbnnfeelhlapadGreatDoor
