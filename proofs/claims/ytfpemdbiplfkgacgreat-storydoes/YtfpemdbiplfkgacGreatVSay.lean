/-
  The contract of slices.Delete at open deeds: the eldest goes, in place.
-/
import Derived.Test.YtfpemdbiplfkgacGreatWHit
import Derived.Laws.OwnMore
import Derived.Test.YtfpemdbiplfkgacGreatWGoes
import Derived.Test.YtfpemdbiplfkgacGreatFDo
import Derived.Lib.MinMax
import Derived.Test.YtfpemdbiplfkgacGreatFMem
namespace Go.Proofs.YtfpemdbiplfkgacGreat
open Go.RowKit

abbrev zeroOo : Value := .agg #[.int .i64 0, .int .i64 0, .int .i64 0, .int .i64 0, .int .i64 0, .int .i64 0, .string ⟨#[]⟩, .slice none 0 0]
theorem Tryz.infoOwn : (Tryz.prog.info? 117).map (fun i => (i.zero, i.size, i.bytes)) = some (some zeroOo, 8, 88) := by kernel_rfl
theorem elem_own : Tryz.prog.elem 105 = 117 := by kernel_rfl
theorem und_own : Tryz.prog.underlying 105 = some (.slice (Tryz.prog.elem 105)) := by kernel_rfl
theorem und_own' : Tryz.prog.underlying 105 = some (.slice 117) := by kernel_rfl
theorem size_own (w : World) : (sizeOf 117).run Tryz.prog w = .ok 8 w := by
  obtain ⟨i0, hi, _, hz1, _⟩ := info_parts Tryz.infoOwn
  simp [sizeOf, typeInfo, hi, hz1]

theorem run_takeO (a : Option Addr) (len cap k : Nat) (hk : k ≤ cap) (w : World) : (Instr.sliceAt 105 (.slice a len cap) none (some (.int .i64 k)) none).run Tryz.prog w = .ok (sliced a 0 k cap 8) w := by
  rw [run_sliceAt_slice _ _ _ _ _ _ und_own, run_slice_h _ _ _ _ _ und_own _ _ (by omega) (by omega), elem_own, size_own]
  rfl
theorem run_dropO (a : Option Addr) (len cap k : Nat) (hk : k ≤ len) (w : World) : (Instr.sliceAt 105 (.slice a len cap) (some (.int .i64 k)) none none).run Tryz.prog w = .ok (sliced a k len cap 8) w := by
  rw [run_sliceAt_slice _ _ _ _ _ _ und_own, run_slice_l _ _ _ _ _ und_own _ _ (by omega) (by omega), elem_own, size_own]
  rfl

theorem row_spot {w : World} {base g n cap size : Nat} {e : TypeId} {xs : List Value} (h : w.ownsRow base e size (.slice (some ⟨g, 0, none⟩) n cap) n xs) {j : Nat} (hj : j < cap * size) : (w.cell? ⟨g, j, none⟩).isSome = true ∧ w.frozen? ⟨g, j, none⟩ = false := by
  refine ⟨?_, World.ownsRow.frozenAt h j⟩
  rcases h.2 with ⟨h', _⟩ | ⟨g', cap', cur, h', hb, hg, hnc, hcm, hcs, htake⟩
  · simp at h'
  · simp only [Value.slice.injEq, Option.some.injEq, Addr.mk.injEq, and_true, true_and] at h'
    obtain ⟨rfl, rfl⟩ := h'
    rw [cell_of_row w g j cur e (0, 0) hg, Array.getElem?_eq_getElem (by omega)]
    rfl

theorem zeroCellsO_one (n : Nat) : ∀ v ∈ (Builtin.zeroCells zeroOo.cells n).toList, v.oneCell' = true := by
  intro v hv
  simp only [Builtin.zeroCells, Array.toList_map, List.mem_map] at hv
  obtain ⟨i, _, rfl⟩ := hv
  have h8 : i % zeroOo.cells.size < 8 := Nat.mod_lt _ (by decide)
  generalize i % zeroOo.cells.size = r at h8
  rcases (show r = 0 ∨ r = 1 ∨ r = 2 ∨ r = 3 ∨ r = 4 ∨ r = 5 ∨ r = 6 ∨ r = 7 by omega) with rfl | rfl | rfl | rfl | rfl | rfl | rfl | rfl <;> rfl

/-- clear of the one behind the end. -/
theorem run_clear_one {w : World} {base g n cap : Nat} {xs : List Value} (h : w.ownsRow base 117 8 (.slice (some ⟨g, 0, none⟩) n cap) n xs) (hc : n < cap) (ty : TypeId) :
    (Builtin.clear_ #[105] ty #[.slice (some ⟨g, n * 8, none⟩) 1 (cap - n)]).run Tryz.prog w = .ok (.tuple #[]) (w.setCells g (n * 8) (Builtin.zeroCells zeroOo.cells 1).toList) := by
  have hlen : (Builtin.zeroCells zeroOo.cells 1).toList.length = 8 := by rw [Array.length_toList, size_zeroCells]; rfl
  have hst := run_storeCells_cells (P := Tryz.prog) g (n * 8) (Builtin.zeroCells zeroOo.cells 1).toList 0 w
    (fun j hj => by rw [hlen] at hj; rw [Nat.add_zero]; exact (row_spot h (by omega)).1)
    (fun j hj => by rw [Nat.add_zero]; exact World.ownsRow.frozenAt h _) (zeroCellsO_one _)
  simp only [Nat.add_zero] at hst
  simp [Builtin.clear_, run_underlying und_own', hst]

theorem kept_cells {w w1 : World} {g : Nat} : ∀ (vs : List Value) (o : Nat) (w2 : World), Kept (fun k => k = g) w w2 → w2 = w1 → Kept (fun k => k = g) w (w1.setCells g o vs)
  | [], _, _, h, e => by rw [← e]; exact h
  | v :: vs, o, w2, h, e => kept_cells vs (o + 1) (w2.setCell ⟨g, o, none⟩ v) (h.set (p := ⟨g, o, none⟩) rfl v) (by rw [e])

theorem spine_app {o : Oper} {act : Act} {w w' : World} {s x : Operand} {t : TypeId} {v u v' : Value} {D : Value → World → Prop} (ho : o.op = .call { callee := .builtin .append, args := #[s, x], argTypes := #[t, t] }) (hs : act.eval s = v) (hx : act.eval x = u)
    (h1 : (Builtin.append_ #[t, t] o.type #[v, u]).run Tryz.prog w = .ok v' w') (h : D v' w') : spineUpon Tryz.prog D ((execOp act.eval o).run Tryz.prog w) := by
  simp [execOp, ho, resolve, invoke, builtin, hs, hx, h1, Result.andThen]
  exact h

/-- Behind append. -/
structure DO (w : World) (base g n cap : Nat) (r : List (Dd × Value)) (wk : World) : Prop where
  own : OwnO wk base (.slice (some ⟨g, 0, none⟩) n cap) r
  kept : Kept (fun k => k = g) w wk

set_option maxRecDepth 20000 in
set_option maxHeartbeats 800000 in
theorem delete_first {w : World} {base g n cap : Nat} {x : Dd × Value} {r : List (Dd × Value)} (h : OwnO w base (.slice (some ⟨g, 0, none⟩) (n + 1) cap) (x :: r)) (hn : r.length = n) (hn2 : n ≤ 1000) (h1 : ∀ y ∈ r, y.2.oneCell' = true) :
    Calls Tryz.prog 136 #[.slice (some ⟨g, 0, none⟩) (n + 1) cap, .int .i64 0, .int .i64 1] w fun e w' => e = .returned (.slice (some ⟨g, 0, none⟩) n cap) ∧ OwnO w' base (.slice (some ⟨g, 0, none⟩) n cap) r ∧ Kept (fun k => k = g) w w' := by
  obtain ⟨i0, hi, hz0, hz1, hz2⟩ := info_parts Tryz.infoOwn
  have hcap : n + 1 ≤ cap := by
    rcases h.2 with ⟨h', _⟩ | ⟨g', cap', cur, h', _, _, hnc, _⟩
    · simp at h'
    · simp only [Value.slice.injEq, Option.some.injEq, Addr.mk.injEq, and_true] at h'
      obtain ⟨_, _, rfl⟩ := h'
      simp at hnc
      omega
  have HO : Hid (OwnO w base (.slice (some ⟨g, 0, none⟩) (n + 1) cap) (x :: r)) := h
  have HN : Hid (r.length = n) := hn
  have H1 : Hid (∀ y ∈ r, y.2.oneCell' = true) := h1
  have HT : Hid (∀ w, (Instr.sliceAt 105 (.slice (some ⟨g, 0, none⟩) (n + 1) cap) none (some (.int .i64 0)) none).run Tryz.prog w = .ok (.slice (some ⟨g, 0, none⟩) 0 cap) w) := fun w => by
    have := run_takeO (some ⟨g, 0, none⟩) (n + 1) cap 0 (Nat.zero_le _) w
    have e : sliced (some ⟨g, 0, none⟩) 0 0 cap 8 = .slice (some ⟨g, 0, none⟩) 0 cap := by
      unfold sliced
      simp [addr_add]
    rw [e] at this
    exact this
  obtain ⟨ad, cs, had, hdr⟩ : ∃ ad cs, (0 < n → ad = ⟨g, 8, none⟩) ∧ ∀ w, (Instr.sliceAt 105 (.slice (some ⟨g, 0, none⟩) (n + 1) cap) (some (.int .i64 1)) none none).run Tryz.prog w = .ok (.slice (some ad) n cs) w := by
    by_cases hc1 : cap = 1
    · refine ⟨⟨g, 0, none⟩, cap - 1, fun h => by omega, fun w => ?_⟩
      have := run_dropO (some ⟨g, 0, none⟩) (n + 1) cap 1 (by omega) w
      have e : sliced (some ⟨g, 0, none⟩) 1 (n + 1) cap 8 = .slice (some ⟨g, 0, none⟩) n (cap - 1) := by
        unfold sliced
        simp [hc1]
      rw [e] at this
      exact this
    · refine ⟨⟨g, 8, none⟩, cap - 1, fun _ => rfl, fun w => ?_⟩
      have := run_dropO (some ⟨g, 0, none⟩) (n + 1) cap 1 (by omega) w
      have e : sliced (some ⟨g, 0, none⟩) 1 (n + 1) cap 8 = .slice (some ⟨g, 8, none⟩) n (cap - 1) := by
        unfold sliced
        simp [hc1, addr_add]
      rw [e] at this
      exact this
  have HD : Hid _ := hdr
  have HAP : Hid (∀ (ty : TypeId) wk, Below w.heap.size w wk → ∃ w', (Builtin.append_ #[105, 105] ty #[.slice (some ⟨g, 0, none⟩) 0 cap, .slice (some ad) n cs]).run Tryz.prog wk = .ok (.slice (some ⟨g, 0, none⟩) n cap) w' ∧ DO w base g n cap r w') := fun ty wk hb => by
    have hown : OwnO wk base (.slice (some ⟨g, 0, none⟩) (n + 1) cap) (x :: r) := h.below hb
    have hrow : wk.ownsRow base 117 8 (.slice (some ⟨g, 0, none⟩) 0 cap) 0 [] := by
      rcases hown.2 with ⟨h', _⟩ | ⟨g', cap', cur, h', hb', hg', hnc, hcm, hcs, htake⟩
      · simp at h'
      · simp only [Value.slice.injEq, Option.some.injEq, Addr.mk.injEq, and_true] at h'
        obtain ⟨rfl, _, rfl⟩ := h'
        exact ⟨rfl, .inr ⟨g, cap, cur, rfl, hb', hg', Nat.zero_le _, hcm, hcs, by simp⟩⟩
    have hsrc : ∀ j u, (cellsO r)[j]? = some u → wk.cell? (ad.add j) = some u := by
      intro j u hu
      have hj : j < n * 8 := by
        have := (List.getElem?_eq_some_iff.1 hu).1
        rw [cellsO_len, hn] at this
        exact this
      rw [had (by omega), addr_add]
      have hh := hown
      unfold OwnO at hh
      have e2 : (x :: r).length = n + 1 := by rw [List.length_cons, hn]
      rw [e2] at hh
      rw [World.ownsRow.cellAt hh (8 + j) (by omega), cellsO, List.getElem?_append_right (by rw [ooCells_len]; omega), ooCells_len, Nat.add_sub_cancel_left]
      exact hu
    obtain ⟨w', e1, e2, e3⟩ := run_append_fits (P := Tryz.prog) wk base 105 ty 117 i0 8 und_own' hi hz1 g 0 cap [] hrow ad n cs (cellsO r) (by rw [cellsO_len, hn]) hsrc (cellsO_one r h1) (by omega)
    rw [Nat.zero_add] at e1 e2
    refine ⟨w', e1, ?_, ?_⟩
    · unfold OwnO
      rw [hn]
      exact e2
    · have hk : Kept (fun k => k = g) wk w' := ⟨e3.os, e3.tape, e3.output, e3.size, fun k hk hne => e3.block k hk (fun e => hne (Option.some.inj e))⟩
      exact (Kept.of_below (S := fun k => k = g) hb).trans' hk
  have hcl : ∀ wk, DO w base g n cap r wk → (Builtin.clear_ #[105] 0 #[.slice (some ⟨g, n * 8, none⟩) 1 (cap - n)]).run Tryz.prog wk = .ok (.tuple #[]) (wk.setCells g (n * 8) (Builtin.zeroCells zeroOo.cells 1).toList) := fun wk hk => by
    have := hk.own
    unfold OwnO at this
    rw [hn] at this
    exact run_clear_one this (by omega) 0
  have HCL : Hid _ := hcl
  have HEND : Hid (∀ wk, DO w base g n cap r wk → OwnO (wk.setCells g (n * 8) (Builtin.zeroCells zeroOo.cells 1).toList) base (.slice (some ⟨g, 0, none⟩) n cap) r ∧ Kept (fun k => k = g) w (wk.setCells g (n * 8) (Builtin.zeroCells zeroOo.cells 1).toList)) := fun wk hk => by
    refine ⟨?_, kept_cells _ _ wk hk.kept rfl⟩
    have := hk.own
    unfold OwnO at this ⊢
    rw [hn] at this ⊢
    exact own_setCells this _ _ (Nat.le_refl _) wk this
  have hne : ¬ cap = n := by omega
  clear h hn h1 hdr hcl had
  go_enter Tryz.func136, Tryz.ntmps136
  go_wp2
  refine wp_region_stage (fun wk => w.heap.size ≤ wk.heap.size) (fun i => i == 6) (fun wk => Below w.heap.size w wk) (by kernel_rfl) (by kernel_rfl) (by kernel_rfl) (fun _ h => h.size) ((Below.refl _ _).drew) ?_
  refine wpStage_still rfl (fun K hK => ?_)
  go_simp
  refine ⟨_, fun _ _ => rfl, hK _ ?_⟩
  clear hK K
  refine wpStage_still rfl (fun K hK => ?_)
  go_simp
  refine ⟨_, fun _ _ => rfl, hK _ ?_⟩
  clear hK K
  refine wpStage_still rfl (fun K hK => ?_)
  rw [if_pos (by rfl)]
  refine ⟨.slice (some ⟨g, 0, none⟩) 0 cap, fun wk hwk => exec_slice rfl (HT.out wk), hK _ ?_⟩
  clear hK K
  refine wpStage_still rfl (fun K hK => ?_)
  go_simp
  refine ⟨_, fun _ _ => rfl, hK _ ?_⟩
  clear hK K
  refine wpStage_still rfl (fun K hK => ?_)
  go_simp
  refine ⟨_, fun _ _ => rfl, hK _ ?_⟩
  clear hK K
  refine wpStage_still rfl (fun K hK => ?_)
  rw [if_pos (by rfl)]
  refine ⟨.slice (some ad) n cs, fun wk hwk => exec_slice rfl (HD.out wk), hK _ ?_⟩
  clear hK K
  refine wpStage_spine rfl rfl (fun u => u = .slice (some ⟨g, 0, none⟩) n cap) (fun u wk => DO w base g n cap r wk) ⟨_, rfl⟩ (fun _ _ h => h.kept.size) (fun wk hwk => ?_) (fun v6 hv6 => ?_)
  · obtain ⟨w', e1, e2⟩ := HAP.out _ wk hwk
    exact spine_app rfl rfl rfl e1 ⟨rfl, e2⟩
  subst hv6
  refine wpStage_still rfl (fun K hK => ?_)
  go_simp
  refine ⟨_, fun _ _ => rfl, hK _ ?_⟩
  clear hK K
  refine wpStage_nil (fun w9 hw9 => ?_)
  have H9 : Hid _ := hw9
  clear hw9
  have hcl := HCL.out w9 H9.out
  have HE : Hid _ := HEND.out w9 H9.out
  clear H9 HCL HEND HAP HD HT HO H1 HN
  go_wp2
  go_ret
  exact ⟨rfl, HE.out⟩

end Go.Proofs.YtfpemdbiplfkgacGreat

/-
  The contracts of hearOwn and Hear.
-/
namespace Go.Proofs.YtfpemdbiplfkgacGreat
open Go.RowKit

theorem PwC.setNext {w : World} {P : Nat} {lv ov : Value} {me next seen sent : Int} (h : PwC w P lv ov me next seen sent) (x : Int) : PwC (w.setCell ⟨P, 1, none⟩ (.int .i64 x)) P lv ov me x seen sent := by
  obtain ⟨hlt, c0, c1, c2, c3, c4, c5, hf⟩ := h
  refine ⟨by simpa using hlt, ?_, ?_, ?_, ?_, ?_, ?_, fun o ho => by simpa [go_sem] using hf o ho⟩
  · simp [go_sem, c0]
  · simp [go_sem, c1]
  · simp [go_sem, c2]
  · simp [go_sem, c3]
  · simp [go_sem, c4]
  · simp [go_sem, c5]
theorem PwC.setSeen {w : World} {P : Nat} {lv ov : Value} {me next seen sent : Int} (h : PwC w P lv ov me next seen sent) (x : Int) : PwC (w.setCell ⟨P, 2, none⟩ (.int .i64 x)) P lv ov me next x sent := by
  obtain ⟨hlt, c0, c1, c2, c3, c4, c5, hf⟩ := h
  refine ⟨by simpa using hlt, ?_, ?_, ?_, ?_, ?_, ?_, fun o ho => by simpa [go_sem] using hf o ho⟩
  · simp [go_sem, c0]
  · simp [go_sem, c1]
  · simp [go_sem, c2]
  · simp [go_sem, c3]
  · simp [go_sem, c4]
  · simp [go_sem, c5]
theorem PwC.setList {w : World} {P : Nat} {lv ov : Value} {me next seen sent : Int} (h : PwC w P lv ov me next seen sent) (x : Value) : PwC (w.setCell ⟨P, 3, none⟩ x) P x ov me next seen sent := by
  obtain ⟨hlt, c0, c1, c2, c3, c4, c5, hf⟩ := h
  refine ⟨by simpa using hlt, ?_, ?_, ?_, ?_, ?_, ?_, fun o ho => by simpa [go_sem] using hf o ho⟩
  · simp [go_sem, c0]
  · simp [go_sem, c1]
  · simp [go_sem, c2]
  · simp [go_sem, c3]
  · simp [go_sem, c4]
  · simp [go_sem, c5]
theorem PwC.setOpens {w : World} {P : Nat} {lv ov : Value} {me next seen sent : Int} (h : PwC w P lv ov me next seen sent) (x : Value) : PwC (w.setCell ⟨P, 4, none⟩ x) P lv x me next seen sent := by
  obtain ⟨hlt, c0, c1, c2, c3, c4, c5, hf⟩ := h
  refine ⟨by simpa using hlt, ?_, ?_, ?_, ?_, ?_, ?_, fun o ho => by simpa [go_sem] using hf o ho⟩
  · simp [go_sem, c0]
  · simp [go_sem, c1]
  · simp [go_sem, c2]
  · simp [go_sem, c3]
  · simp [go_sem, c4]
  · simp [go_sem, c5]
theorem PwC.setSent {w : World} {P : Nat} {lv ov : Value} {me next seen sent : Int} (h : PwC w P lv ov me next seen sent) (x : Int) : PwC (w.setCell ⟨P, 5, none⟩ (.int .i64 x)) P lv ov me next seen x := by
  obtain ⟨hlt, c0, c1, c2, c3, c4, c5, hf⟩ := h
  refine ⟨by simpa using hlt, ?_, ?_, ?_, ?_, ?_, ?_, fun o ho => by simpa [go_sem] using hf o ho⟩
  · simp [go_sem, c0]
  · simp [go_sem, c1]
  · simp [go_sem, c2]
  · simp [go_sem, c3]
  · simp [go_sem, c4]
  · simp [go_sem, c5]

/-- A cell of the writer's own block is written: a number. -/
theorem PwAt.wrote {w : World} {base P : Nat} {S : Nat → Prop} {lv ov : Value} {tvs : List Value} {l : List Ch} {es : List Dd} {ts : List (List Ch)} {me next seen sent : Int} {me' next' seen' sent' : Int} (h : PwAt w base S P lv ov tvs l es ts me next seen sent) {o : Nat} {u : Value} (hc : PwC (w.setCell ⟨P, o, none⟩ u) P lv ov me' next' seen' sent') : PwAt (w.setCell ⟨P, o, none⟩ u) base S P lv ov tvs l es ts me' next' seen' sent' := by
  have hne : ∀ k, k ≠ P → (w.setCell ⟨P, o, none⟩ u).heap[k]? = w.heap[k]? := fun k e => Below.heap_setCell _ _ _ _ e
  have hsz : (w.setCell ⟨P, o, none⟩ u).heap.size = w.heap.size := by simp [World.setCell]
  exact ⟨fun k hs => by rw [hsz]; exact h.lo k hs, h.hP, hc, owns_block h.ownL (fun k e => hne k (h.lB k e).2), owns_block h.ownO (fun k e => hne k (h.oB k e).2.1), h.len, h.tooks.of_block (fun v hv k e => hne k (h.tB v hv k e).2.1), h.lB, h.oB, h.tB, h.tD⟩

theorem keptP {w : World} {base P : Nat} {S : Nat → Prop} {lv ov : Value} {tvs : List Value} {l : List Ch} {es : List Dd} {ts : List (List Ch)} {me next seen sent : Int} (h : PwAt w base S P lv ov tvs l es ts me next seen sent) (o : Nat) (u : Value) : Kept S w (w.setCell ⟨P, o, none⟩ u) := Kept.set (Kept.refl S w) (p := ⟨P, o, none⟩) h.hP u

/-- The eldest has gone: its open deeds in place, and the cell that names them. -/
theorem PwAt.dropped {w w1 : World} {base P g n cap : Nat} {S : Nat → Prop} {lv tv : Value} {tvs : List Value} {l t : List Ch} {e : Dd} {es : List Dd} {ts : List (List Ch)} {me next seen sent : Int} (h : PwAt w base S P lv (.slice (some ⟨g, 0, none⟩) (n + 1) cap) (tv :: tvs) l (e :: es) (t :: ts) me next seen sent)
    (ho : OwnO w1 base (.slice (some ⟨g, 0, none⟩) n cap) (es.zip tvs)) (hk : Kept (fun k => k = g) w w1) : PwAt (w1.setCell ⟨P, 4, none⟩ (.slice (some ⟨g, 0, none⟩) n cap)) base S P lv (.slice (some ⟨g, 0, none⟩) n cap) tvs l es ts me next seen sent ∧ Own (w1.setCell ⟨P, 4, none⟩ (.slice (some ⟨g, 0, none⟩) n cap)) base tv t ∧ Kept S w (w1.setCell ⟨P, 4, none⟩ (.slice (some ⟨g, 0, none⟩) n cap)) := by
  have hgP : g ≠ P := (h.oB g rfl).2.1
  have hb : ∀ k, S k → k ≠ g → k ≠ P → (w1.setCell ⟨P, 4, none⟩ (.slice (some ⟨g, 0, none⟩) n cap)).heap[k]? = w.heap[k]? := fun k hs e1 e2 => by
    rw [Below.heap_setCell _ _ _ _ e2]
    exact hk.block k (h.lo k hs).2 e1
  have hsz : (w1.setCell ⟨P, 4, none⟩ (.slice (some ⟨g, 0, none⟩) n cap)).heap.size = w1.heap.size := by simp [World.setCell]
  have hlg : ∀ k, lv.ownBlock = some k → k ≠ g := fun k e e' => (h.oB g rfl).2.2 (by rw [← e']; exact e)
  have htg : ∀ u ∈ tv :: tvs, ∀ k, u.ownBlock = some k → k ≠ g := fun u hu k e e' => (h.tB u hu k e).2.2.2 (by rw [e']; rfl)
  have hc : PwC w1 P lv (.slice (some ⟨g, 0, none⟩) (n + 1) cap) me next seen sent := h.cells.kept hk.size (hk.block P h.cells.lt (fun e => hgP e.symm))
  refine ⟨⟨fun k hs => ⟨(h.lo k hs).1, by rw [hsz]; exact Nat.lt_of_lt_of_le (h.lo k hs).2 hk.size⟩, h.hP, hc.setOpens _, owns_block h.ownL (fun k e => hb k (h.lB k e).1 (hlg k e) (h.lB k e).2), owns_block ho (fun k e => Below.heap_setCell _ _ _ _ (fun e' => ?_)), ?_, ?_, h.lB, fun k e => h.oB k e, fun u hu k e => h.tB u (by simp [hu]) k e, (List.pairwise_cons.1 h.tD).2⟩, ?_, ?_⟩
  · have e2 : some g = some k := e
    have e3 : k = P := e'
    exact hgP (by rw [← e3]; exact Option.some.inj e2)
  · have := h.len
    simpa using this
  · exact Tooks.of_block h.tooks.2 (fun u hu k e => hb k (h.tB u (by simp [hu]) k e).1 (htg u (by simp [hu]) k e) (h.tB u (by simp [hu]) k e).2.1)
  · exact owns_block h.tooks.1 (fun k e => hb k (h.tB tv (by simp) k e).1 (htg tv (by simp) k e) (h.tB tv (by simp) k e).2.1)
  · exact (kept_sub hk (fun k e => by rw [e]; exact (h.oB g rfl).1)).set (p := ⟨P, 4, none⟩) h.hP _

/-- In the middle of hearOwn: the writer, the eldest in a box, and what was kept of it. -/
structure HW (w : World) (base P : Nat) (S : Nat → Prop) (lv ov : Value) (tvs : List Value) (l : List Ch) (es : List Dd) (ts : List (List Ch)) (me next seen sent : Int) (d : Dd) (tv : Value) (t : List Ch) (wk : World) : Prop where
  at_ : PwAt wk base S P lv ov tvs l es ts me next seen sent
  kept : Kept S w wk
  deed : DdAt wk w.heap.size 0 d
  box : OoAt wk (w.heap.size + 1) 0 d tv
  own : Own wk base tv t
  tS : ∀ k, tv.ownBlock = some k → S k ∧ k ≠ P ∧ ¬ Turned lv tvs k

theorem HW.after {w wk w' : World} {base P : Nat} {S : Nat → Prop} {lv ov tv : Value} {tvs : List Value} {l t : List Ch} {es : List Dd} {ts : List (List Ch)} {me next seen sent : Int} {d : Dd} (h : HW w base P S lv ov tvs l es ts me next seen sent d tv t wk) (hb : Below wk.heap.size wk w') : HW w base P S lv ov tvs l es ts me next seen sent d tv t w' :=
  ⟨h.at_.below hb, h.kept.after hb, h.deed.below hb, h.box.of_block (Nat.lt_of_lt_of_le h.box.deed.lt hb.size) (hb.block _ h.box.deed.lt), h.own.below hb, h.tS⟩

theorem HW.wrote {w wk : World} {base P o : Nat} {S : Nat → Prop} {lv ov tv u : Value} {tvs : List Value} {l t : List Ch} {es : List Dd} {ts : List (List Ch)} {me next seen sent me' next' seen' sent' : Int} {d : Dd} (h : HW w base P S lv ov tvs l es ts me next seen sent d tv t wk) (hlo : ∀ k, S k → k < w.heap.size) (hc : PwC (wk.setCell ⟨P, o, none⟩ u) P lv ov me' next' seen' sent') : HW w base P S lv ov tvs l es ts me' next' seen' sent' d tv t (wk.setCell ⟨P, o, none⟩ u) := by
  have hP := hlo P h.at_.hP
  have hsz : (wk.setCell ⟨P, o, none⟩ u).heap.size = wk.heap.size := by simp [World.setCell]
  exact ⟨h.at_.wrote hc, h.kept.set (p := ⟨P, o, none⟩) h.at_.hP u, h.deed.of_block' (by rw [hsz]; exact h.deed.lt) (Below.heap_setCell _ _ _ _ (by show w.heap.size ≠ P; omega)), h.box.of_block (by rw [hsz]; exact h.box.deed.lt) (Below.heap_setCell _ _ _ _ (by show w.heap.size + 1 ≠ P; omega)), owns_block h.own (fun k e => Below.heap_setCell _ _ _ _ (h.tS k e).2.1), h.tS⟩

theorem HW.turned {w wk w' : World} {base P : Nat} {S : Nat → Prop} {lv ov tv : Value} {tvs : List Value} {l l' t : List Ch} {es : List Dd} {ts ts' : List (List Ch)} {me next seen sent : Int} {d : Dd} (h : HW w base P S lv ov tvs l es ts me next seen sent d tv t wk) (hlo : ∀ k, S k → k < w.heap.size) (hat : PwAt w' base S P lv ov tvs l' es ts' me next seen sent) (hk : Kept (Turned lv tvs) wk w') : HW w base P S lv ov tvs l' es ts' me next seen sent d tv t w' := by
  have hsub : ∀ k, Turned lv tvs k → S k := fun k e => by
    rcases e with e | ⟨u, hu, e⟩
    · exact (h.at_.lB k e).1
    · exact (h.at_.tB u hu k e).1
  exact ⟨hat, h.kept.trans' (kept_sub hk hsub), h.deed.of_block' (Nat.lt_of_lt_of_le h.deed.lt hk.size) (hk.block _ h.deed.lt (fun e => by have := hlo _ (hsub _ e); omega)), h.box.of_block (Nat.lt_of_lt_of_le h.box.deed.lt hk.size) (hk.block _ h.box.deed.lt (fun e => by have := hlo _ (hsub _ e); omega)), owns_block h.own (fun k e => hk.block k (World.ownsRow.lt h.own k e).2 (h.tS k e).2.2), h.tS⟩

theorem ack_comp (no n : Int) (t l : List Ch) : (l.map (numF no n)).map (outF t n) = l.map (ackF no n t) := by
  rw [List.map_map]; rfl

theorem zip_cons {e : Dd} {es : List Dd} {tv : Value} {tvs : List Value} : (e :: es).zip (tv :: tvs) = (e, tv) :: es.zip tvs := rfl

set_option maxRecDepth 20000 in
set_option maxHeartbeats 1600000 in
theorem hearOwn_yes {w : World} {base P : Nat} {S : Nat → Prop} {lv ov tv : Value} {tvs : List Value} {l t : List Ch} {d : Dd} {es : List Dd} {ts : List (List Ch)} {me next : Int} {seen sent : Nat} (h : PwAt w base S P lv ov (tv :: tvs) l (d :: es) (t :: ts) me next seen ((sent : Int) + 1)) (hl : l.length ≤ 1000) (hes : es.length ≤ 1000) (hts : ∀ u ∈ t :: ts, u.length ≤ 1000) (hsn : seen ≤ 1000) (hst : sent ≤ 1000) :
    Calls Tryz.prog 101 #[.pointer (some ⟨P, 0, none⟩), ddV d] w fun e w' => e = .returned (.int .i64 0) ∧ (∃ ov', PwAt w' base S P lv ov' tvs (l.map (ackF d.no ((seen : Int) + 1) t)) es (ts.map fun u => u.map (numF d.no ((seen : Int) + 1))) me next ((seen : Int) + 1) sent) ∧ Kept S w w' := by
  have HLO : Hid (∀ k, S k → k < w.heap.size) := fun k hk => (h.lo k hk).2
  have HL : Hid (∀ l' : List Ch, l'.length = l.length → l'.length ≤ 1000) := fun l' e => by rw [e]; exact hl
  have HT0 : Hid (t.length ≤ 1000) := hts t (by simp)
  have HTS : Hid (∀ u ∈ ts, u.length ≤ 1000) := fun u hu => hts u (by simp [hu])
  obtain ⟨g, cap, rfl⟩ := h.topen.place (by simp)
  have hl1 : (d :: es).length = es.length + 1 := rfl
  rw [hl1] at h
  have HA : Hid (PwAt w base S P lv (.slice (some ⟨g, 0, none⟩) (es.length + 1) cap) (tv :: tvs) l (d :: es) (t :: ts) me next seen ((sent : Int) + 1)) := h
  obtain ⟨ta, tcap, htf, _⟩ := h.tooks.1.lst.len
  have HSEP : Hid (∀ k, tv.ownBlock = some k → S k ∧ k ≠ P ∧ ¬ Turned lv tvs k) := fun k e => by
    have h1 := h.tB tv (by simp) k e
    refine ⟨h1.1, h1.2.1, fun e' => ?_⟩
    rcases e' with e' | ⟨u, hu, e'⟩
    · exact h1.2.2.1 e'
    · exact (List.pairwise_cons.1 h.tD).1 u hu k e e'
  have HONE : Hid (∀ y ∈ es.zip tvs, y.2.oneCell' = true) := fun y hy => h.tooks.2.one y.2 (List.of_mem_zip hy).2
  have HZL : Hid ((es.zip tvs).length = es.length) := zip_len (by have := h.len; simpa using this)
  have c4 := h.cells.opens
  have c5 := h.cells.sent
  have c2 := h.cells.seen
  have hPlt := h.cells.lt
  obtain ⟨⟨hglt, g0, g1, g2, g3, g4, g5, g6⟩, g7⟩ := h.topen.nth (i := 0) rfl (by simp) (by simp)
  simp only [Nat.zero_mul, Nat.zero_add, List.getElem_cons_zero] at g0 g1 g2 g3 g4 g5 g6 g7
  have hE : ∀ o, (w.alloc (dObj d)).cell? o = (w.alloc (dObj d)).cell? o := fun _ => rfl
  have HB0 : Hid (DdAt (w.alloc (dObj d)) w.heap.size 0 d) := ddat_start w d
  have hpos : ((es.length : Int) + 1 == 0) = false := by simp; omega
  generalize hn : es.length = n at *
  have HN : Hid (es.length = n) := hn
  generalize t.length = tn at htf
  subst htf
  obtain ⟨kind, by_, no, dseen, at_, many, text⟩ := d
  simp only at g0 g1 g2 g3 g4 g5 g6
  clear h hts hl hl1 hn hE
  go_enter Tryz.func101, Tryz.ntmps101
  go_wp2
  go_quiet (fail)
  go_wp2_with fail
  clear c2 c4 c5 g0 g1 g2 g3 g4 g5 g6 g7
  have HB0' : Hid (Below w.heap.size w ((w.alloc (dObj ⟨kind, by_, no, dseen, at_, many, text⟩)).drewN nq)) := below_drewN (below1 _ _) _
  have HD0 : Hid (DdAt ((w.alloc (dObj ⟨kind, by_, no, dseen, at_, many, text⟩)).drewN nq) w.heap.size 0 ⟨kind, by_, no, dseen, at_, many, text⟩) := HB0.out.below (below_drewN (Below.refl _ _) _)
  have HS0 : Hid (((w.alloc (dObj ⟨kind, by_, no, dseen, at_, many, text⟩)).drewN nq).heap.size = w.heap.size + 1) := by show _ = _; simp
  generalize (w.alloc (dObj ⟨kind, by_, no, dseen, at_, many, text⟩)).drewN nq = w0 at *
  have HBX : Hid (OoAt (w0.alloc (ooObj ⟨kind, by_, no, dseen, at_, many, text⟩ (.slice ta tn tcap))) (w.heap.size + 1) 0 ⟨kind, by_, no, dseen, at_, many, text⟩ (.slice ta tn tcap)) := by
    rw [← HS0.out]
    refine ⟨⟨by simp, ?_, ?_, ?_, ?_, ?_, ?_, ?_⟩, ?_⟩ <;> simp [go_sem]
  have HB1 : Hid (Below w.heap.size w (w0.alloc (ooObj ⟨kind, by_, no, dseen, at_, many, text⟩ (.slice ta tn tcap)))) := below_after HB0'.out (below1 _ _)
  have HD1 : Hid (DdAt (w0.alloc (ooObj ⟨kind, by_, no, dseen, at_, many, text⟩ (.slice ta tn tcap))) w.heap.size 0 ⟨kind, by_, no, dseen, at_, many, text⟩) := HD0.out.below (below1 _ _)
  have hA1 := HA.out.below HB1.out
  have hown1 := hA1.ownO
  rw [zip_cons] at hown1
  have HA1 : Hid _ := hA1
  refine (delete_first hown1 (by rw [HZL.out]) hes HONE.out).mono ?_
  rintro e w2 ⟨rfl, ho2, hk2⟩
  have hdr := HA1.out.dropped ho2 hk2
  have hgP : g ≠ P := (HA1.out.oB g rfl).2.1
  have hgl : g < w.heap.size := HLO.out g (HA1.out.oB g rfl).1
  have hPl : P < w.heap.size := HLO.out P HA1.out.hP
  have hc2 : PwC w2 P lv (.slice (some ⟨g, 0, none⟩) (n + 1) cap) me next seen ((sent : Int) + 1) := HA1.out.cells.kept hk2.size (hk2.block P HA1.out.cells.lt (fun e => hgP e.symm))
  have hsz2 : (w2.setCell ⟨P, 4, none⟩ (.slice (some ⟨g, 0, none⟩) n cap)).heap.size = w2.heap.size := by simp [World.setCell]
  have HW3 : Hid (HW w base P S lv (.slice (some ⟨g, 0, none⟩) n cap) tvs l es ts me next seen ((sent : Int) + 1) ⟨kind, by_, no, dseen, at_, many, text⟩ (.slice ta tn tcap) t (w2.setCell ⟨P, 4, none⟩ (.slice (some ⟨g, 0, none⟩) n cap))) := by
    have e1 : (w2.setCell ⟨P, 4, none⟩ (.slice (some ⟨g, 0, none⟩) n cap)).heap[w.heap.size]? = (w0.alloc (ooObj ⟨kind, by_, no, dseen, at_, many, text⟩ (.slice ta tn tcap))).heap[w.heap.size]? := by
      rw [Below.heap_setCell _ _ _ _ (by show w.heap.size ≠ P; omega)]
      exact hk2.block _ HD1.out.lt (by omega)
    have e2 : (w2.setCell ⟨P, 4, none⟩ (.slice (some ⟨g, 0, none⟩) n cap)).heap[w.heap.size + 1]? = (w0.alloc (ooObj ⟨kind, by_, no, dseen, at_, many, text⟩ (.slice ta tn tcap))).heap[w.heap.size + 1]? := by
      rw [Below.heap_setCell _ _ _ _ (by show w.heap.size + 1 ≠ P; omega)]
      exact hk2.block _ HBX.out.deed.lt (by omega)
    exact ⟨hdr.1, (Kept.of_below HB1.out).trans' hdr.2.2, HD1.out.of_block' (by rw [hsz2]; exact Nat.lt_of_lt_of_le HD1.out.lt hk2.size) e1, HBX.out.of_block (by rw [hsz2]; exact Nat.lt_of_lt_of_le HBX.out.deed.lt hk2.size) e2, hdr.2.1, HSEP.out⟩
  have HW4 : Hid (HW w base P S lv (.slice (some ⟨g, 0, none⟩) n cap) tvs l es ts me next seen sent ⟨kind, by_, no, dseen, at_, many, text⟩ (.slice ta tn tcap) t ((w2.setCell ⟨P, 4, none⟩ (.slice (some ⟨g, 0, none⟩) n cap)).setCell ⟨P, 5, none⟩ (.int .i64 sent))) := HW3.out.wrote HLO.out (HW3.out.at_.cells.setSent _)
  have HW5 : Hid (HW w base P S lv (.slice (some ⟨g, 0, none⟩) n cap) tvs l es ts me next ((seen : Int) + 1) sent ⟨kind, by_, no, dseen, at_, many, text⟩ (.slice ta tn tcap) t (((w2.setCell ⟨P, 4, none⟩ (.slice (some ⟨g, 0, none⟩) n cap)).setCell ⟨P, 5, none⟩ (.int .i64 sent)).setCell ⟨P, 2, none⟩ (.int .i64 ((seen : Int) + 1)))) := HW4.out.wrote HLO.out (HW4.out.at_.cells.setSeen _)
  have hP2 := hc2.lt
  have e4 := hc2.opens
  have e5 := hc2.sent
  have e2 := hc2.seen
  have f4 := hc2.free 4 (by omega)
  have f5 := hc2.free 5 (by omega)
  have f2 := hc2.free 2 (by omega)
  have d0 := HW5.out.deed
  have hdd : ∀ o, ((((w2.setCell ⟨P, 4, none⟩ (.slice (some ⟨g, 0, none⟩) n cap)).setCell ⟨P, 5, none⟩ (.int .i64 sent)).setCell ⟨P, 2, none⟩ (.int .i64 ((seen : Int) + 1)))).cell? ⟨w.heap.size, o, none⟩ = w2.cell? ⟨w.heap.size, o, none⟩ := fun o => by
    simp [go_sem]
  obtain ⟨_, q0, q1, q2, q3, q4, q5, q6⟩ := d0
  simp only [Nat.zero_add] at q0 q1 q2 q3 q4 q5 q6
  rw [hdd] at q0 q1 q2 q3 q4 q5 q6
  have hne1 : ¬ w.heap.size = P := by omega
  have hne2 : ¬ P = w.heap.size := by omega
  clear ho2 hk2 hdr hc2 hdd hA1 hown1 HW3 HW4 HD0 HD1 HB0 HB1 HB0' HA1 HBX hsz2
  go_wp2_with fail
  refine (comesIn_pw HW5.out.at_ (HL.out l rfl) (by rw [HN.out]; exact hes) HTS.out ⟨kind, by_, no, dseen, at_, many, text⟩).mono ?_
  rintro e w6 ⟨rfl, hat6, hk6⟩
  have HW6 : Hid _ := HW5.out.turned HLO.out hat6 hk6
  clear hat6 hk6 HW5 e4 e5 e2 f4 f5 f2 q0 q1 q2 q3 q4 q5 q6
  obtain ⟨⟨hlt6, q0, q1, q2, q3, q4, q5, q6⟩, q7⟩ := HW6.out.box
  simp only [Nat.zero_add] at q0 q1 q2 q3 q4 q5 q6 q7
  go_wp2_with fail
  refine (goesOut_pw HW6.out.at_ HW6.out.own (fun k e e' => (HW6.out.tS k e).2.2 (.inl e')) (HL.out _ (by simp)) HT0.out ⟨kind, by_, no, dseen, at_, many, text⟩).mono ?_
  rintro e w7 ⟨rfl, hat7, hk7⟩
  have HE : Hid ((∃ ov', PwAt w7 base S P lv ov' tvs (l.map (ackF no ((seen : Int) + 1) t)) es (ts.map fun u => u.map (numF no ((seen : Int) + 1))) me next ((seen : Int) + 1) sent) ∧ Kept S w w7) := by
    refine ⟨⟨.slice (some ⟨g, 0, none⟩) n cap, ?_⟩, HW6.out.kept.trans' (kept_sub hk7 (fun k e => (HW6.out.at_.lB k e).1))⟩
    rw [← ack_comp]
    exact hat7
  clear hat7 hk7 HW6 q0 q1 q2 q3 q4 q5 q6 q7
  go_wp2
  go_ret
  exact ⟨rfl, HE.out⟩

set_option maxRecDepth 20000 in
set_option maxHeartbeats 800000 in
theorem hearOwn_none {w : World} {base P : Nat} {S : Nat → Prop} {lv ov : Value} {tvs : List Value} {l : List Ch} {ts : List (List Ch)} {me next seen sent : Int} (h : PwAt w base S P lv ov tvs l [] ts me next seen sent) (d : Dd) :
    Calls Tryz.prog 101 #[.pointer (some ⟨P, 0, none⟩), ddV d] w fun e w' => e = .returned (.int .i64 12) ∧ Below w.heap.size w w' := by
  obtain ⟨a, cap, rfl⟩ := h.topen.form
  have c4 := h.cells.opens
  have hPlt := h.cells.lt
  simp only [List.length_nil] at c4
  obtain ⟨kind, by_, no, dseen, at_, many, text⟩ := d
  clear h
  go_enter Tryz.func101, Tryz.ntmps101
  go_wp2
  go_quiet (fail)
  go_wp2
  go_ret
  exact ⟨rfl, below_drewN (below1 _ _) _⟩

set_option maxRecDepth 20000 in
set_option maxHeartbeats 800000 in
theorem hearOwn_kind {w : World} {base P : Nat} {S : Nat → Prop} {lv ov : Value} {tvs : List Value} {l : List Ch} {e : Dd} {es : List Dd} {ts : List (List Ch)} {me next seen sent : Int} (h : PwAt w base S P lv ov tvs l (e :: es) ts me next seen sent) (d : Dd) (hk : e.kind ≠ d.kind) :
    Calls Tryz.prog 101 #[.pointer (some ⟨P, 0, none⟩), ddV d] w fun e w' => e = .returned (.int .i64 12) ∧ Below w.heap.size w w' := by
  obtain ⟨g, cap, rfl⟩ := h.topen.place (by simp)
  have hv : 0 < tvs.length := by rw [h.len]; simp
  obtain ⟨⟨hglt, g0, g1, g2, g3, g4, g5, g6⟩, -⟩ := h.topen.nth (i := 0) rfl (by simp) hv
  simp only [Nat.zero_mul, Nat.zero_add, List.getElem_cons_zero] at g0 g1 g2 g3 g4 g5 g6
  have c4 := h.cells.opens
  have hPlt := h.cells.lt
  simp only [List.length_cons] at c4
  have hpos : (((es.length + 1 : Nat) : Int) == 0) = false := by simp; omega
  have hk' : (e.kind == d.kind) = false := by simp [hk]
  obtain ⟨kind, by_, no, dseen, at_, many, text⟩ := d
  obtain ⟨ekind, eby, eno, eseen, eat, emany, etext⟩ := e
  simp only at g0 g1 g2 g3 g4 g5 g6 hk'
  generalize es.length = n at *
  clear h hk hv
  go_enter Tryz.func101, Tryz.ntmps101
  go_wp2
  go_quiet (fail)
  go_wp2
  go_ret
  exact ⟨rfl, below_drewN (below1 _ _) _⟩

end Go.Proofs.YtfpemdbiplfkgacGreat

/-
  What View answers can be made a text at once, and later.
-/
namespace Go.Proofs.YtfpemdbiplfkgacGreat
open Go.RowKit

/-- A value that is made a text, now and in whatever world comes of it by making memory alone. -/
def Tells (u : Value) (s : ByteArray) (wk : World) : Prop := ∀ w'', Below wk.heap.size wk w'' → (convert 56 9 u).run Tryz.prog w'' = .ok (.string s) w''

theorem Tells.below {u : Value} {s : ByteArray} {wk w' : World} (h : Tells u s wk) (hb : Below wk.heap.size wk w') : Tells u s w' := fun w'' hb' => h w'' (below_after hb hb')

theorem view_tells {w : World} {v : Value} {l : List Ch} (h : Lst w v l) (hl : l.length ≤ 1000) (seen by_ : Int) :
    Calls Tryz.prog 20 #[v, .int .i64 seen, .int .i64 by_] w fun e w' => ∃ u, e = .returned u ∧ Tells u (strOfNums (vw l seen by_)) w' ∧ Below w.heap.size w w' := by
  obtain ⟨a, len, cap, rfl, h1, h2, h3⟩ := h
  rcases h3 with rfl | ⟨b, off, rfl, hr⟩
  · obtain rfl : l = [] := List.length_eq_zero_iff.1 h1
    refine (view_empty a cap seen by_ w).mono ?_
    rintro e w' ⟨rfl, hb⟩
    exact ⟨_, rfl, fun w'' _ => own_string (base := w''.heap.size) (zs := []) (World.ownsRow_nil _ _ _ _), hb⟩
  · refine (view_some b off len cap l seen by_ w h1 (by omega) hr).mono ?_
    rintro e w' ⟨u, rfl, ho, hb⟩
    exact ⟨u, rfl, fun w'' hb' => own_string (owns_below ho hb'), hb⟩

end Go.Proofs.YtfpemdbiplfkgacGreat
