/-
  The contract of fold.All: deeds one behind the other.
-/
import Derived.Test.YtebhbhcjfnohmabFDo
namespace Go.Proofs.Ytebhbhcjfnohmab
open Go.RowKit

/-- Deeds that lie in memory from a place on. -/
structure Deeds (w : World) (b off : Nat) (ds : List Dd) : Prop where
  lt : b < w.heap.size
  at_ : ∀ i (h : i < ds.length), DdAt w b (off + i * 7) ds[i]

theorem Deeds.below {w w' : World} {b off : Nat} {ds : List Dd} (h : Deeds w b off ds) (hb : Below w.heap.size w w') : Deeds w' b off ds :=
  ⟨by have := hb.size; have := h.lt; omega, fun i hi => (h.at_ i hi).below hb⟩

/-- The value is a slice that holds just those deeds. -/
def DLst (w : World) (v : Value) (ds : List Dd) : Prop :=
  ∃ (a : Option Addr) (len cap : Nat), v = .slice a len cap ∧ ds.length = len ∧ len ≤ cap ∧ (len = 0 ∨ ∃ b off, a = some ⟨b, off, none⟩ ∧ Deeds w b off ds)

theorem DLst.below {w w' : World} {v : Value} {ds : List Dd} (h : DLst w v ds) (hb : Below w.heap.size w w') : DLst w' v ds := by
  obtain ⟨a, len, cap, rfl, h1, h2, h3⟩ := h
  refine ⟨a, len, cap, rfl, h1, h2, ?_⟩
  rcases h3 with h3 | ⟨b, off, rfl, hr⟩
  · exact .inl h3
  · exact .inr ⟨b, off, rfl, hr.below hb⟩

/-- What a list that was done with the first i deeds keeps: it is short, and its bits fit. -/
structure Small (l : List Ch) : Prop where
  len : l.length ≤ 200
  fits : FitsL l

theorem fits_new (d : Dd) (n : Int) : FitsL (newL d n) := by
  intro x hx
  obtain ⟨j, b, rfl, _⟩ := newFrom_mem hx
  show -9223372036854775808 ≤ (0 : Int) ∧ (0 : Int) ≤ 9223372036854775807
  omega

theorem fits_do {l : List Ch} {d : Dd} {number : Int} (h : FitsL l) (hc : checkC d = 0) : FitsL (doL l d number) := by
  obtain ⟨_, hw, _⟩ := check_parts hc
  by_cases hk : d.kind = 1
  · rw [doL, if_pos hk]
    intro x hx
    rcases List.mem_append.1 hx with hx | hx
    · exact h x (List.mem_of_mem_take hx)
    · rcases List.mem_append.1 hx with hx | hx
      · exact fits_new d number x hx
      · exact h x (List.mem_of_mem_drop hx)
  · rw [doL, if_neg hk]
    intro y hy
    obtain ⟨x, hx, hyx⟩ := takeL_mem hy
    rcases hyx with rfl | ⟨hs, rfl⟩
    · exact h _ hx
    · have h1 := h x hx
      have h2 := add_fits hw (sees_took hs) h1.2
      have h3 : (0 : Int) < 2 ^ d.by_.toNat := Int.pow_pos (by decide)
      show -9223372036854775808 ≤ x.gone + 2 ^ d.by_.toNat ∧ x.gone + 2 ^ d.by_.toNat ≤ 9223372036854775807
      omega

theorem small_do {l : List Ch} {d : Dd} {number : Int} (h : FitsL l) (hc : doC l d number = 0) : Small (doL l d number) := by
  obtain ⟨h1, h2, h3, _⟩ := doC_zero hc
  refine ⟨?_, fits_do h h1⟩
  rw [doL_len (fun hk => (check_parts h1).2.2.2.2.2.2.2.2.2.2.2 hk)]
  exact h3

theorem fits_nil : FitsL [] := fun x hx => by simp at hx

/-- What has been done so far, and what is left. -/
def Sofar (l : List Ch) (i : Nat) (ds all : List Dd) : Prop := Small l ∧ allL [] 0 all = allL l i ds

theorem sofar_step {l : List Ch} {i : Nat} {d : Dd} {r all : List Dd} (h : Sofar l i (d :: r) all) (hc : doC l d (i + 1) = 0) : Sofar (doL l d (i + 1)) (i + 1) r all :=
  ⟨small_do h.1.fits hc, by rw [h.2, allL, if_neg (fun e => e hc)]⟩

theorem sofar_bad {l : List Ch} {i : Nat} {d : Dd} {r all : List Dd} (h : Sofar l i (d :: r) all) (hc : doC l d (i + 1) ≠ 0) : allL [] 0 all = ([], doC l d (i + 1), i) := by rw [h.2, allL, if_pos hc]

theorem sofar_end {l : List Ch} {i : Nat} {all : List Dd} (h : Sofar l i [] all) : allL [] 0 all = (l, 0, 0) := by rw [h.2, allL]

theorem sofar_start (all : List Dd) : Sofar [] 0 all all := ⟨⟨Nat.zero_le _, fits_nil⟩, rfl⟩

abbrev ftV (c at_ : Int) : Value := .agg #[.int .i64 c, .int .i64 at_]

theorem ret_all {v : Value} {c c' a a' : Int} (h : c = c') (h2 : a = a') : Ending.returned (.tuple #[v, ftV c a]) = .returned (.tuple #[v, ftV c' a']) := by rw [h, h2]

/-- A fault in memory. -/
structure TwoC (w : World) (B : Nat) (c a : Int) : Prop where
  c0 : w.cell? ⟨B, 0, none⟩ = some (.int .i64 c)
  c1 : w.cell? ⟨B, 1, none⟩ = some (.int .i64 a)
  f0 : w.frozen? ⟨B, 0, none⟩ = false
  f1 : w.frozen? ⟨B, 1, none⟩ = false

theorem twoC_start (w : World) (c a : Int) : TwoC (w.alloc (.cells #[.int .i64 c, .int .i64 a] 31)) w.heap.size c a := by
  refine ⟨?_, ?_, ?_, ?_⟩ <;> simp [go_sem]

theorem TwoC.below {w w' : World} {B : Nat} {c a : Int} (h : TwoC w B c a) (hB : B < w.heap.size) (hb : Below w.heap.size w w') : TwoC w' B c a := by
  obtain ⟨hc, hf⟩ := bcell hb
  exact ⟨by rw [hc _ _ hB]; exact h.c0, by rw [hc _ _ hB]; exact h.c1, by rw [hf _ _ hB]; exact h.f0, by rw [hf _ _ hB]; exact h.f1⟩

theorem TwoC.put {w : World} {B : Nat} {c a : Int} (h : TwoC w B c a) (c' a' : Int) : TwoC ((w.setCell ⟨B, 0, none⟩ (.int .i64 c')).setCell ⟨B, 1, none⟩ (.int .i64 a')) B c' a' := by
  obtain ⟨c0, c1, f0, f1⟩ := h
  refine ⟨?_, ?_, ?_, ?_⟩
  · simp [go_sem, c0]
  · simp [go_sem, c1]
  · simpa [go_sem] using f0
  · simpa [go_sem] using f1

theorem load_two {w : World} {B : Nat} {c a : Int} (h : TwoC w B c a) : (loadVar 31 ⟨B, 0, none⟩).run Try.prog w = .ok (ftV c a) w := by
  obtain ⟨c0, c1, _, _⟩ := h
  simp [go_sem, loadVar, loadCells, loadCellsFrom, Sem.run_bind, Try.isAgg31, Try.sizeOf31, c0, c1]

theorem results_tmp_cell {fn : Func} {p u : Tmp} {ty : TypeId} (h : fn.results = #[.tmp u, .cell p ty]) (tmps : Array Value) (P : Program) (w : World) :
    (results fn tmps).run P w = ((asAddr (tmps.getD p undef)).run P w).andThen fun a w₁ => ((loadVar ty a).run P w₁).andThen fun v w₂ => .ok (.tuple #[tmps.getD u undef, v]) w₂ := by
  simp only [results, h]
  simp [Sem.run_bind, Result.andThen]

theorem all_end {R : Ending → World → Prop} {a : Act} {w : World} {B : Nat} {c f : Int} {v : Value} (h : TwoC w B c f) (h2 : a.tmps.getD 2 undef = v) (h3 : a.tmps.getD 3 undef = .pointer (some ⟨B, 0, none⟩)) (hd : a.defers = [])
    (hR : R (.returned (.tuple #[v, ftV c f])) w) : bodyPost Try.prog Try.f16 R Exit.ret a w := by
  refine bodyPost_ret ?_ hd hR
  rw [results_tmp_cell rfl, h2, h3]
  simp [asAddr, load_two h]

set_option maxRecDepth 20000 in
set_option maxHeartbeats 400000 in
theorem all_empty (a : Option Addr) (cap : Nat) (w : World) :
    Calls Try.prog 16 #[.slice a 0 cap] w fun e w' => e = .returned (.tuple #[.slice none 0 0, ftV 0 0]) ∧ Below w.heap.size w w' := by
  go_enter Try.func16, Try.ntmps16
  go_wp2
  refine wp_loop_rounds 1 ?_
  rw [rounds_succ]
  go_wp2
  exact all_end (twoC_start w 0 0) rfl rfl rfl ⟨rfl, (Below.refl _ _).alloc (Nat.le_refl _) _⟩

theorem below_put2 {N B : Nat} {w w' : World} (h : Below N w w') (hB : N ≤ B) (c a : Int) : Below N w ((w'.setCell ⟨B, 0, none⟩ (.int .i64 c)).setCell ⟨B, 1, none⟩ (.int .i64 a)) :=
  (h.setCell (p := ⟨B, 0, none⟩) hB _).setCell (p := ⟨B, 1, none⟩) hB _

/-- In the middle of All. -/
structure AInv (w : World) (wr : World) : Prop where
  below : Below (w.alloc (.cells #[.int .i64 0, .int .i64 0] 31)).heap.size (w.alloc (.cells #[.int .i64 0, .int .i64 0] 31)) wr

theorem AInv.two {w wr : World} (h : AInv w wr) : TwoC wr w.heap.size 0 0 := (twoC_start w 0 0).below (by simp) h.below
theorem AInv.old {w wr : World} (h : AInv w wr) : Below w.heap.size w wr := below_after ((Below.refl _ _).alloc (Nat.le_refl _) _) h.below
theorem AInv.after {w wr w' : World} (h : AInv w wr) (hb : Below wr.heap.size wr w') : AInv w w' := ⟨below_after h.below hb⟩

set_option maxRecDepth 20000 in
set_option maxHeartbeats 800000 in
theorem all_some (b off len cap : Nat) (ds : List Dd) (w : World) (hl : ds.length = len) (hm : len ≤ 1000) (hr : Deeds w b off ds) :
    Calls Try.prog 16 #[.slice (some ⟨b, off, none⟩) len cap] w fun e w' =>
      ∃ v', e = .returned (.tuple #[v', ftV (allL [] 0 ds).2.1 (allL [] 0 ds).2.2]) ∧ Own w' w.heap.size v' (allL [] 0 ds).1 ∧ Below w.heap.size w w' := by
  have HR : Hid (Deeds w b off ds) := hr
  have HL : Hid (ds.length = len) := hl
  have hb := hr.lt
  clear hr hl
  go_enter Try.func16, Try.ntmps16
  go_wp2
  go_loopw [4, 11] (fun v i wr => ∃ (k : Nat) (l : List Ch), k ≤ len ∧ i = .int .i64 k ∧ Hid (Sofar l k (ds.drop k) ds) ∧ Hid (Own wr (w.heap.size + 1) v l) ∧ Hid (AInv w wr)) (fun _ i _ => len - (intOf i).toNat)
  case atStart => exact ⟨0, [], Nat.zero_le _, rfl, sofar_start ds, own_nil _ _, ⟨Below.refl _ _⟩⟩
  case round =>
    obtain ⟨k, l, hk, rfl, HS, HV, HA⟩ := hrel
    by_cases hlt : k < len
    · have hkl : k < ds.length := by rw [HL.out]; exact hlt
      obtain ⟨_, g0, g1, g2, g3, g4, g5, g6⟩ := (HR.out.below HA.out.old).at_ k hkl
      have HX : Hid (ds.drop k = ds[k] :: ds.drop (k + 1)) := List.drop_eq_getElem_cons hkl
      generalize ds[k] = d at g0 g1 g2 g3 g4 g5 g6 HX
      rw [HX.out] at HS
      have HBa : Hid (∀ o, Below wr.heap.size wr (wr.alloc o)) := fun o => (Below.refl _ _).alloc (Nat.le_refl _) _
      obtain ⟨kind, by_, no, seen, at_, many, text⟩ := d
      simp only at g0 g1 g2 g3 g4 g5 g6
      go_wp2_with fail
      clear g0 g1 g2 g3 g4 g5 g6
      refine (do_any l ⟨kind, by_, no, seen, at_, many, text⟩ ((k : Int) + 1) _ _ (HV.out.below (HBa.out _)).lst (by have := HS.out.1.len; omega) HS.out.1.fits).mono ?_
      rintro e w1 ⟨v1, rfl, hL, hb1⟩
      have HV1 : Hid (Own w1 (w.heap.size + 1) v1 _) := hL.mono (by have := HA.out.below.size; simp at this ⊢; omega)
      have HA1 : Hid (AInv w w1) := HA.out.after (below_after (HBa.out _) hb1)
      clear hL hb1 HBa HA HV
      by_cases hc : doC l ⟨kind, by_, no, seen, at_, many, text⟩ ((k : Int) + 1) = 0
      · have HN : Hid (Sofar _ _ _ _) := sofar_step HS.out hc
        have HD : Hid (doR l ⟨kind, by_, no, seen, at_, many, text⟩ ((k : Int) + 1) = doL l ⟨kind, by_, no, seen, at_, many, text⟩ ((k : Int) + 1)) := by show doR _ _ _ = _; rw [doR, if_pos hc]
        rw [hc]
        go_wp2
        go_roundw
        case rel => exact ⟨k + 1, _, by omega, by go_num, HN, by rw [← HD.out]; exact HV1, HA1⟩
        case measure => simp [intOf]; omega
      · have HN : Hid (_ = _) := sofar_bad HS.out hc
        have hne : (doC l ⟨kind, by_, no, seen, at_, many, text⟩ ((k : Int) + 1) != 0) = true := by simp [hc]
        obtain ⟨c0, c1, f0, f1⟩ := HA1.out.two
        clear hc
        generalize doC l ⟨kind, by_, no, seen, at_, many, text⟩ ((k : Int) + 1) = c at *
        go_wp2
        refine all_end (v := .slice none 0 0) (HA1.out.two.put c k) rfl rfl rfl ?_
        rw [HN.out]
        exact ⟨_, rfl, own_nil _ _, below_put2 HA1.out.old (Nat.le_refl _) _ _⟩
    · obtain rfl : k = len := by omega
      have HE : Hid (ds.drop k = []) := List.drop_eq_nil_of_le (by rw [HL.out]; exact Nat.le_refl _)
      rw [HE.out] at HS
      have HN : Hid (_ = _) := sofar_end HS.out
      obtain ⟨c0, c1, f0, f1⟩ := HA.out.two
      go_wp2
      refine all_end (v := _) (HA.out.two.put 0 0) rfl rfl rfl ?_
      rw [HN.out]
      have HB2 : Hid _ := below_put2 HA.out.old (Nat.le_refl _) 0 0
      refine ⟨_, rfl, ?_, HB2.out⟩
      exact Own.mono (ownsRow_setCell_below (ownsRow_setCell_below HV.out (a := ⟨w.heap.size, 0, none⟩) (Nat.lt_succ_self _) _) (a := ⟨w.heap.size, 1, none⟩) (Nat.lt_succ_self _) _) (by omega)

theorem all_lst {w : World} {v : Value} {ds : List Dd} (h : DLst w v ds) (hm : ds.length ≤ 1000) :
    Calls Try.prog 16 #[v] w fun e w' =>
      ∃ v', e = .returned (.tuple #[v', ftV (allL [] 0 ds).2.1 (allL [] 0 ds).2.2]) ∧ Own w' w.heap.size v' (allL [] 0 ds).1 ∧ Below w.heap.size w w' := by
  obtain ⟨a, len, cap, rfl, h1, h2, h3⟩ := h
  rcases h3 with rfl | ⟨b, off, rfl, hr⟩
  · obtain rfl : ds = [] := List.length_eq_zero_iff.1 h1
    refine (all_empty a cap w).mono ?_
    rintro e w' ⟨rfl, hb⟩
    exact ⟨_, rfl, own_nil _ _, hb⟩
  · exact all_some b off len cap ds w h1 (by omega) hr

end Go.Proofs.Ytebhbhcjfnohmab
