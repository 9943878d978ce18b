/-
  The contract of fold.All: deeds one behind the other.
-/
import Derived.Test.YtfpemdbiplfkgacGreatFDo
namespace Go.Proofs.YtfpemdbiplfkgacGreat
open Go.RowKit

/-- Deeds that lie in memory from a place on. -/
structure Deeds (w : World) (b off : Nat) (ds : List Dd) : Prop where
  lt : b < w.heap.size
  at_ : ∀ i (h : i < ds.length), DdAt w b (off + i * 7) ds[i]

theorem Deeds.below {w w' : World} {b off : Nat} {ds : List Dd} (h : Deeds w b off ds) (hb : Below w.heap.size w w') : Deeds w' b off ds :=
  ⟨by have := hb.size; have := h.lt; omega, fun i hi => (h.at_ i hi).below hb⟩

/-- The value is a slice that holds just those deeds. -/
def DLst (w : World) (v : Value) (ds : List Dd) : Prop :=
  ∃ (a : Option Addr) (len cap : Nat), v = .slice a len cap ∧ ds.length = len ∧ len ≤ cap ∧ (len = 0 ∨ ∃ b off, a = some ⟨b, off, none⟩ ∧ Deeds w b off ds)

theorem DLst.below {w w' : World} {v : Value} {ds : List Dd} (h : DLst w v ds) (hb : Below w.heap.size w w') : DLst w' v ds := by
  obtain ⟨a, len, cap, rfl, h1, h2, h3⟩ := h
  refine ⟨a, len, cap, rfl, h1, h2, ?_⟩
  rcases h3 with h3 | ⟨b, off, rfl, hr⟩
  · exact .inl h3
  · exact .inr ⟨b, off, rfl, hr.below hb⟩

/-- What a list that was done with the first i deeds keeps: it is short, and its bits fit. -/
structure Small (l : List Ch) : Prop where
  len : l.length ≤ 200
  fits : FitsL l

theorem fits_new (d : Dd) (n : Int) : FitsL (newL d n) := by
  intro x hx
  obtain ⟨j, b, rfl, _⟩ := newFrom_mem hx
  show -9223372036854775808 ≤ (0 : Int) ∧ (0 : Int) ≤ 9223372036854775807
  omega

theorem fits_do {l : List Ch} {d : Dd} {number : Int} (h : FitsL l) (hc : checkC d = 0) : FitsL (doL l d number) := by
  obtain ⟨_, hw, _⟩ := check_parts hc
  by_cases hk : d.kind = 1
  · rw [doL, if_pos hk]
    intro x hx
    rcases List.mem_append.1 hx with hx | hx
    · exact h x (List.mem_of_mem_take hx)
    · rcases List.mem_append.1 hx with hx | hx
      · exact fits_new d number x hx
      · exact h x (List.mem_of_mem_drop hx)
  · rw [doL, if_neg hk]
    intro y hy
    obtain ⟨x, hx, hyx⟩ := takeL_mem hy
    rcases hyx with rfl | ⟨hs, rfl⟩
    · exact h _ hx
    · have h1 := h x hx
      have h2 := add_fits hw (sees_took hs) h1.2
      have h3 : (0 : Int) < 2 ^ d.by_.toNat := Int.pow_pos (by decide)
      show -9223372036854775808 ≤ x.gone + 2 ^ d.by_.toNat ∧ x.gone + 2 ^ d.by_.toNat ≤ 9223372036854775807
      omega

theorem small_do {l : List Ch} {d : Dd} {number : Int} (h : FitsL l) (hc : doC l d number = 0) : Small (doL l d number) := by
  obtain ⟨h1, h2, h3, _⟩ := doC_zero hc
  refine ⟨?_, fits_do h h1⟩
  rw [doL_len (fun hk => (check_parts h1).2.2.2.2.2.2.2.2.2.2.2 hk)]
  exact h3

theorem fits_nil : FitsL [] := fun x hx => by simp at hx

/-- What has been done so far, and what is left. -/
def Sofar (l : List Ch) (i : Nat) (ds all : List Dd) : Prop := Small l ∧ allL [] 0 all = allL l i ds

theorem sofar_step {l : List Ch} {i : Nat} {d : Dd} {r all : List Dd} (h : Sofar l i (d :: r) all) (hc : doC l d (i + 1) = 0) : Sofar (doL l d (i + 1)) (i + 1) r all :=
  ⟨small_do h.1.fits hc, by rw [h.2, allL, if_neg (fun e => e hc)]⟩

theorem sofar_bad {l : List Ch} {i : Nat} {d : Dd} {r all : List Dd} (h : Sofar l i (d :: r) all) (hc : doC l d (i + 1) ≠ 0) : allL [] 0 all = ([], doC l d (i + 1), i) := by rw [h.2, allL, if_pos hc]

theorem sofar_end {l : List Ch} {i : Nat} {all : List Dd} (h : Sofar l i [] all) : allL [] 0 all = (l, 0, 0) := by rw [h.2, allL]

theorem sofar_start (all : List Dd) : Sofar [] 0 all all := ⟨⟨Nat.zero_le _, fits_nil⟩, rfl⟩

abbrev ftV (c at_ : Int) : Value := .agg #[.int .i64 c, .int .i64 at_]

theorem ret_all {v : Value} {c c' a a' : Int} (h : c = c') (h2 : a = a') : Ending.returned (.tuple #[v, ftV c a]) = .returned (.tuple #[v, ftV c' a']) := by rw [h, h2]

/-- A fault in memory. -/
structure TwoC (w : World) (B : Nat) (c a : Int) : Prop where
  c0 : w.cell? ⟨B, 0, none⟩ = some (.int .i64 c)
  c1 : w.cell? ⟨B, 1, none⟩ = some (.int .i64 a)
  f0 : w.frozen? ⟨B, 0, none⟩ = false
  f1 : w.frozen? ⟨B, 1, none⟩ = false

theorem twoC_start (w : World) (c a : Int) : TwoC (w.alloc (.cells #[.int .i64 c, .int .i64 a] 46)) w.heap.size c a := by
  refine ⟨?_, ?_, ?_, ?_⟩ <;> simp [go_sem]

theorem TwoC.below {w w' : World} {B : Nat} {c a : Int} (h : TwoC w B c a) (hB : B < w.heap.size) (hb : Below w.heap.size w w') : TwoC w' B c a := by
  obtain ⟨hc, hf⟩ := bcell hb
  exact ⟨by rw [hc _ _ hB]; exact h.c0, by rw [hc _ _ hB]; exact h.c1, by rw [hf _ _ hB]; exact h.f0, by rw [hf _ _ hB]; exact h.f1⟩

theorem TwoC.put {w : World} {B : Nat} {c a : Int} (h : TwoC w B c a) (c' a' : Int) : TwoC ((w.setCell ⟨B, 0, none⟩ (.int .i64 c')).setCell ⟨B, 1, none⟩ (.int .i64 a')) B c' a' := by
  obtain ⟨c0, c1, f0, f1⟩ := h
  refine ⟨?_, ?_, ?_, ?_⟩
  · simp [go_sem, c0]
  · simp [go_sem, c1]
  · simpa [go_sem] using f0
  · simpa [go_sem] using f1

theorem load_two {w : World} {B : Nat} {c a : Int} (h : TwoC w B c a) : (loadVar 46 ⟨B, 0, none⟩).run Tryz.prog w = .ok (ftV c a) w := by
  obtain ⟨c0, c1, _, _⟩ := h
  simp [go_sem, loadVar, loadCells, loadCellsFrom, Sem.run_bind, Tryz.isAgg46, Tryz.sizeOf46, c0, c1]

theorem results_tmp_cell {fn : Func} {p u : Tmp} {ty : TypeId} (h : fn.results = #[.tmp u, .cell p ty]) (tmps : Array Value) (P : Program) (w : World) :
    (results fn tmps).run P w = ((asAddr (tmps.getD p undef)).run P w).andThen fun a w₁ => ((loadVar ty a).run P w₁).andThen fun v w₂ => .ok (.tuple #[tmps.getD u undef, v]) w₂ := by
  simp only [results, h]
  simp [Sem.run_bind, Result.andThen]

theorem all_end {R : Ending → World → Prop} {a : Act} {w : World} {B : Nat} {c f : Int} {v : Value} (h : TwoC w B c f) (h2 : a.tmps.getD 2 undef = v) (h3 : a.tmps.getD 3 undef = .pointer (some ⟨B, 0, none⟩)) (hd : a.defers = [])
    (hR : R (.returned (.tuple #[v, ftV c f])) w) : bodyPost Tryz.prog Tryz.f12 R Exit.ret a w := by
  refine bodyPost_ret ?_ hd hR
  rw [results_tmp_cell rfl, h2, h3]
  simp [asAddr, load_two h]

set_option maxRecDepth 20000 in
set_option maxHeartbeats 400000 in
theorem all_empty (a : Option Addr) (cap : Nat) (w : World) :
    Calls Tryz.prog 12 #[.slice a 0 cap] w fun e w' => e = .returned (.tuple #[.slice none 0 0, ftV 0 0]) ∧ Below w.heap.size w w' := by
  go_enter Tryz.func12, Tryz.ntmps12
  go_wp2
  refine wp_loop_rounds 1 ?_
  rw [rounds_succ]
  go_wp2
  exact all_end (twoC_start w 0 0) rfl rfl rfl ⟨rfl, (Below.refl _ _).alloc (Nat.le_refl _) _⟩

theorem below_put2 {N B : Nat} {w w' : World} (h : Below N w w') (hB : N ≤ B) (c a : Int) : Below N w ((w'.setCell ⟨B, 0, none⟩ (.int .i64 c)).setCell ⟨B, 1, none⟩ (.int .i64 a)) :=
  (h.setCell (p := ⟨B, 0, none⟩) hB _).setCell (p := ⟨B, 1, none⟩) hB _

/-- In the middle of All. -/
structure AInv (w : World) (wr : World) : Prop where
  below : Below (w.alloc (.cells #[.int .i64 0, .int .i64 0] 46)).heap.size (w.alloc (.cells #[.int .i64 0, .int .i64 0] 46)) wr

theorem AInv.two {w wr : World} (h : AInv w wr) : TwoC wr w.heap.size 0 0 := (twoC_start w 0 0).below (by simp) h.below
theorem AInv.old {w wr : World} (h : AInv w wr) : Below w.heap.size w wr := below_after ((Below.refl _ _).alloc (Nat.le_refl _) _) h.below
theorem AInv.after {w wr w' : World} (h : AInv w wr) (hb : Below wr.heap.size wr w') : AInv w w' := ⟨below_after h.below hb⟩

set_option maxRecDepth 20000 in
set_option maxHeartbeats 800000 in
theorem all_some (b off len cap : Nat) (ds : List Dd) (w : World) (hl : ds.length = len) (hm : len ≤ 1000) (hr : Deeds w b off ds) :
    Calls Tryz.prog 12 #[.slice (some ⟨b, off, none⟩) len cap] w fun e w' =>
      ∃ v', e = .returned (.tuple #[v', ftV (allL [] 0 ds).2.1 (allL [] 0 ds).2.2]) ∧ Own w' w.heap.size v' (allL [] 0 ds).1 ∧ Below w.heap.size w w' := by
  have HR : Hid (Deeds w b off ds) := hr
  have HL : Hid (ds.length = len) := hl
  have hb := hr.lt
  clear hr hl
  go_enter Tryz.func12, Tryz.ntmps12
  go_wp2
  go_loopw [4, 11] (fun v i wr => ∃ (k : Nat) (l : List Ch), k ≤ len ∧ i = .int .i64 k ∧ Hid (Sofar l k (ds.drop k) ds) ∧ Hid (Own wr (w.heap.size + 1) v l) ∧ Hid (AInv w wr)) (fun _ i _ => len - (intOf i).toNat)
  case atStart => exact ⟨0, [], Nat.zero_le _, rfl, sofar_start ds, own_nil _ _, ⟨Below.refl _ _⟩⟩
  case round =>
    obtain ⟨k, l, hk, rfl, HS, HV, HA⟩ := hrel
    by_cases hlt : k < len
    · have hkl : k < ds.length := by rw [HL.out]; exact hlt
      obtain ⟨_, g0, g1, g2, g3, g4, g5, g6⟩ := (HR.out.below HA.out.old).at_ k hkl
      have HX : Hid (ds.drop k = ds[k] :: ds.drop (k + 1)) := List.drop_eq_getElem_cons hkl
      generalize ds[k] = d at g0 g1 g2 g3 g4 g5 g6 HX
      rw [HX.out] at HS
      have HBa : Hid (∀ o, Below wr.heap.size wr (wr.alloc o)) := fun o => (Below.refl _ _).alloc (Nat.le_refl _) _
      obtain ⟨kind, by_, no, seen, at_, many, text⟩ := d
      simp only at g0 g1 g2 g3 g4 g5 g6
      go_wp2_with fail
      clear g0 g1 g2 g3 g4 g5 g6
      refine (do_any l ⟨kind, by_, no, seen, at_, many, text⟩ ((k : Int) + 1) _ _ (HV.out.below (HBa.out _)).lst (by have := HS.out.1.len; omega) HS.out.1.fits).mono ?_
      rintro e w1 ⟨v1, rfl, hL, hb1⟩
      have HV1 : Hid (Own w1 (w.heap.size + 1) v1 _) := hL.mono (by have := HA.out.below.size; simp at this ⊢; omega)
      have HA1 : Hid (AInv w w1) := HA.out.after (below_after (HBa.out _) hb1)
      clear hL hb1 HBa HA HV
      by_cases hc : doC l ⟨kind, by_, no, seen, at_, many, text⟩ ((k : Int) + 1) = 0
      · have HN : Hid (Sofar _ _ _ _) := sofar_step HS.out hc
        have HD : Hid (doR l ⟨kind, by_, no, seen, at_, many, text⟩ ((k : Int) + 1) = doL l ⟨kind, by_, no, seen, at_, many, text⟩ ((k : Int) + 1)) := by show doR _ _ _ = _; rw [doR, if_pos hc]
        rw [hc]
        go_wp2
        go_roundw
        case rel => exact ⟨k + 1, _, by omega, by go_num, HN, by rw [← HD.out]; exact HV1, HA1⟩
        case measure => simp [intOf]; omega
      · have HN : Hid (_ = _) := sofar_bad HS.out hc
        have hne : (doC l ⟨kind, by_, no, seen, at_, many, text⟩ ((k : Int) + 1) != 0) = true := by simp [hc]
        obtain ⟨c0, c1, f0, f1⟩ := HA1.out.two
        clear hc
        generalize doC l ⟨kind, by_, no, seen, at_, many, text⟩ ((k : Int) + 1) = c at *
        go_wp2
        refine all_end (v := .slice none 0 0) (HA1.out.two.put c k) rfl rfl rfl ?_
        rw [HN.out]
        exact ⟨_, rfl, own_nil _ _, below_put2 HA1.out.old (Nat.le_refl _) _ _⟩
    · obtain rfl : k = len := by omega
      have HE : Hid (ds.drop k = []) := List.drop_eq_nil_of_le (by rw [HL.out]; exact Nat.le_refl _)
      rw [HE.out] at HS
      have HN : Hid (_ = _) := sofar_end HS.out
      obtain ⟨c0, c1, f0, f1⟩ := HA.out.two
      go_wp2
      refine all_end (v := _) (HA.out.two.put 0 0) rfl rfl rfl ?_
      rw [HN.out]
      have HB2 : Hid _ := below_put2 HA.out.old (Nat.le_refl _) 0 0
      refine ⟨_, rfl, ?_, HB2.out⟩
      exact Own.mono (ownsRow_setCell_below (ownsRow_setCell_below HV.out (a := ⟨w.heap.size, 0, none⟩) (Nat.lt_succ_self _) _) (a := ⟨w.heap.size, 1, none⟩) (Nat.lt_succ_self _) _) (by omega)

theorem all_lst {w : World} {v : Value} {ds : List Dd} (h : DLst w v ds) (hm : ds.length ≤ 1000) :
    Calls Tryz.prog 12 #[v] w fun e w' =>
      ∃ v', e = .returned (.tuple #[v', ftV (allL [] 0 ds).2.1 (allL [] 0 ds).2.2]) ∧ Own w' w.heap.size v' (allL [] 0 ds).1 ∧ Below w.heap.size w w' := by
  obtain ⟨a, len, cap, rfl, h1, h2, h3⟩ := h
  rcases h3 with rfl | ⟨b, off, rfl, hr⟩
  · obtain rfl : ds = [] := List.length_eq_zero_iff.1 h1
    refine (all_empty a cap w).mono ?_
    rintro e w' ⟨rfl, hb⟩
    exact ⟨_, rfl, own_nil _ _, hb⟩
  · exact all_some b off len cap ds w h1 (by omega) hr

end Go.Proofs.YtfpemdbiplfkgacGreat

/-
  Plain mathematics of the law FoldLists: deeds in their order, each writer's numbered from 1 on, make a list that may be. No walk.
-/
namespace Go.Proofs.YtfpemdbiplfkgacGreat
open Go.RowKit

def upd (last : Int → Int) (d : Dd) : Int → Int := fun w => if w = d.by_ then d.no else last w
def lastAt (l : List Dd) : Int → Int := l.foldl upd (fun _ => 0)
def nAt (l : List Dd) : Nat := l.foldl (fun n d => n + d.text.size) 0

theorem lastAt_snoc (l : List Dd) (d : Dd) : lastAt (l ++ [d]) = upd (lastAt l) d := by simp [lastAt]
theorem nAt_snoc (l : List Dd) (d : Dd) : nAt (l ++ [d]) = nAt l + d.text.size := by simp [nAt]

/-- The i-th deed stands where it may. -/
def okAt (ds : List Dd) (i : Nat) : Prop := ∀ d, ds[i]? = some d → wrB d.by_ = true ∧ d.no = lastAt (ds.take i) d.by_ + 1 ∧ d.seen ≤ i

theorem take_snocD (l : List Dd) (k : Nat) (h : k < l.length) : l.take (k + 1) = l.take k ++ [l[k]] := List.take_succ_eq_append_getElem h

theorem last_bound {ds : List Dd} : ∀ (k : Nat), k ≤ ds.length → (∀ i, i < k → okAt ds i) → ∀ w, 0 ≤ lastAt (ds.take k) w ∧ lastAt (ds.take k) w ≤ k
  | 0, _, _, w => by simp [lastAt]
  | k + 1, hk, h, w => by
    have ih := last_bound k (by omega) (fun i hi => h i (by omega))
    obtain ⟨_, h2, _⟩ := h k (by omega) ds[k] (List.getElem?_eq_getElem (by omega))
    rw [take_snocD ds k (by omega), lastAt_snoc, upd]
    have i1 := ih w
    have i2 := ih ds[k].by_
    split <;> omega

theorem made_all : ∀ (suf pre : List Dd) (l : List Ch), (∀ i, i < (pre ++ suf).length → okAt (pre ++ suf) i) → (pre ++ suf).length ≤ 1000 → Made (lastAt pre) pre.length l → l.length = nAt pre → l.length ≤ 200 → (allL l pre.length suf).2.1 = 0 →
    Made (lastAt (pre ++ suf)) (pre ++ suf).length (allL l pre.length suf).1 ∧ (allL l pre.length suf).1.length = nAt (pre ++ suf) ∧ (allL l pre.length suf).1.length ≤ 200
  | [], pre, l, _, _, hm, hn, hl, _ => by
    rw [List.append_nil]
    exact ⟨hm, hn, hl⟩
  | d :: r, pre, l, hok, hlen, hm, hn, hl, hz => by
    have e : pre ++ d :: r = (pre ++ [d]) ++ r := by simp
    have hpl : (pre ++ [d]).length = pre.length + 1 := by simp
    rw [allL] at hz ⊢
    by_cases hc : doC l d ((pre.length : Int) + 1) = 0
    · rw [if_neg (fun h => h hc)] at hz ⊢
      obtain ⟨h1, h2, h3, h4⟩ := doC_zero hc
      obtain ⟨_, hno, _⟩ := hok pre.length (by simp) d (by simp)
      rw [List.take_left] at hno
      have hsm := doL_len (l := l) (d := d) (number := (pre.length : Int) + 1) (fun hk => (check_parts h1).2.2.2.2.2.2.2.2.2.2.2 hk)
      have hm' : Made (lastAt (pre ++ [d])) (pre.length + 1) (doL l d ((pre.length : Int) + 1)) := by
        rw [lastAt_snoc]
        by_cases hk : d.kind = 1
        · exact made_put hm h1 hk hno
        · exact made_take hm h1 hk hno (by simp at hlen; omega)
      have ih := made_all r (pre ++ [d]) (doL l d ((pre.length : Int) + 1)) (by rw [← e]; exact hok) (by rw [← e]; exact hlen) (by rw [hpl]; exact hm') (by rw [nAt_snoc, hsm, hn]) (by rw [hsm]; exact h3) (by rw [hpl]; exact hz)
      rw [hpl] at ih
      rw [e]
      exact ih
    · rw [if_pos hc] at hz
      exact absurd hz hc

theorem made_nil : Made (fun _ => 0) 0 [] := by
  refine ⟨?_, ?_, ?_, ?_, ?_, ?_, List.Pairwise.nil⟩ <;> intro x hx <;> simp at hx

/-- WHAT DEEDS MAKE IS A LIST. -/
theorem lists_made {ds : List Dd} (hok : ∀ i, i < ds.length → okAt ds i) (hl : ds.length ≤ 1000) (hz : (allL [] 0 ds).2.1 = 0) {r : Int} (hr : CheckIs (allL [] 0 ds).1 ds.length r) : r = 0 ∧ (allL [] 0 ds).1.length = nAt ds := by
  obtain ⟨h1, h2, h3⟩ := made_all ds [] [] hok hl made_nil rfl (Nat.zero_le _) hz
  exact ⟨made_check h1 h3 hr, h2⟩

theorem lists_fault : ∀ {ds : List Dd} {l : List Ch} {i : Nat}, (allL l i ds).2.1 ≠ 0 → (allL l i ds).1 = []
  | [], l, i, h => by simp [allL] at h
  | d :: r, l, i, h => by
    rw [allL] at h ⊢
    by_cases hc : doC l d ((i : Int) + 1) = 0
    · rw [if_neg (fun e => e hc)] at h ⊢
      exact lists_fault h
    · rw [if_pos hc]

theorem small_all : ∀ {ds : List Dd} {l : List Ch} {i : Nat}, Small l → (allL l i ds).1.length ≤ 200
  | [], l, i, h => h.len
  | d :: r, l, i, h => by
    rw [allL]
    by_cases hc : doC l d ((i : Int) + 1) = 0
    · rw [if_neg (fun e => e hc)]
      exact small_all (small_do h.fits hc)
    · rw [if_pos hc]
      exact Nat.zero_le _

theorem nAt_le : ∀ (l : List Dd) (n : Nat), (∀ d ∈ l, d.text.size ≤ 100) → l.foldl (fun n d => n + d.text.size) n ≤ n + l.length * 100
  | [], n, _ => by simp
  | d :: r, n, h => by
    rw [List.foldl_cons, List.length_cons]
    have h1 := nAt_le r (n + d.text.size) (fun x hx => h x (by simp [hx]))
    have h2 := h d (by simp)
    omega

end Go.Proofs.YtfpemdbiplfkgacGreat

/-
  Plain mathematics of a log: who is there, what each has said, the deeds, and what never happens. No walk.
-/
namespace Go.Proofs.YtfpemdbiplfkgacGreat
open Go.RowKit

def setF {α : Type} (f : Int → α) (w : Int) (x : α) : Int → α := fun v => if v = w then x else f v

theorem setF_same {α : Type} (f : Int → α) (w : Int) (x : α) : setF f w x w = x := if_pos rfl
theorem setF_other {α : Type} (f : Int → α) {w v : Int} (x : α) (h : v ≠ w) : setF f w x v = f v := if_neg h

/-- A log. -/
structure Bk where
  ds : List Dd
  here : Int → Bool
  last : Int → Int
  said : Int → Int

def Bk.empty : Bk := ⟨[], fun _ => false, fun _ => 0, fun _ => 0⟩
def Bk.len (b : Bk) : Int := b.ds.length
def Bk.isHere (b : Bk) (w : Int) : Bool := wrB w && b.here w
def Bk.chars (b : Bk) : List Ch := (allL [] 0 b.ds).1

def joinC (b : Bk) (w : Int) : Int := if wrB w = false then 1 else if b.here w = true then 6 else 0
def joinB (b : Bk) (w : Int) : Bk := if joinC b w = 0 then ⟨b.ds, setF b.here w true, b.last, setF b.said w b.len⟩ else b
def joinN (b : Bk) (w : Int) : Int := if joinC b w = 0 then b.last w + 1 else 0

def leaveC (b : Bk) (w : Int) : Int := if b.isHere w = true then 0 else 5
def leaveB (b : Bk) (w : Int) : Bk := if leaveC b w = 0 then ⟨b.ds, setF b.here w false, b.last, b.said⟩ else b

def comesC (b : Bk) (d : Dd) : Int :=
  if b.isHere d.by_ = false then 5 else if d.no ≠ b.last d.by_ + 1 then 7 else if d.seen < b.said d.by_ ∨ b.len < d.seen then 8 else if 120 ≤ b.len then 9 else doC b.chars d (b.len + 1)
def comesB (b : Bk) (d : Dd) : Bk := if comesC b d = 0 then ⟨b.ds ++ [d], b.here, setF b.last d.by_ d.no, setF b.said d.by_ d.seen⟩ else b
def comesN (b : Bk) (d : Dd) : Int := if comesC b d = 0 then b.len + 1 else 0

def saysC (b : Bk) (w seen : Int) : Int := if b.isHere w = false then 5 else if seen < b.said w ∨ b.len < seen then 8 else 0
def saysB (b : Bk) (w seen : Int) : Bk := if saysC b w seen = 0 then ⟨b.ds, b.here, b.last, setF b.said w seen⟩ else b

def leastStep (b : Bk) (n w : Int) : Int := if b.here w = true ∧ b.said w < n then b.said w else n
def leastL (b : Bk) : Int := leastStep b (leastStep b (leastStep b (leastStep b b.len 0) 1) 2) 3

/-- What each writer's last deed had seen. -/
def updS (f : Int → Int) (d : Dd) : Int → Int := setF f d.by_ d.seen
def seenAt (l : List Dd) : Int → Int := l.foldl updS (fun _ => 0)

theorem seenAt_snoc (l : List Dd) (d : Dd) : seenAt (l ++ [d]) = updS (seenAt l) d := by simp [seenAt]

structure Good (b : Bk) : Prop where
  all0 : (allL [] 0 b.ds).2.1 = 0
  small : b.ds.length ≤ 120
  ok : ∀ i, i < b.ds.length → okAt b.ds i
  mono : ∀ i d, b.ds[i]? = some d → seenAt (b.ds.take i) d.by_ ≤ d.seen
  last : ∀ w, b.last w = lastAt b.ds w
  saw : ∀ w, seenAt b.ds w ≤ b.said w
  said : ∀ w, 0 ≤ b.said w ∧ b.said w ≤ b.len

theorem good_empty : Good Bk.empty := by
  refine ⟨rfl, Nat.zero_le _, fun i hi => absurd hi (Nat.not_lt_zero _), fun i d h => ?_, fun w => rfl, fun w => Int.le_refl _, fun w => ⟨Int.le_refl _, Int.le_refl _⟩⟩
  simp [Bk.empty] at h

theorem allL_snoc {d : Dd} : ∀ (ds : List Dd) (l : List Ch) (i : Nat), (allL l i ds).2.1 = 0 → doC (allL l i ds).1 d (((i + ds.length : Nat) : Int) + 1) = 0 →
    allL l i (ds ++ [d]) = (doL (allL l i ds).1 d (((i + ds.length : Nat) : Int) + 1), 0, 0)
  | [], l, i, _, hc => by
    simp only [List.nil_append, List.length_nil, Nat.add_zero, allL] at hc ⊢
    rw [if_neg (fun h => h hc)]
  | e :: r, l, i, h, hc => by
    rw [List.cons_append, allL]
    rw [allL] at h hc
    by_cases he : doC l e ((i : Int) + 1) = 0
    · rw [if_neg (fun x => x he)] at h hc ⊢
      have hl : i + (e :: r).length = i + 1 + r.length := by simp; omega
      rw [hl] at hc ⊢
      rw [allL_snoc r _ (i + 1) h hc, allL, if_neg (fun x => x he)]
    · rw [if_pos he] at h
      exact absurd h he

theorem isHere_writer {b : Bk} {w : Int} (h : b.isHere w = true) : wrB w = true ∧ b.here w = true := by
  simpa [Bk.isHere] using h

theorem comes_parts {b : Bk} {d : Dd} (h : comesC b d = 0) : b.isHere d.by_ = true ∧ d.no = b.last d.by_ + 1 ∧ b.said d.by_ ≤ d.seen ∧ d.seen ≤ b.len ∧ b.len < 120 ∧ doC b.chars d (b.len + 1) = 0 := by
  unfold comesC at h
  cases hh : b.isHere d.by_
  · rw [if_pos hh] at h; cases h
  · rw [if_neg (by simp [hh])] at h
    by_cases h1 : d.no = b.last d.by_ + 1
    · rw [if_neg (fun e => e h1)] at h
      by_cases h2 : d.seen < b.said d.by_ ∨ b.len < d.seen
      · rw [if_pos h2] at h; cases h
      · rw [if_neg h2] at h
        by_cases h3 : 120 ≤ b.len
        · rw [if_pos h3] at h; cases h
        · rw [if_neg h3] at h
          exact ⟨rfl, h1, by omega, by omega, by omega, h⟩
    · rw [if_pos h1] at h; cases h

theorem good_join {b : Bk} (w : Int) (h : Good b) : Good (joinB b w) := by
  unfold joinB
  split
  · refine ⟨h.all0, h.small, h.ok, h.mono, h.last, fun v => ?_, fun v => ?_⟩
    · have h1 := h.saw v
      have h2 := h.said v
      show seenAt b.ds v ≤ setF b.said w b.len v
      by_cases e : v = w
      · rw [e, setF_same]; rw [e] at h1 h2; omega
      · rw [setF_other _ _ e]; exact h1
    · have h2 := h.said v
      show 0 ≤ setF b.said w b.len v ∧ setF b.said w b.len v ≤ b.len
      by_cases e : v = w
      · rw [e, setF_same]; rw [e] at h2; omega
      · rw [setF_other _ _ e]; exact h2
  · exact h

theorem good_leave {b : Bk} (w : Int) (h : Good b) : Good (leaveB b w) := by
  unfold leaveB
  split
  · exact ⟨h.all0, h.small, h.ok, h.mono, h.last, h.saw, h.said⟩
  · exact h

theorem good_says {b : Bk} (w seen : Int) (h : Good b) : Good (saysB b w seen) := by
  unfold saysB
  split
  · rename_i hc
    have hs : b.said w ≤ seen ∧ seen ≤ b.len := by
      unfold saysC at hc
      split at hc
      · cases hc
      · split at hc
        · cases hc
        · omega
    refine ⟨h.all0, h.small, h.ok, h.mono, h.last, fun v => ?_, fun v => ?_⟩
    · have h1 := h.saw v
      show seenAt b.ds v ≤ setF b.said w seen v
      by_cases e : v = w
      · rw [e, setF_same]; rw [e] at h1; omega
      · rw [setF_other _ _ e]; exact h1
    · have h2 := h.said v
      show 0 ≤ setF b.said w seen v ∧ setF b.said w seen v ≤ b.len
      by_cases e : v = w
      · rw [e, setF_same]; rw [e] at h2; omega
      · rw [setF_other _ _ e]; exact h2
  · exact h

theorem chars_comes {b : Bk} {d : Dd} (h : Good b) (hc : comesC b d = 0) : allL [] 0 (b.ds ++ [d]) = (doL b.chars d (b.len + 1), 0, 0) := by
  obtain ⟨_, _, _, _, _, h6⟩ := comes_parts hc
  have := allL_snoc (d := d) b.ds [] 0 h.all0 (by rw [Nat.zero_add]; exact h6)
  rw [Nat.zero_add] at this
  exact this

theorem good_comes {b : Bk} (d : Dd) (h : Good b) : Good (comesB b d) := by
  unfold comesB
  split
  · rename_i hc
    obtain ⟨h1, h2, h3, h4, h5, h6⟩ := comes_parts hc
    have hs0 := h.said d.by_
    have hlen : b.len = (b.ds.length : Int) := rfl
    refine ⟨?_, ?_, ?_, ?_, ?_, ?_, ?_⟩
    · show (allL [] 0 (b.ds ++ [d])).2.1 = 0
      rw [chars_comes h hc]
    · show (b.ds ++ [d]).length ≤ 120
      rw [List.length_append]
      show b.ds.length + 1 ≤ 120
      omega
    · intro i hi e he
      have hi' : i < b.ds.length + 1 := by simpa using hi
      by_cases hil : i < b.ds.length
      · have he' : b.ds[i]? = some e := by
          rw [← he]
          exact (List.getElem?_append_left hil).symm
        have := h.ok i hil e he'
        show wrB e.by_ = true ∧ e.no = lastAt ((b.ds ++ [d]).take i) e.by_ + 1 ∧ e.seen ≤ i
        rw [List.take_append_of_le_length (by omega)]
        exact this
      · obtain rfl : i = b.ds.length := by omega
        have he' : e = d := by
          have : (b.ds ++ [d])[b.ds.length]? = some e := he
          simpa using this.symm
        subst he'
        show wrB e.by_ = true ∧ e.no = lastAt ((b.ds ++ [e]).take b.ds.length) e.by_ + 1 ∧ e.seen ≤ (b.ds.length : Int)
        rw [List.take_left, ← h.last]
        exact ⟨(isHere_writer h1).1, h2, h4⟩
    · intro i e he
      have he0 : (b.ds ++ [d])[i]? = some e := he
      have hi : i < b.ds.length + 1 := by
        have := (List.getElem?_eq_some_iff.1 he0).1
        simpa using this
      show seenAt ((b.ds ++ [d]).take i) e.by_ ≤ e.seen
      by_cases hil : i < b.ds.length
      · rw [List.take_append_of_le_length (by omega)]
        exact h.mono i e (by rw [← he0]; exact (List.getElem?_append_left hil).symm)
      · obtain rfl : i = b.ds.length := by omega
        have he' : e = d := by simpa using he0.symm
        subst he'
        rw [List.take_left]
        have := h.saw e.by_
        omega
    · intro w
      show setF b.last d.by_ d.no w = lastAt (b.ds ++ [d]) w
      rw [lastAt_snoc]
      show (if w = d.by_ then d.no else b.last w) = if w = d.by_ then d.no else lastAt b.ds w
      rw [h.last w]
    · intro w
      show seenAt (b.ds ++ [d]) w ≤ setF b.said d.by_ d.seen w
      rw [seenAt_snoc, updS]
      by_cases e : w = d.by_
      · rw [e, setF_same, setF_same]; exact Int.le_refl _
      · rw [setF_other _ _ e, setF_other _ _ e]; exact h.saw w
    · intro w
      have hw := h.said w
      show 0 ≤ setF b.said d.by_ d.seen w ∧ setF b.said d.by_ d.seen w ≤ ((b.ds ++ [d]).length : Int)
      rw [List.length_append]
      show 0 ≤ setF b.said d.by_ d.seen w ∧ setF b.said d.by_ d.seen w ≤ ((b.ds.length + 1 : Nat) : Int)
      by_cases e : w = d.by_
      · rw [e, setF_same]; omega
      · rw [setF_other _ _ e]; omega
  · exact h

/-! What the least is. -/

theorem leastStep_le (b : Bk) (n w : Int) : leastStep b n w ≤ n := by unfold leastStep; split <;> omega
theorem leastStep_said {b : Bk} {n w : Int} (h : b.here w = true) : leastStep b n w ≤ b.said w := by
  unfold leastStep
  split
  · exact Int.le_refl _
  · rename_i hc
    by_cases h2 : b.said w < n
    · exact absurd ⟨h, h2⟩ hc
    · omega
theorem leastStep_ge {b : Bk} {n w m : Int} (h : m ≤ n) (hw : b.here w = true → m ≤ b.said w) : m ≤ leastStep b n w := by
  unfold leastStep
  split
  · rename_i hc; exact hw hc.1
  · exact h

theorem least_len (b : Bk) : leastL b ≤ b.len := by
  unfold leastL
  have h0 := leastStep_le b b.len 0
  have h1 := leastStep_le b (leastStep b b.len 0) 1
  have h2 := leastStep_le b (leastStep b (leastStep b b.len 0) 1) 2
  have h3 := leastStep_le b (leastStep b (leastStep b (leastStep b b.len 0) 1) 2) 3
  omega

theorem least_said {b : Bk} {w : Int} (hw : wrB w = true) (h : b.here w = true) : leastL b ≤ b.said w := by
  have hw' : 0 ≤ w ∧ w ≤ 3 := by simpa [wrB] using hw
  have h1 := leastStep_le b (leastStep b b.len 0) 1
  have h2 := leastStep_le b (leastStep b (leastStep b b.len 0) 1) 2
  have h3 := leastStep_le b (leastStep b (leastStep b (leastStep b b.len 0) 1) 2) 3
  unfold leastL
  rcases (show w = 0 ∨ w = 1 ∨ w = 2 ∨ w = 3 by omega) with rfl | rfl | rfl | rfl
  · have := leastStep_said (n := b.len) h; omega
  · have := leastStep_said (n := leastStep b b.len 0) h; omega
  · have := leastStep_said (n := leastStep b (leastStep b b.len 0) 1) h; omega
  · exact leastStep_said h

theorem least_ge {b : Bk} {m : Int} (h : m ≤ b.len) (hw : ∀ w, wrB w = true → b.here w = true → m ≤ b.said w) : m ≤ leastL b := by
  unfold leastL
  exact leastStep_ge (leastStep_ge (leastStep_ge (leastStep_ge h (hw 0 (by decide))) (hw 1 (by decide))) (hw 2 (by decide))) (hw 3 (by decide))

theorem least_join {b : Bk} (w : Int) : leastL b ≤ leastL (joinB b w) := by
  unfold joinB
  split
  · refine least_ge (least_len b) (fun v hv hh => ?_)
    show leastL b ≤ setF b.said w b.len v
    by_cases e : v = w
    · rw [e, setF_same]; exact least_len b
    · rw [setF_other _ _ e]
      have hh' : setF b.here w true v = true := hh
      rw [setF_other _ _ e] at hh'
      exact least_said hv hh'
  · exact Int.le_refl _

theorem least_leave {b : Bk} (w : Int) : leastL b ≤ leastL (leaveB b w) := by
  unfold leaveB
  split
  · refine least_ge (least_len b) (fun v hv hh => ?_)
    show leastL b ≤ b.said v
    have hh' : setF b.here w false v = true := hh
    by_cases e : v = w
    · rw [e, setF_same] at hh'; cases hh'
    · rw [setF_other _ _ e] at hh'
      exact least_said hv hh'
  · exact Int.le_refl _

theorem least_says {b : Bk} (w seen : Int) : leastL b ≤ leastL (saysB b w seen) := by
  unfold saysB
  split
  · rename_i hc
    have hs : b.isHere w = true ∧ b.said w ≤ seen := by
      unfold saysC at hc
      cases hh : b.isHere w
      · rw [if_pos hh] at hc; cases hc
      · rw [if_neg (by simp [hh])] at hc
        split at hc
        · cases hc
        · exact ⟨rfl, by omega⟩
    refine least_ge (least_len b) (fun v hv hh => ?_)
    show leastL b ≤ setF b.said w seen v
    by_cases e : v = w
    · rw [e, setF_same]
      have := least_said (isHere_writer hs.1).1 (isHere_writer hs.1).2
      omega
    · rw [setF_other _ _ e]
      exact least_said hv hh
  · exact Int.le_refl _

/-- NOBODY SPEAKS OF WHAT IS BELOW. -/
theorem comes_least {b : Bk} {d : Dd} (hc : comesC b d = 0) : leastL b ≤ d.seen := by
  obtain ⟨h1, _, h3, _⟩ := comes_parts hc
  have := least_said (isHere_writer h1).1 (isHere_writer h1).2
  omega

theorem least_comes {b : Bk} (d : Dd) : leastL b ≤ leastL (comesB b d) := by
  unfold comesB
  split
  · rename_i hc
    have hl := comes_least hc
    refine least_ge ?_ (fun v hv hh => ?_)
    · have := least_len b
      show leastL b ≤ ((b.ds ++ [d]).length : Int)
      rw [List.length_append]
      have e : b.len = (b.ds.length : Int) := rfl
      show leastL b ≤ ((b.ds.length + 1 : Nat) : Int)
      omega
    · show leastL b ≤ setF b.said d.by_ d.seen v
      by_cases e : v = d.by_
      · rw [e, setF_same]; exact hl
      · rw [setF_other _ _ e]
        exact least_said hv hh
  · exact Int.le_refl _

/-! Steps. -/

structure LStep where
  do_ : Int
  w : Int
  n : Int
  d : Dd
  right : Bool

/-- The deed of a step, its No and Seen as they may be, if that is asked. -/
def rightD (b : Bk) (x : LStep) : Dd :=
  if (x.right && wrB x.d.by_) = true then ⟨x.d.kind, x.d.by_, b.last x.d.by_ + 1, b.said x.d.by_ + (IntKind.u64.wrap x.d.seen).tmod (b.len - b.said x.d.by_ + 1), x.d.at_, x.d.many, x.d.text⟩ else x.d

def stepB (b : Bk) (x : LStep) : Bk :=
  if x.do_ = 0 then joinB b x.w else if x.do_ = 1 then leaveB b x.w else if x.do_ = 2 then comesB b (rightD b x) else if x.do_ = 3 then saysB b x.w x.n else b

theorem good_step {b : Bk} (x : LStep) (h : Good b) : Good (stepB b x) := by
  unfold stepB
  split
  · exact good_join _ h
  · split
    · exact good_leave _ h
    · split
      · exact good_comes _ h
      · split
        · exact good_says _ _ h
        · exact h

theorem least_step (b : Bk) (x : LStep) : leastL b ≤ leastL (stepB b x) := by
  unfold stepB
  split
  · exact least_join _
  · split
    · exact least_leave _
    · split
      · exact least_comes _
      · split
        · exact least_says _ _
        · exact Int.le_refl _

def runB (l : List LStep) : Bk := l.foldl stepB Bk.empty

theorem runB_snoc (l : List LStep) (x : LStep) : runB (l ++ [x]) = stepB (runB l) x := by simp [runB]

theorem good_run (l : List LStep) : Good (runB l) := by
  unfold runB
  have : ∀ (l : List LStep) (b : Bk), Good b → Good (l.foldl stepB b) := by
    intro l
    induction l with
    | nil => exact fun b h => h
    | cons x r ih => exact fun b h => ih _ (good_step x h)
  exact this l _ good_empty

/-- A step that makes the log longer adds one deed, that has seen no less than the least. -/
theorem longer_step {b : Bk} {x : LStep} (h : b.ds.length < (stepB b x).ds.length) : ∃ d, (stepB b x).ds = b.ds ++ [d] ∧ leastL b ≤ d.seen := by
  unfold stepB at h ⊢
  split at h
  · rename_i h0
    rw [if_pos h0]
    exfalso
    unfold joinB at h
    split at h <;> simp at h
  · rename_i h0
    rw [if_neg h0]
    split at h
    · exfalso
      unfold leaveB at h
      split at h <;> simp at h
    · rename_i h1
      rw [if_neg h1]
      split at h
      · rename_i h2
        rw [if_pos h2]
        unfold comesB at h ⊢
        split at h
        · rename_i hc
          rw [if_pos hc]
          exact ⟨_, rfl, comes_least hc⟩
        · omega
      · rename_i h2
        rw [if_neg h2]
        split at h
        · exfalso
          unfold saysB at h
          split at h <;> simp at h
        · omega

/-! A text that is not refused changes the log; what is refused changes nothing. -/

theorem join_no {b : Bk} {w : Int} (h : joinC b w ≠ 0) : joinB b w = b := by rw [joinB, if_neg h]
theorem leave_no {b : Bk} {w : Int} (h : leaveC b w ≠ 0) : leaveB b w = b := by rw [leaveB, if_neg h]
theorem comes_no {b : Bk} {d : Dd} (h : comesC b d ≠ 0) : comesB b d = b := by rw [comesB, if_neg h]
theorem says_no {b : Bk} {w seen : Int} (h : saysC b w seen ≠ 0) : saysB b w seen = b := by rw [saysB, if_neg h]

theorem small_chars {b : Bk} : b.chars.length ≤ 200 := small_all (sofar_start b.ds).1

theorem lastAt_bound {b : Bk} (h : Good b) (w : Int) : 0 ≤ b.last w ∧ b.last w ≤ b.len := by
  rw [h.last w]
  have := last_bound b.ds.length (Nat.le_refl _) h.ok w
  rw [List.take_length] at this
  exact this

end Go.Proofs.YtfpemdbiplfkgacGreat
