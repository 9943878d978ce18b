/-
  The contract of fold.All: deeds one behind the other.
-/
import Derived.Test.YtdlmlhmdjfbdiacGreatFDo
import Derived.Test.YtdlmlhmdjfbdiacGreatFClone
namespace Go.Proofs.YtdlmlhmdjfbdiacGreat
open Go.RowKit

/-- Deeds that lie in memory from a place on. -/
structure Deeds (w : World) (b off : Nat) (ds : List Dd) : Prop where
  lt : b < w.heap.size
  at_ : ∀ i (h : i < ds.length), DdAt w b (off + i * 7) ds[i]

theorem Deeds.below {w w' : World} {b off : Nat} {ds : List Dd} (h : Deeds w b off ds) (hb : Below w.heap.size w w') : Deeds w' b off ds :=
  ⟨by have := hb.size; have := h.lt; omega, fun i hi => (h.at_ i hi).below hb⟩

/-- The value is a slice that holds just those deeds. -/
def DLst (w : World) (v : Value) (ds : List Dd) : Prop :=
  ∃ (a : Option Addr) (len cap : Nat), v = .slice a len cap ∧ ds.length = len ∧ len ≤ cap ∧ (len = 0 ∨ ∃ b off, a = some ⟨b, off, none⟩ ∧ Deeds w b off ds)

theorem DLst.below {w w' : World} {v : Value} {ds : List Dd} (h : DLst w v ds) (hb : Below w.heap.size w w') : DLst w' v ds := by
  obtain ⟨a, len, cap, rfl, h1, h2, h3⟩ := h
  refine ⟨a, len, cap, rfl, h1, h2, ?_⟩
  rcases h3 with h3 | ⟨b, off, rfl, hr⟩
  · exact .inl h3
  · exact .inr ⟨b, off, rfl, hr.below hb⟩

/-- What a list that was done with the first i deeds keeps: it is short, and its bits fit. -/
structure Small (l : List Ch) : Prop where
  len : l.length ≤ 200
  fits : FitsL l

theorem fits_new (d : Dd) (n : Int) : FitsL (newL d n) := by
  intro x hx
  obtain ⟨j, b, rfl, _⟩ := newFrom_mem hx
  show -9223372036854775808 ≤ (0 : Int) ∧ (0 : Int) ≤ 9223372036854775807
  omega

theorem fits_do {l : List Ch} {d : Dd} {number : Int} (h : FitsL l) (hc : checkC d = 0) : FitsL (doL l d number) := by
  obtain ⟨_, hw, _⟩ := check_parts hc
  by_cases hk : d.kind = 1
  · rw [doL, if_pos hk]
    intro x hx
    rcases List.mem_append.1 hx with hx | hx
    · exact h x (List.mem_of_mem_take hx)
    · rcases List.mem_append.1 hx with hx | hx
      · exact fits_new d number x hx
      · exact h x (List.mem_of_mem_drop hx)
  · rw [doL, if_neg hk]
    intro y hy
    obtain ⟨x, hx, hyx⟩ := takeL_mem hy
    rcases hyx with rfl | ⟨hs, rfl⟩
    · exact h _ hx
    · have h1 := h x hx
      have h2 := add_fits hw (sees_took hs) h1.2
      have h3 : (0 : Int) < 2 ^ d.by_.toNat := Int.pow_pos (by decide)
      show -9223372036854775808 ≤ x.gone + 2 ^ d.by_.toNat ∧ x.gone + 2 ^ d.by_.toNat ≤ 9223372036854775807
      omega

theorem small_do {l : List Ch} {d : Dd} {number : Int} (h : FitsL l) (hc : doC l d number = 0) : Small (doL l d number) := by
  obtain ⟨h1, h2, h3, _⟩ := doC_zero hc
  refine ⟨?_, fits_do h h1⟩
  rw [doL_len (fun hk => (check_parts h1).2.2.2.2.2.2.2.2.2.2.2 hk)]
  exact h3

theorem fits_nil : FitsL [] := fun x hx => by simp at hx

/-- What has been done so far, and what is left. -/
def Sofar (l : List Ch) (i : Nat) (ds all : List Dd) : Prop := Small l ∧ allL [] 0 all = allL l i ds

theorem sofar_step {l : List Ch} {i : Nat} {d : Dd} {r all : List Dd} (h : Sofar l i (d :: r) all) (hc : doC l d (i + 1) = 0) : Sofar (doL l d (i + 1)) (i + 1) r all :=
  ⟨small_do h.1.fits hc, by rw [h.2, allL, if_neg (fun e => e hc)]⟩

theorem sofar_bad {l : List Ch} {i : Nat} {d : Dd} {r all : List Dd} (h : Sofar l i (d :: r) all) (hc : doC l d (i + 1) ≠ 0) : allL [] 0 all = ([], doC l d (i + 1), i) := by rw [h.2, allL, if_pos hc]

theorem sofar_end {l : List Ch} {i : Nat} {all : List Dd} (h : Sofar l i [] all) : allL [] 0 all = (l, 0, 0) := by rw [h.2, allL]

theorem sofar_start (all : List Dd) : Sofar [] 0 all all := ⟨⟨Nat.zero_le _, fits_nil⟩, rfl⟩

abbrev ftV (c at_ : Int) : Value := .agg #[.int .i64 c, .int .i64 at_]

theorem ret_all {v : Value} {c c' a a' : Int} (h : c = c') (h2 : a = a') : Ending.returned (.tuple #[v, ftV c a]) = .returned (.tuple #[v, ftV c' a']) := by rw [h, h2]

/-- A fault in memory. -/
structure TwoC (w : World) (B : Nat) (c a : Int) : Prop where
  c0 : w.cell? ⟨B, 0, none⟩ = some (.int .i64 c)
  c1 : w.cell? ⟨B, 1, none⟩ = some (.int .i64 a)
  f0 : w.frozen? ⟨B, 0, none⟩ = false
  f1 : w.frozen? ⟨B, 1, none⟩ = false

theorem twoC_start (w : World) (c a : Int) : TwoC (w.alloc (.cells #[.int .i64 c, .int .i64 a] 46)) w.heap.size c a := by
  refine ⟨?_, ?_, ?_, ?_⟩ <;> simp [go_sem]

theorem TwoC.below {w w' : World} {B : Nat} {c a : Int} (h : TwoC w B c a) (hB : B < w.heap.size) (hb : Below w.heap.size w w') : TwoC w' B c a := by
  obtain ⟨hc, hf⟩ := bcell hb
  exact ⟨by rw [hc _ _ hB]; exact h.c0, by rw [hc _ _ hB]; exact h.c1, by rw [hf _ _ hB]; exact h.f0, by rw [hf _ _ hB]; exact h.f1⟩

theorem TwoC.put {w : World} {B : Nat} {c a : Int} (h : TwoC w B c a) (c' a' : Int) : TwoC ((w.setCell ⟨B, 0, none⟩ (.int .i64 c')).setCell ⟨B, 1, none⟩ (.int .i64 a')) B c' a' := by
  obtain ⟨c0, c1, f0, f1⟩ := h
  refine ⟨?_, ?_, ?_, ?_⟩
  · simp [go_sem, c0]
  · simp [go_sem, c1]
  · simpa [go_sem] using f0
  · simpa [go_sem] using f1

theorem load_two {w : World} {B : Nat} {c a : Int} (h : TwoC w B c a) : (loadVar 46 ⟨B, 0, none⟩).run Tryz.prog w = .ok (ftV c a) w := by
  obtain ⟨c0, c1, _, _⟩ := h
  simp [go_sem, loadVar, loadCells, loadCellsFrom, Sem.run_bind, Tryz.isAgg46, Tryz.sizeOf46, c0, c1]

theorem results_tmp_cell {fn : Func} {p u : Tmp} {ty : TypeId} (h : fn.results = #[.tmp u, .cell p ty]) (tmps : Array Value) (P : Program) (w : World) :
    (results fn tmps).run P w = ((asAddr (tmps.getD p undef)).run P w).andThen fun a w₁ => ((loadVar ty a).run P w₁).andThen fun v w₂ => .ok (.tuple #[tmps.getD u undef, v]) w₂ := by
  simp only [results, h]
  simp [Sem.run_bind, Result.andThen]

theorem all_end {R : Ending → World → Prop} {a : Act} {w : World} {B : Nat} {c f : Int} {v : Value} (h : TwoC w B c f) (h2 : a.tmps.getD 2 undef = v) (h3 : a.tmps.getD 3 undef = .pointer (some ⟨B, 0, none⟩)) (hd : a.defers = [])
    (hR : R (.returned (.tuple #[v, ftV c f])) w) : bodyPost Tryz.prog Tryz.f10 R Exit.ret a w := by
  refine bodyPost_ret ?_ hd hR
  rw [results_tmp_cell rfl, h2, h3]
  simp [asAddr, load_two h]

set_option maxRecDepth 20000 in
set_option maxHeartbeats 400000 in
theorem all_empty (a : Option Addr) (cap : Nat) (w : World) :
    Calls Tryz.prog 10 #[.slice a 0 cap] w fun e w' => e = .returned (.tuple #[.slice none 0 0, ftV 0 0]) ∧ Below w.heap.size w w' := by
  go_enter Tryz.func10, Tryz.ntmps10
  go_wp2
  refine wp_loop_rounds 1 ?_
  rw [rounds_succ]
  go_wp2
  exact all_end (twoC_start w 0 0) rfl rfl rfl ⟨rfl, (Below.refl _ _).alloc (Nat.le_refl _) _⟩

theorem below_put2 {N B : Nat} {w w' : World} (h : Below N w w') (hB : N ≤ B) (c a : Int) : Below N w ((w'.setCell ⟨B, 0, none⟩ (.int .i64 c)).setCell ⟨B, 1, none⟩ (.int .i64 a)) :=
  (h.setCell (p := ⟨B, 0, none⟩) hB _).setCell (p := ⟨B, 1, none⟩) hB _

/-- In the middle of All. -/
structure AInv (w : World) (wr : World) : Prop where
  below : Below (w.alloc (.cells #[.int .i64 0, .int .i64 0] 46)).heap.size (w.alloc (.cells #[.int .i64 0, .int .i64 0] 46)) wr

theorem AInv.two {w wr : World} (h : AInv w wr) : TwoC wr w.heap.size 0 0 := (twoC_start w 0 0).below (by simp) h.below
theorem AInv.old {w wr : World} (h : AInv w wr) : Below w.heap.size w wr := below_after ((Below.refl _ _).alloc (Nat.le_refl _) _) h.below
theorem AInv.after {w wr w' : World} (h : AInv w wr) (hb : Below wr.heap.size wr w') : AInv w w' := ⟨below_after h.below hb⟩

set_option maxRecDepth 20000 in
set_option maxHeartbeats 800000 in
theorem all_some (b off len cap : Nat) (ds : List Dd) (w : World) (hl : ds.length = len) (hm : len ≤ 1000) (hr : Deeds w b off ds) :
    Calls Tryz.prog 10 #[.slice (some ⟨b, off, none⟩) len cap] w fun e w' =>
      ∃ v', e = .returned (.tuple #[v', ftV (allL [] 0 ds).2.1 (allL [] 0 ds).2.2]) ∧ Own w' w.heap.size v' (allL [] 0 ds).1 ∧ Below w.heap.size w w' := by
  have HR : Hid (Deeds w b off ds) := hr
  have HL : Hid (ds.length = len) := hl
  have hb := hr.lt
  clear hr hl
  go_enter Tryz.func10, Tryz.ntmps10
  go_wp2
  go_loopw [4, 11] (fun v i wr => ∃ (k : Nat) (l : List Ch), k ≤ len ∧ i = .int .i64 k ∧ Hid (Sofar l k (ds.drop k) ds) ∧ Hid (Own wr (w.heap.size + 1) v l) ∧ Hid (AInv w wr)) (fun _ i _ => len - (intOf i).toNat)
  case atStart => exact ⟨0, [], Nat.zero_le _, rfl, sofar_start ds, own_nil _ _, ⟨Below.refl _ _⟩⟩
  case round =>
    obtain ⟨k, l, hk, rfl, HS, HV, HA⟩ := hrel
    by_cases hlt : k < len
    · have hkl : k < ds.length := by rw [HL.out]; exact hlt
      obtain ⟨_, g0, g1, g2, g3, g4, g5, g6⟩ := (HR.out.below HA.out.old).at_ k hkl
      have HX : Hid (ds.drop k = ds[k] :: ds.drop (k + 1)) := List.drop_eq_getElem_cons hkl
      generalize ds[k] = d at g0 g1 g2 g3 g4 g5 g6 HX
      rw [HX.out] at HS
      have HBa : Hid (∀ o, Below wr.heap.size wr (wr.alloc o)) := fun o => (Below.refl _ _).alloc (Nat.le_refl _) _
      obtain ⟨kind, by_, no, seen, at_, many, text⟩ := d
      simp only at g0 g1 g2 g3 g4 g5 g6
      go_wp2_with fail
      clear g0 g1 g2 g3 g4 g5 g6
      refine (do_any l ⟨kind, by_, no, seen, at_, many, text⟩ ((k : Int) + 1) _ _ (HV.out.below (HBa.out _)).lst (by have := HS.out.1.len; omega) HS.out.1.fits).mono ?_
      rintro e w1 ⟨v1, rfl, hL, hb1⟩
      have HV1 : Hid (Own w1 (w.heap.size + 1) v1 _) := hL.mono (by have := HA.out.below.size; simp at this ⊢; omega)
      have HA1 : Hid (AInv w w1) := HA.out.after (below_after (HBa.out _) hb1)
      clear hL hb1 HBa HA HV
      by_cases hc : doC l ⟨kind, by_, no, seen, at_, many, text⟩ ((k : Int) + 1) = 0
      · have HN : Hid (Sofar _ _ _ _) := sofar_step HS.out hc
        have HD : Hid (doR l ⟨kind, by_, no, seen, at_, many, text⟩ ((k : Int) + 1) = doL l ⟨kind, by_, no, seen, at_, many, text⟩ ((k : Int) + 1)) := by show doR _ _ _ = _; rw [doR, if_pos hc]
        rw [hc]
        go_wp2
        go_roundw
        case rel => exact ⟨k + 1, _, by omega, by go_num, HN, by rw [← HD.out]; exact HV1, HA1⟩
        case measure => simp [intOf]; omega
      · have HN : Hid (_ = _) := sofar_bad HS.out hc
        have hne : (doC l ⟨kind, by_, no, seen, at_, many, text⟩ ((k : Int) + 1) != 0) = true := by simp [hc]
        obtain ⟨c0, c1, f0, f1⟩ := HA1.out.two
        clear hc
        generalize doC l ⟨kind, by_, no, seen, at_, many, text⟩ ((k : Int) + 1) = c at *
        go_wp2
        refine all_end (v := .slice none 0 0) (HA1.out.two.put c k) rfl rfl rfl ?_
        rw [HN.out]
        exact ⟨_, rfl, own_nil _ _, below_put2 HA1.out.old (Nat.le_refl _) _ _⟩
    · obtain rfl : k = len := by omega
      have HE : Hid (ds.drop k = []) := List.drop_eq_nil_of_le (by rw [HL.out]; exact Nat.le_refl _)
      rw [HE.out] at HS
      have HN : Hid (_ = _) := sofar_end HS.out
      obtain ⟨c0, c1, f0, f1⟩ := HA.out.two
      go_wp2
      refine all_end (v := _) (HA.out.two.put 0 0) rfl rfl rfl ?_
      rw [HN.out]
      have HB2 : Hid _ := below_put2 HA.out.old (Nat.le_refl _) 0 0
      refine ⟨_, rfl, ?_, HB2.out⟩
      exact Own.mono (ownsRow_setCell_below (ownsRow_setCell_below HV.out (a := ⟨w.heap.size, 0, none⟩) (Nat.lt_succ_self _) _) (a := ⟨w.heap.size, 1, none⟩) (Nat.lt_succ_self _) _) (by omega)

theorem all_lst {w : World} {v : Value} {ds : List Dd} (h : DLst w v ds) (hm : ds.length ≤ 1000) :
    Calls Tryz.prog 10 #[v] w fun e w' =>
      ∃ v', e = .returned (.tuple #[v', ftV (allL [] 0 ds).2.1 (allL [] 0 ds).2.2]) ∧ Own w' w.heap.size v' (allL [] 0 ds).1 ∧ Below w.heap.size w w' := by
  obtain ⟨a, len, cap, rfl, h1, h2, h3⟩ := h
  rcases h3 with rfl | ⟨b, off, rfl, hr⟩
  · obtain rfl : ds = [] := List.length_eq_zero_iff.1 h1
    refine (all_empty a cap w).mono ?_
    rintro e w' ⟨rfl, hb⟩
    exact ⟨_, rfl, own_nil _ _, hb⟩
  · exact all_some b off len cap ds w h1 (by omega) hr

end Go.Proofs.YtdlmlhmdjfbdiacGreat

/-
  Plain mathematics: where the old bytes and the new ones stand behind a deed; and two texts at the same place, neither of whose writers knew of the other one. No walk.
-/
namespace Go.Proofs.YtdlmlhmdjfbdiacGreat

/-! Nothing is lost, and all keeps its order. -/

theorem doL_new {l : List Ch} {d : Dd} {number : Int} (hk : d.kind = 1) (hp : placeL l d ≤ l.length) : ((doL l d number).drop (placeL l d)).take d.text.size = newL d number := by
  rw [doL, if_pos hk, List.drop_append_of_le_length (by rw [List.length_take]; omega), List.drop_eq_nil_of_le (by rw [List.length_take]; omega), List.nil_append, List.take_append_of_le_length (by rw [newL_len]; exact Nat.le_refl _), List.take_of_length_le (by rw [newL_len]; exact Nat.le_refl _)]

theorem doL_low {l : List Ch} {d : Dd} {number : Int} (hk : d.kind = 1) (hp : placeL l d ≤ l.length) {i : Nat} (hi : i < placeL l d) : (doL l d number)[i]? = l[i]? := by
  rw [doL, if_pos hk, List.getElem?_append_left (by rw [List.length_take]; omega), List.getElem?_take_of_lt hi]

theorem doL_high {l : List Ch} {d : Dd} {number : Int} (hk : d.kind = 1) (hp : placeL l d ≤ l.length) {i : Nat} (hi : placeL l d ≤ i) : (doL l d number)[i + d.text.size]? = l[i]? := by
  have e1 : (l.take (placeL l d)).length = placeL l d := by rw [List.length_take]; omega
  rw [doL, if_pos hk, List.getElem?_append_right (by omega), e1, List.getElem?_append_right (by rw [newL_len]; omega), newL_len, List.getElem?_drop]
  congr 1
  omega

/-! Two texts at the same place. -/

abbrev bytesN (l : List UInt8) : List Int := l.map fun b => (b.toNat : Int)

/-- The j-th deed that puts in a text, twenty bytes at a time. -/
def chunkD (base : List UInt8) (j : Nat) : Dd := ⟨1, 0, (j : Int) + 1, j, 20 * j, 0, ⟨((base.drop (20 * j)).take 20).toArray⟩⟩

theorem nums_chunk (base : List UInt8) (j : Nat) : nums (chunkD base j).text = bytesN ((base.drop (20 * j)).take 20) := by
  simp [nums, chunkD, bytesN]

/-- How deeds end, done one behind the other from the j-th on: well, with that text, or with the code that Check has of the deed at which it ends. -/
def Ends (target : List Int) (j : Nat) (ds : List Dd) (r : List Ch × Int × Nat) : Prop :=
  (r.2.1 = 0 ∧ vw r.1 (openN - 1) (-1) = target ∧ Plain 200 r.1) ∨ (r.2.1 ≠ 0 ∧ r.1 = [] ∧ ∃ t : Nat, r.2.2 = j + t ∧ ∃ d, ds[t]? = some d ∧ checkC d = r.2.1)

theorem Ends.later {target : List Int} {j : Nat} {d : Dd} {ds : List Dd} {r : List Ch × Int × Nat} (h : Ends target (j + 1) ds r) : Ends target j (d :: ds) r := by
  rcases h with h | ⟨h1, h2, t, ht, e, he, hc⟩
  · exact .inl h
  · exact .inr ⟨h1, h2, t + 1, by omega, e, by simpa using he, hc⟩

theorem all_bad {target : List Int} {l : List Ch} {j : Nat} {d : Dd} {ds : List Dd} (h : checkC d ≠ 0) : Ends target j (d :: ds) (allL l j (d :: ds)) := by
  have e : doC l d (j + 1) = checkC d := by
    rw [doC, mayC, if_pos h, if_pos h]
  rw [allL, e, if_pos h]
  exact .inr ⟨h, rfl, 0, rfl, d, rfl, rfl⟩

theorem all_good {l : List Ch} {j : Nat} {d : Dd} {ds : List Dd} (hc : checkC d = 0) (hn : d.at_ + d.many ≤ cnt l d.seen d.by_) (hl : l.length + d.text.size ≤ 200) : allL l j (d :: ds) = allL (doL l d (j + 1)) (j + 1) ds := by
  have e : doC l d (j + 1) = 0 := by
    have hm : mayC l d = 0 := by
      rw [mayC, if_neg (fun h => h hc), if_neg (by omega), if_neg (by omega)]
    rw [doC, if_neg (fun h => h hm), if_neg (by omega)]
  rw [allL, e, if_neg (by simp)]

theorem plain_app {n : Int} {a b : List Ch} (ha : Plain n a) (hb : Plain n b) : Plain n (a ++ b) := by
  intro x hx
  rcases List.mem_append.1 hx with hx | hx
  · exact ha x hx
  · exact hb x hx

theorem plain_le {n m : Int} {a : List Ch} (h : Plain n a) (hm : n ≤ m) : Plain m a := fun x hx => by
  obtain ⟨h1, h2, h3⟩ := h x hx
  exact ⟨by omega, h2, h3⟩

/-- The last two: both behind k bytes of a text that both have seen. -/
theorem meets_two {l : List Ch} {n k : Nat} {da db : Dd} (hpl : Plain n l) (hk : k ≤ l.length) (hn : n ≤ 100) (hl : l.length + da.text.size + db.text.size ≤ 100)
    (a1 : da.kind = 1) (a2 : da.by_ = 1) (a3 : da.seen = n) (a4 : da.at_ = k) (a5 : da.many = 0) (b1 : db.kind = 1) (b2 : db.by_ = 2) (b3 : db.seen = n) (b4 : db.at_ = k) (b5 : db.many = 0) :
    Ends ((l.map (·.c)).take k ++ (nums db.text ++ (nums da.text ++ (l.map (·.c)).drop k))) n [da, db] (allL l n [da, db]) := by
  by_cases ca : checkC da = 0
  · have hseeA : ∀ x ∈ l, seesC da.seen da.by_ x = true := by rw [a3]; exact plain_sees hpl (Int.le_refl _)
    rw [all_good ca (by rw [a4, a5, cnt_all hseeA]; omega) (by omega)]
    have hsplit : l = l.take k ++ l.drop k := (List.take_append_drop k l).symm
    have hkl : (l.take k).length = k := by rw [List.length_take]; omega
    have hopen : ∀ m : Int, m ≤ 1000 → ∀ y : List Ch, Plain m y → ∀ x ∈ y, x.inn ≠ openN := by
      intro m hm y hy x hx e
      have := (hy x hx).1
      unfold openN at e
      omega
    have e1 : doL l da ((n : Int) + 1) = l.take k ++ (newL da (n + 1) ++ l.drop k) := by
      have := put_plain (p := l.take k) (r := l.drop k) (d := da) (number := (n : Int) + 1) a1 (by rw [a4, hkl]) (fun x hx => hseeA x (List.mem_of_mem_take hx)) (hopen n (by omega) _ (fun x hx => hpl x (List.mem_of_mem_drop hx)))
      rwa [← hsplit] at this
    have hpt : Plain n (l.take k) := fun x hx => hpl x (List.mem_of_mem_take hx)
    have hpd : Plain n (l.drop k) := fun x hx => hpl x (List.mem_of_mem_drop hx)
    by_cases cb : checkC db = 0
    · refine Ends.later ?_
      have hcb : cnt (doL l da ((n : Int) + 1)) db.seen db.by_ = l.length := by
        rw [← vw_len, doL_far (number := (n : Int) + 1) (by rw [a2]; decide) (by rw [a2, b2]; decide) (by rw [b3]; omega), vw_len, b3, cnt_all (plain_sees hpl (Int.le_refl _))]
      rw [all_good cb (by rw [b4, b5, hcb]; omega) (by rw [doL_len (fun h => absurd a1 h)]; omega)]
      have e2 : doL (doL l da ((n : Int) + 1)) db (((n + 1 : Nat) : Int) + 1) = l.take k ++ (newL db (((n + 1 : Nat) : Int) + 1) ++ (newL da (n + 1) ++ l.drop k)) := by
        rw [e1]
        refine put_plain b1 (by rw [b4, hkl]) (fun x hx => ?_) (hopen (n + 1) (by omega) _ (plain_app (newL_plain da _) (plain_le hpd (by omega))))
        rw [b3]
        exact plain_sees hpt (Int.le_refl _) x hx
      rw [e2]
      left
      have hall : Plain (n + 2) (l.take k ++ (newL db (((n + 1 : Nat) : Int) + 1) ++ (newL da (n + 1) ++ l.drop k))) :=
        plain_app (plain_le hpt (by omega)) (plain_app (plain_le (newL_plain db _) (by omega)) (plain_app (plain_le (newL_plain da _) (by omega)) (plain_le hpd (by omega))))
      refine ⟨rfl, ?_, plain_le hall (by omega)⟩
      show vw (l.take k ++ (newL db (((n + 1 : Nat) : Int) + 1) ++ (newL da (n + 1) ++ l.drop k))) (openN - 1) (-1) = _
      rw [vw_all (plain_sees hall (by unfold openN; omega)), List.map_append, List.map_append, List.map_append, newL_cs, newL_cs, List.map_take, List.map_drop]
    · exact Ends.later (all_bad cb)
  · exact all_bad ca

/-- ALL of it: the text by chunks, and the two. -/
theorem meets_all {base : List UInt8} {k : Nat} {da db : Dd} {n : Nat} (hb : base.length ≤ 20 * n) (hk : k ≤ base.length) (hl : base.length + da.text.size + db.text.size ≤ 100) (hn : n ≤ 100) (hlast : 20 * n < base.length + 20)
    (a1 : da.kind = 1) (a2 : da.by_ = 1) (a3 : da.seen = n) (a4 : da.at_ = k) (a5 : da.many = 0) (b1 : db.kind = 1) (b2 : db.by_ = 2) (b3 : db.seen = n) (b4 : db.at_ = k) (b5 : db.many = 0) :
    ∀ (m j : Nat) (l : List Ch), j + m = n → Plain j l → l.map (·.c) = bytesN (base.take (20 * j)) →
      Ends (bytesN (base.take k) ++ (nums db.text ++ (nums da.text ++ bytesN (base.drop k)))) j ((List.range' j m).map (chunkD base) ++ [da, db]) (allL l j ((List.range' j m).map (chunkD base) ++ [da, db]))
  | 0, j, l, hj, hp, hc => by
    obtain rfl : j = n := by omega
    have hcl : l.length = base.length := by
      have := congrArg List.length hc
      simp at this
      omega
    have hcs : l.map (·.c) = bytesN base := by rw [hc, List.take_of_length_le hb]
    have := meets_two (l := l) (n := j) (k := k) hp (by omega) hn (by omega) a1 a2 a3 a4 a5 b1 b2 b3 b4 b5
    rw [hcs] at this
    simpa [bytesN, List.map_take, List.map_drop] using this
  | m + 1, j, l, hj, hp, hc => by
    rw [List.range'_succ, List.map_cons, List.cons_append]
    have hlt : 20 * j < base.length := by omega
    have hcl : l.length = 20 * j := by
      have := congrArg List.length hc
      simp at this
      omega
    have hts : (chunkD base j).text.size ≤ base.length - 20 * j := by
      show (((base.drop (20 * j)).take 20).toArray).size ≤ _
      rw [List.size_toArray, List.length_take, List.length_drop]
      omega
    by_cases hck : checkC (chunkD base j) = 0
    · have hsee : ∀ x ∈ l, seesC (chunkD base j).seen (chunkD base j).by_ x = true := plain_sees hp (Int.le_refl _)
      rw [all_good hck (by rw [cnt_all hsee]; show 20 * (j : Int) + 0 ≤ _; omega) (by omega)]
      refine Ends.later ?_
      refine meets_all hb hk hl hn hlast a1 a2 a3 a4 a5 b1 b2 b3 b4 b5 m (j + 1) _ (by omega) ?_ ?_
      · have e := put_plain (p := l) (r := []) (d := chunkD base j) (number := (j : Int) + 1) rfl (by show 20 * (j : Int) = _; omega) hsee (fun x hx => by simp at hx)
        rw [List.append_nil, List.append_nil] at e
        rw [e]
        exact plain_app (plain_le hp (by omega)) (plain_le (newL_plain _ _) (by omega))
      · have e := put_plain (p := l) (r := []) (d := chunkD base j) (number := (j : Int) + 1) rfl (by show 20 * (j : Int) = _; omega) hsee (fun x hx => by simp at hx)
        rw [List.append_nil, List.append_nil] at e
        rw [e, List.map_append, hc, newL_cs, nums_chunk, show 20 * (j + 1) = 20 * j + 20 by omega, List.take_add]
        simp [bytesN]
    · exact all_bad hck

end Go.Proofs.YtdlmlhmdjfbdiacGreat

/-
  Lists of deeds in memory that the call owns. No walk.
-/
namespace Go.Proofs.YtdlmlhmdjfbdiacGreat
open Go.RowKit

def ddCells (x : Dd) : List Value := [.int .i64 x.kind, .int .i64 x.by_, .int .i64 x.no, .int .i64 x.seen, .int .i64 x.at_, .int .i64 x.many, .string x.text]

def cellsD : List Dd → List Value
  | [] => []
  | x :: r => ddCells x ++ cellsD r

theorem cellsD_len : ∀ l : List Dd, (cellsD l).length = l.length * 7
  | [] => rfl
  | x :: r => by
    rw [cellsD, List.length_append, cellsD_len r, List.length_cons]
    show 7 + _ = _
    omega

theorem cellsD_app : ∀ a b : List Dd, cellsD (a ++ b) = cellsD a ++ cellsD b
  | [], b => rfl
  | x :: r, b => by rw [List.cons_append, cellsD, cellsD_app r b, cellsD, List.append_assoc]

theorem cellsD_one : ∀ (l : List Dd) (u : Value), u ∈ cellsD l → u.oneCell' = true
  | [], u, h => by simp [cellsD] at h
  | x :: r, u, h => by
    rw [cellsD, List.mem_append] at h
    rcases h with h | h
    · simp [ddCells] at h
      rcases h with rfl | rfl | rfl | rfl | rfl | rfl | rfl <;> rfl
    · exact cellsD_one r u h

theorem cellsD_get : ∀ (l : List Dd) (i r : Nat) (hi : i < l.length), r < 7 → (cellsD l)[i * 7 + r]? = (ddCells l[i])[r]?
  | [], i, r, hi, _ => absurd hi (Nat.not_lt_zero _)
  | x :: l, 0, r, _, hr => by
    rw [cellsD, Nat.zero_mul, Nat.zero_add, List.getElem?_append_left (by exact hr)]
    rfl
  | x :: l, i + 1, r, hi, hr => by
    rw [cellsD, List.getElem?_append_right (by show 7 ≤ _; omega)]
    show (cellsD l)[(i + 1) * 7 + r - 7]? = _
    rw [show (i + 1) * 7 + r - 7 = i * 7 + r by omega, cellsD_get l i r (by simpa using hi) hr]
    rfl

/-- A list of deeds that the call owns. -/
def OwnD (w : World) (base : Nat) (v : Value) (l : List Dd) : Prop := w.ownsRow base 41 7 v l.length (cellsD l)

theorem ownD_nil (w : World) (base : Nat) : OwnD w base (.slice none 0 0) [] := World.ownsRow_nil _ _ _ _

theorem OwnD.dlst {w : World} {base : Nat} {v : Value} {l : List Dd} (h : OwnD w base v l) : DLst w v l := by
  have h' := h
  obtain ⟨_, h2⟩ := h
  rcases h2 with ⟨rfl, hn⟩ | ⟨g, cap, cur, rfl, hb, hg, hnc, _⟩
  · exact ⟨none, 0, 0, rfl, hn, Nat.le_refl _, .inl rfl⟩
  · have hlt := (Array.getElem?_eq_some_iff.1 hg).1
    refine ⟨_, _, _, rfl, rfl, hnc, .inr ⟨g, 0, rfl, ⟨hlt, fun i hi => ?_⟩⟩⟩
    have key : ∀ r, r < 7 → w.cell? ⟨g, 0 + i * 7 + r, none⟩ = (ddCells l[i])[r]? := fun r hr => by
      rw [Nat.zero_add, World.ownsRow.cellAt h' (i * 7 + r) (by omega), cellsD_get l i r hi hr]
    exact ⟨hlt, key 0 (by omega), key 1 (by omega), key 2 (by omega), key 3 (by omega), key 4 (by omega), key 5 (by omega), key 6 (by omega)⟩

theorem OwnD.below {w w' : World} {base : Nat} {v : Value} {l : List Dd} (h : OwnD w base v l) (hb : Below w.heap.size w w') : OwnD w' base v l := by
  exact World.ownsRow.kept (row := none) h ⟨hb.os, hb.tape, hb.output, hb.size, fun k hk _ => hb.block k hk⟩ (by cases h' : v.ownBlock <;> simp)

abbrev zeroDdV : Value := .agg #[.int .i64 0, .int .i64 0, .int .i64 0, .int .i64 0, .int .i64 0, .int .i64 0, .string ⟨#[]⟩]

theorem Tryz.infoDeed : (Tryz.prog.info? 41).map (fun i => (i.zero, i.size, i.bytes)) = some (some zeroDdV, 7, 64) := by kernel_rfl

/-- append of deeds, that lie in a block, to a list that the call owns. -/
theorem append_deeds {ops : Array Oper} {rest : List Oper} {o : Oper} {act : Act} {Q : Exit → Act → World → Prop} (w : World) (hgd : o.guard = none) (s x : Operand)
    (ho : o.op = .call { callee := .builtin .append, args := #[s, x], argTypes := #[38, 38] }) (base g cap : Nat) {v : Value} {a b : List Dd} (hs : act.eval s = v) (hx : act.eval x = .slice (some ⟨g, 0, none⟩) b.length cap) (hv : OwnD w base v a)
    (hsrc : ∀ j u, (cellsD b)[j]? = some u → w.cell? ((⟨g, 0, none⟩ : Addr).add j) = some u) (hl : a.length + b.length ≤ 100000) (hbase : base ≤ w.heap.size)
    (h : ∀ v' w', OwnD w' base v' (a ++ b) → w.grownBy w' v.ownBlock → wpList Tryz.prog ops Q rest (act.put o.dst v') w') : wpList Tryz.prog ops Q (o :: rest) act w := by
  obtain ⟨i0, hi, hz0, hz1, hz2⟩ := info_parts Tryz.infoDeed
  refine wpList_append_own w hgd s x 38 ho base 41 i0 zeroDdV 7 64 Tryz.underlying38 hi hz0 hz1 hz2 rfl (by decide) v a.length (cellsD a) hs hv ⟨g, 0, none⟩ b.length cap (cellsD b) hx (cellsD_len b) hsrc (cellsD_one b) (by unfold maxLen; omega) (by omega) hbase ?_
  intro v' w' ho hg _
  refine h v' w' ?_ hg
  unfold OwnD
  rw [List.length_append, cellsD_app]
  exact ho

/-- Deeds that lie in a new block, as a source of cells. -/
theorem src_new (w : World) (b : List Dd) (cs : Array Value) (h : cs.toList = cellsD b) : ∀ j u, (cellsD b)[j]? = some u → (w.alloc (.cells cs 41)).cell? ((⟨w.heap.size, 0, none⟩ : Addr).add j) = some u := by
  intro j u hu
  rw [addr_add, Nat.zero_add]
  rw [← h] at hu
  have hu' : cs[j]? = some u := by simpa using hu
  rw [cell_of_row (w.alloc (.cells cs 41)) w.heap.size j cs 41 (0, 0) (heap_alloc_new w _)]
  exact hu'

end Go.Proofs.YtdlmlhmdjfbdiacGreat

/-
  Plain mathematics of the law FoldLists: deeds in their order, each writer's numbered from 1 on, make a list that may be. No walk.
-/
namespace Go.Proofs.YtdlmlhmdjfbdiacGreat
open Go.RowKit

def upd (last : Int → Int) (d : Dd) : Int → Int := fun w => if w = d.by_ then d.no else last w
def lastAt (l : List Dd) : Int → Int := l.foldl upd (fun _ => 0)
def nAt (l : List Dd) : Nat := l.foldl (fun n d => n + d.text.size) 0

theorem lastAt_snoc (l : List Dd) (d : Dd) : lastAt (l ++ [d]) = upd (lastAt l) d := by simp [lastAt]
theorem nAt_snoc (l : List Dd) (d : Dd) : nAt (l ++ [d]) = nAt l + d.text.size := by simp [nAt]

/-- The i-th deed stands where it may. -/
def okAt (ds : List Dd) (i : Nat) : Prop := ∀ d, ds[i]? = some d → wrB d.by_ = true ∧ d.no = lastAt (ds.take i) d.by_ + 1 ∧ d.seen ≤ i

theorem take_snocD (l : List Dd) (k : Nat) (h : k < l.length) : l.take (k + 1) = l.take k ++ [l[k]] := List.take_succ_eq_append_getElem h

theorem last_bound {ds : List Dd} : ∀ (k : Nat), k ≤ ds.length → (∀ i, i < k → okAt ds i) → ∀ w, 0 ≤ lastAt (ds.take k) w ∧ lastAt (ds.take k) w ≤ k
  | 0, _, _, w => by simp [lastAt]
  | k + 1, hk, h, w => by
    have ih := last_bound k (by omega) (fun i hi => h i (by omega))
    obtain ⟨_, h2, _⟩ := h k (by omega) ds[k] (List.getElem?_eq_getElem (by omega))
    rw [take_snocD ds k (by omega), lastAt_snoc, upd]
    have i1 := ih w
    have i2 := ih ds[k].by_
    split <;> omega

theorem made_all : ∀ (suf pre : List Dd) (l : List Ch), (∀ i, i < (pre ++ suf).length → okAt (pre ++ suf) i) → (pre ++ suf).length ≤ 1000 → Made (lastAt pre) pre.length l → l.length = nAt pre → l.length ≤ 200 → (allL l pre.length suf).2.1 = 0 →
    Made (lastAt (pre ++ suf)) (pre ++ suf).length (allL l pre.length suf).1 ∧ (allL l pre.length suf).1.length = nAt (pre ++ suf) ∧ (allL l pre.length suf).1.length ≤ 200
  | [], pre, l, _, _, hm, hn, hl, _ => by
    rw [List.append_nil]
    exact ⟨hm, hn, hl⟩
  | d :: r, pre, l, hok, hlen, hm, hn, hl, hz => by
    have e : pre ++ d :: r = (pre ++ [d]) ++ r := by simp
    have hpl : (pre ++ [d]).length = pre.length + 1 := by simp
    rw [allL] at hz ⊢
    by_cases hc : doC l d ((pre.length : Int) + 1) = 0
    · rw [if_neg (fun h => h hc)] at hz ⊢
      obtain ⟨h1, h2, h3, h4⟩ := doC_zero hc
      obtain ⟨_, hno, _⟩ := hok pre.length (by simp) d (by simp)
      rw [List.take_left] at hno
      have hsm := doL_len (l := l) (d := d) (number := (pre.length : Int) + 1) (fun hk => (check_parts h1).2.2.2.2.2.2.2.2.2.2.2 hk)
      have hm' : Made (lastAt (pre ++ [d])) (pre.length + 1) (doL l d ((pre.length : Int) + 1)) := by
        rw [lastAt_snoc]
        by_cases hk : d.kind = 1
        · exact made_put hm h1 hk hno
        · exact made_take hm h1 hk hno (by simp at hlen; omega)
      have ih := made_all r (pre ++ [d]) (doL l d ((pre.length : Int) + 1)) (by rw [← e]; exact hok) (by rw [← e]; exact hlen) (by rw [hpl]; exact hm') (by rw [nAt_snoc, hsm, hn]) (by rw [hsm]; exact h3) (by rw [hpl]; exact hz)
      rw [hpl] at ih
      rw [e]
      exact ih
    · rw [if_pos hc] at hz
      exact absurd hz hc

theorem made_nil : Made (fun _ => 0) 0 [] := by
  refine ⟨?_, ?_, ?_, ?_, ?_, ?_, List.Pairwise.nil⟩ <;> intro x hx <;> simp at hx

/-- WHAT DEEDS MAKE IS A LIST. -/
theorem lists_made {ds : List Dd} (hok : ∀ i, i < ds.length → okAt ds i) (hl : ds.length ≤ 1000) (hz : (allL [] 0 ds).2.1 = 0) {r : Int} (hr : CheckIs (allL [] 0 ds).1 ds.length r) : r = 0 ∧ (allL [] 0 ds).1.length = nAt ds := by
  obtain ⟨h1, h2, h3⟩ := made_all ds [] [] hok hl made_nil rfl (Nat.zero_le _) hz
  exact ⟨made_check h1 h3 hr, h2⟩

theorem lists_fault : ∀ {ds : List Dd} {l : List Ch} {i : Nat}, (allL l i ds).2.1 ≠ 0 → (allL l i ds).1 = []
  | [], l, i, h => by simp [allL] at h
  | d :: r, l, i, h => by
    rw [allL] at h ⊢
    by_cases hc : doC l d ((i : Int) + 1) = 0
    · rw [if_neg (fun e => e hc)] at h ⊢
      exact lists_fault h
    · rw [if_pos hc]

theorem small_all : ∀ {ds : List Dd} {l : List Ch} {i : Nat}, Small l → (allL l i ds).1.length ≤ 200
  | [], l, i, h => h.len
  | d :: r, l, i, h => by
    rw [allL]
    by_cases hc : doC l d ((i : Int) + 1) = 0
    · rw [if_neg (fun e => e hc)]
      exact small_all (small_do h.fits hc)
    · rw [if_pos hc]
      exact Nat.zero_le _

theorem nAt_le : ∀ (l : List Dd) (n : Nat), (∀ d ∈ l, d.text.size ≤ 100) → l.foldl (fun n d => n + d.text.size) n ≤ n + l.length * 100
  | [], n, _ => by simp
  | d :: r, n, h => by
    rw [List.foldl_cons, List.length_cons]
    have h1 := nAt_le r (n + d.text.size) (fun x hx => h x (by simp [hx]))
    have h2 := h d (by simp)
    omega

end Go.Proofs.YtdlmlhmdjfbdiacGreat
