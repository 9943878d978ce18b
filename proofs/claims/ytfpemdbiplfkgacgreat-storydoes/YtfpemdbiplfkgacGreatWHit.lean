/-
  The contracts of slices.DeleteFunc at a list of bytes that the call owns, and of clear.Of.
-/
import Derived.Test.YtfpemdbiplfkgacGreatFSame
import Derived.Test.YtfpemdbiplfkgacGreatFPut
import Derived.Laws.IdiomCopy
namespace Go.Proofs.YtfpemdbiplfkgacGreat
open Go.RowKit

/-- The first n cells of an owned row, when cells behind them are set. -/
theorem own_setCells {w : World} {base g n cap : Nat} {e : TypeId} {size : Nat} {xs : List Value} (h : w.ownsRow base e size (.slice (some ⟨g, 0, none⟩) n cap) n xs) :
    ∀ (vs : List Value) (o : Nat), n * size ≤ o → ∀ w1 : World, w1.ownsRow base e size (.slice (some ⟨g, 0, none⟩) n cap) n xs → (w1.setCells g o vs).ownsRow base e size (.slice (some ⟨g, 0, none⟩) n cap) n xs
  | [], o, _, w1, h1 => h1
  | v :: vs, o, ho, w1, h1 => by
    have := (h1.stored o v).1
    rw [List.set_eq_of_length_le (by have := h1.1; omega)] at this
    exact own_setCells h vs (o + 1) (by omega) _ this

theorem below_setCells {base g : Nat} (hg : base ≤ g) {W : World} : ∀ (vs : List Value) (o : Nat) (w1 : World), Below base W w1 → Below base W (w1.setCells g o vs)
  | [], _, _, h => h
  | v :: vs, o, _, h => below_setCells hg vs (o + 1) _ (h.setCell (p := ⟨g, o, none⟩) hg v)

/-- The list without its end: the same row, of less length. -/
theorem own_less {w : World} {base g n cap : Nat} {L : List Ch} (h : Own w base (.slice (some ⟨g, 0, none⟩) n cap) L) (hn : L.length = n) {i : Nat} (hi : i ≤ n) : Own w base (.slice (some ⟨g, 0, none⟩) i cap) (L.take i) := by
  unfold Own at h ⊢
  have hlen : (L.take i).length = i := by rw [List.length_take]; omega
  rw [hlen]
  rw [hn] at h
  obtain ⟨h1, h2⟩ := h
  refine ⟨by rw [cells7_len, hlen], ?_⟩
  rcases h2 with ⟨h', _⟩ | ⟨g', cap', cur, h', hb, hg, hnc, hcm, hcs, htake⟩
  · simp at h'
  · simp only [Value.slice.injEq, Option.some.injEq, Addr.mk.injEq, and_true, true_and] at h'
    obtain ⟨rfl, rfl⟩ := h'
    refine .inr ⟨g, cap, cur, rfl, hb, hg, by omega, hcm, hcs, ?_⟩
    have e : cells7 L = cells7 (L.take i) ++ cells7 (L.drop i) := by rw [← cells7_app, List.take_append_drop]
    have : (cells7 L).take (i * 7) = cells7 (L.take i) := by
      have hl7 : (cells7 (L.take i)).length = i * 7 := by rw [cells7_len, hlen]
      rw [e, List.take_append_of_le_length (by omega), List.take_of_length_le (by omega)]
    rw [← this, ← htake, List.take_take, Nat.min_eq_left (by omega)]

theorem own_place {wk : World} {base : Nat} {v : Value} {l : List Ch} (h : Own wk base v l) (hk : 0 < l.length) : ∃ g cap, v = .slice (some ⟨g, 0, none⟩) l.length cap := by
  obtain ⟨_, h2⟩ := h
  rcases h2 with ⟨_, hn⟩ | ⟨g, cap, cur, rfl, _⟩
  · omega
  · exact ⟨g, cap, rfl⟩

theorem own_spot7 {w : World} {base g n cap : Nat} {L : List Ch} (h : Own w base (.slice (some ⟨g, 0, none⟩) n cap) L) (hn : L.length = n) {j : Nat} (hj : j < n * 7) : (∃ u, w.cell? ⟨g, j, none⟩ = some u) ∧ w.frozen? ⟨g, j, none⟩ = false := by
  unfold Own at h
  rw [hn] at h
  exact own_spot h hj

theorem zeroCells_one (n : Nat) : ∀ v ∈ (Builtin.zeroCells zeroCh.cells n).toList, v.oneCell' = true := by
  intro v hv
  simp only [Builtin.zeroCells, Array.toList_map, List.mem_map] at hv
  obtain ⟨i, _, rfl⟩ := hv
  have h7 : i % zeroCh.cells.size < 7 := Nat.mod_lt _ (by decide)
  generalize i % zeroCh.cells.size = r at h7
  rcases (show r = 0 ∨ r = 1 ∨ r = 2 ∨ r = 3 ∨ r = 4 ∨ r = 5 ∨ r = 6 by omega) with rfl | rfl | rfl | rfl | rfl | rfl | rfl <;> rfl

/-- clear of the end of a list that the call owns. -/
theorem run_clear_end {w : World} {base g n cap : Nat} {L : List Ch} (h : Own w base (.slice (some ⟨g, 0, none⟩) n cap) L) (hn : L.length = n) {i : Nat} (hi : i < n) (ty : TypeId) :
    (Builtin.clear_ #[44] ty #[.slice (some ⟨g, i * 7, none⟩) (n - i) (cap - i)]).run Tryz.prog w = .ok (.tuple #[]) (w.setCells g (i * 7) (Builtin.zeroCells zeroCh.cells (n - i)).toList) := by
  have hlen : (Builtin.zeroCells zeroCh.cells (n - i)).toList.length = (n - i) * 7 := by rw [Array.length_toList, size_zeroCells]; rfl
  have hsp : ∀ j, j < (Builtin.zeroCells zeroCh.cells (n - i)).toList.length → i * 7 + j < n * 7 := fun j hj => by rw [hlen] at hj; omega
  have ho := h
  unfold Own at ho
  rw [hn] at ho
  have hst := run_storeCells_cells (P := Tryz.prog) g (i * 7) (Builtin.zeroCells zeroCh.cells (n - i)).toList 0 w
    (fun j hj => by obtain ⟨⟨u, hu⟩, _⟩ := own_spot ho (hsp j hj); rw [Nat.add_zero, hu]; rfl)
    (fun j hj => by rw [Nat.add_zero]; exact (own_spot ho (hsp j hj)).2) (zeroCells_one _)
  simp only [Nat.add_zero] at hst
  obtain ⟨m, hm⟩ : ∃ m, n - i = m + 1 := ⟨n - i - 1, by omega⟩
  rw [hm] at hst ⊢
  have hu : Tryz.prog.underlying 44 = some (.slice 71) := Tryz.underlying44
  simp [Builtin.clear_, run_underlying hu, hst]

/-- In the middle of DeleteFunc: the bytes that stay of the first j are the first i, and behind j all is as it was. -/
structure DelInv (base : Nat) (w : World) (v : Value) (l : List Ch) (p : Ch → Bool) (i j : Nat) (L : List Ch) (wk : World) : Prop where
  below : Below base w wk
  own : Own wk base v L
  len : L.length = l.length
  le : i < j
  head : L.take i = (l.take j).filter fun x => !p x
  tail : L.drop j = l.drop j

theorem DelInv.after {base : Nat} {w wk w' : World} {v : Value} {l L : List Ch} {p : Ch → Bool} {i j : Nat} (h : DelInv base w v l p i j L wk) (hs : base ≤ wk.heap.size) (hb : Below wk.heap.size wk w') : DelInv base w v l p i j L w' :=
  ⟨h.below.trans (hb.mono hs), h.own.below hb, h.len, h.le, h.head, h.tail⟩

theorem filter_snoc {p : Ch → Bool} {l : List Ch} {j : Nat} (hj : j < l.length) : (l.take (j + 1)).filter (fun x => !p x) = (l.take j).filter (fun x => !p x) ++ if p l[j] = true then [] else [l[j]] := by
  rw [take_snoc l j hj, List.filter_append]
  cases h : p l[j] <;> simp [h]

theorem DelInv.nth {base : Nat} {w wk : World} {v : Value} {l L : List Ch} {p : Ch → Bool} {i j : Nat} (h : DelInv base w v l p i j L wk) (hj : j < l.length) : ∃ hL : j < L.length, L[j] = l[j] := by
  have hL : j < L.length := by rw [h.len]; exact hj
  refine ⟨hL, ?_⟩
  have h1 : (L.drop j)[0]? = (l.drop j)[0]? := by rw [h.tail]
  rw [List.getElem?_drop, List.getElem?_drop, Nat.add_zero, List.getElem?_eq_getElem hL, List.getElem?_eq_getElem hj] at h1
  exact Option.some.inj h1

theorem DelInv.skip {base : Nat} {w wk : World} {v : Value} {l L : List Ch} {p : Ch → Bool} {i j : Nat} (h : DelInv base w v l p i j L wk) (hj : j < l.length) (hp : p l[j] = true) : DelInv base w v l p i (j + 1) L wk := by
  refine ⟨h.below, h.own, h.len, by have := h.le; omega, ?_, ?_⟩
  · rw [filter_snoc hj, hp, h.head]; simp
  · rw [← List.drop_drop, h.tail, List.drop_drop]

theorem DelInv.keep {base g n cap : Nat} {w wk : World} {l L : List Ch} {p : Ch → Bool} {i j : Nat} (h : DelInv base w (.slice (some ⟨g, 0, none⟩) n cap) l p i j L wk) (hn : l.length = n) (hj : j < l.length) (hp : p l[j] = false) (y : Ch) (hy : l[j] = y) :
    DelInv base w (.slice (some ⟨g, 0, none⟩) n cap) l p (i + 1) (j + 1) (L.set i y) (((((((wk.setCell ⟨g, i * 7, none⟩ (.int .u8 y.c)).setCell ⟨g, i * 7 + 1, none⟩ (.int .i64 y.by_)).setCell ⟨g, i * 7 + 2, none⟩ (.int .i64 y.no)).setCell ⟨g, i * 7 + 3, none⟩ (.int .i64 y.k)).setCell ⟨g, i * 7 + 4, none⟩ (.int .i64 y.inn)).setCell ⟨g, i * 7 + 5, none⟩ (.int .i64 y.out)).setCell ⟨g, i * 7 + 6, none⟩ (.int .i64 y.gone)) := by
  obtain ⟨hb, ho, hl, hle, hh, ht⟩ := h
  have hiL : i < L.length := by omega
  have ho' := ho
  unfold Own at ho'
  have hg := (World.ownsRow.lt ho' g rfl).1
  refine ⟨?_, ?_, by rw [List.length_set, hl], by omega, ?_, ?_⟩
  · exact ((((((hb.setCell (p := ⟨g, _, none⟩) hg _).setCell (p := ⟨g, _, none⟩) hg _).setCell (p := ⟨g, _, none⟩) hg _).setCell (p := ⟨g, _, none⟩) hg _).setCell (p := ⟨g, _, none⟩) hg _).setCell (p := ⟨g, _, none⟩) hg _).setCell (p := ⟨g, _, none⟩) hg _
  · unfold Own
    rw [List.length_set, ← set_byte L i y hiL, hl, hn]
    rw [hl, hn] at ho'
    exact ((((((ho'.stored _ _).1.stored _ _).1.stored _ _).1.stored _ _).1.stored _ _).1.stored _ _).1.stored _ _ |>.1
  · rw [filter_snoc hj, hp, ← hh, hy, List.take_succ_eq_append_getElem (by rw [List.length_set]; exact hiL), List.getElem_set_self, List.take_set_of_le (Nat.le_refl _)]
    simp
  · rw [List.drop_set_of_lt (by omega), ← List.drop_drop, ht, List.drop_drop]

/-- What a closure that looks at a byte is asked for: it answers p, in every world that K allows, and makes memory alone. -/
structure Looks (F : Nat) (caps : Array Value) (p : Ch → Bool) (base : Nat) (K : World → Prop) : Prop where
  call : ∀ args w, Sem.run Tryz.prog (callFunc F args) w = .ok (.enter F args) w
  step : ∀ x w, K w → Calls Tryz.prog F (#[chV x] ++ caps) w fun e w' => e = .returned (.bool (p x)) ∧ Below w.heap.size w w'
  keep : ∀ w w', K w → Below base w w' → K w'

def hitP (p : Ch → Bool) (l : List Ch) (k : Nat) : Bool :=
  match l[k]? with
  | some x => p x
  | none => false

theorem hitP_at {p : Ch → Bool} {l : List Ch} {k : Nat} (h : k < l.length) : hitP p l k = p l[k] := by
  rw [hitP, List.getElem?_eq_getElem h]

theorem looks_step {F : Nat} {caps : Array Value} {p : Ch → Bool} {base : Nat} {K : World → Prop} (h : Looks F caps p base K) {w : World} (hb : base ≤ w.heap.size) {b off : Nat} {l : List Ch} (hr : Row w b off l) (hK : K w) :
    Step F caps b off l (fun _ w' => Below w.heap.size w w') (hitP p l) := by
  refine ⟨fun k w' hw => hr.below hw, fun k hk w' hw => ?_⟩
  refine (h.step l[k] w' (h.keep w w' hK (hw.mono hb))).mono ?_
  rintro e w2 ⟨rfl, hb2⟩
  exact ⟨ret_b (hitP_at hk).symm, below_after hw hb2⟩

theorem del_start {base g n cap : Nat} {w w' : World} {l : List Ch} {p : Ch → Bool} {k : Nat} (ho : Own w base (.slice (some ⟨g, 0, none⟩) n cap) l) (hs : base ≤ w.heap.size) (hb : Below w.heap.size w w') (hk : k < l.length) (hno : ∀ j, j < k → hitP p l j = false) (hy : hitP p l k = true) :
    DelInv base w (.slice (some ⟨g, 0, none⟩) n cap) l p k (k + 1) l w' := by
  refine ⟨hb.mono hs, ho.below hb, rfl, Nat.lt_succ_self _, ?_, rfl⟩
  rw [hitP_at hk] at hy
  rw [filter_snoc hk, hy]
  simp only [if_true, List.append_nil]
  symm
  rw [List.filter_eq_self]
  intro x hx
  obtain ⟨j, hj, rfl⟩ := List.mem_iff_getElem.1 hx
  have hj' : j < k := by rw [List.length_take] at hj; omega
  have := hno j hj'
  rw [hitP_at (by omega)] at this
  rw [List.getElem_take, this]
  rfl

theorem del_none {l : List Ch} {p : Ch → Bool} (hno : ∀ j, j < l.length → hitP p l j = false) : l = l.filter fun x => !p x := by
  symm
  rw [List.filter_eq_self]
  intro x hx
  obtain ⟨j, hj, rfl⟩ := List.mem_iff_getElem.1 hx
  have := hno j hj
  rw [hitP_at hj] at this
  rw [this]; rfl

theorem DelInv.fin {base g n cap : Nat} {w wk : World} {l L : List Ch} {p : Ch → Bool} {i : Nat} (h : DelInv base w (.slice (some ⟨g, 0, none⟩) n cap) l p i n L wk) (hn : l.length = n) (vs : List Value) :
    Own (wk.setCells g (i * 7) vs) base (.slice (some ⟨g, 0, none⟩) i cap) (l.filter fun x => !p x) ∧ Below base w (wk.setCells g (i * 7) vs) := by
  have hL : L.length = n := by rw [h.len, hn]
  have h1 := own_less h.own hL (i := i) (by have := h.le; omega)
  rw [h.head, ← hn, List.take_length] at h1
  have hli : (l.filter fun x => !p x).length = i := by
    have e := h.head
    rw [← hn, List.take_length] at e
    rw [← e, List.length_take]
    have := h.le
    omega
  have hg : base ≤ g := by
    have ho := h.own
    unfold Own at ho
    exact (World.ownsRow.lt ho g rfl).1
  refine ⟨?_, below_setCells hg _ _ _ h.below⟩
  unfold Own at h1 ⊢
  rw [hli] at h1 ⊢
  exact own_setCells h1 vs (i * 7) (Nat.le_refl _) wk h1

set_option maxRecDepth 20000 in
set_option maxHeartbeats 800000 in
theorem deleteFunc_own {F : Nat} {caps : Array Value} {p : Ch → Bool} {base : Nat} {K : World → Prop} (hF : Looks F caps p base K) {w : World} {v : Value} {l : List Ch} (ho : Own w base v l) (hs : base ≤ w.heap.size) (hl : l.length ≤ 1000) (hK : K w) :
    Calls Tryz.prog 64 #[v, .func (Fn.func F) #[] caps] w fun e w' => ∃ v', e = .returned v' ∧ Own w' base v' (l.filter fun x => !p x) ∧ Below base w w' := by
  have HF : Hid (Looks F caps p base K) := hF
  have HO : Hid (Own w base v l) := ho
  have HK : Hid (K w) := hK
  have hcall := hF.call
  by_cases h0 : l.length = 0
  · obtain rfl : l = [] := List.length_eq_zero_iff.1 h0
    obtain ⟨a, cap, rfl, _⟩ := ho.lst.len
    clear hF ho hK h0
    go_enter Tryz.func64, Tryz.ntmps64
    go_wp2_with fail
    refine (indexFunc_empty a cap _ w).mono ?_
    rintro e w1 ⟨rfl, hb⟩
    have HB : Hid _ := hb
    clear hb hcall
    go_wp2
    go_ret
    exact ⟨_, rfl, HO.out.below HB.out, HB.out.mono hs⟩
  · obtain ⟨g, cap, rfl⟩ := own_place ho (by omega)
    have hr : Row w g 0 l := by
      obtain ⟨b', o', e', _, r'⟩ := ho.lst.row (by omega)
      cases e'
      exact r'
    have HR : Hid (Row w g 0 l) := hr
    generalize hn : l.length = n at *
    have HN : Hid (l.length = n) := hn
    clear hF ho hK hr hn
    go_enter Tryz.func64, Tryz.ntmps64
    go_wp2_with fail
    refine (indexFunc_some F caps g 0 n cap l _ _ w HN.out (by omega) hcall (looks_step HF.out hs HR.out HK.out) (Below.refl _ _)).mono ?_
    intro e w1 hres
    have H1 : Hid _ := hres
    clear hres
    rcases H1.out with ⟨k, hk, hno, hyes, rfl, hI⟩ | ⟨hno, rfl, hI⟩
    · have HD : Hid _ := del_start HO.out hs hI (by rw [HN.out]; exact hk) hno hyes
      clear H1 hno hyes hI HO HR
      have hk1 : ((k : Int) == -1) = false := beq_eq_false_iff_ne.2 (by omega)
      go_wp2
      go_loopw [5, 6, 7] (fun s5 s6 _ wr => ∃ i j : Nat, ∃ L : List Ch, j ≤ n ∧ s5 = .int .i64 i ∧ s6 = .int .i64 j ∧ Hid (DelInv base w (.slice (some ⟨g, 0, none⟩) n cap) l p i j L wr)) (fun _ s6 _ _ => n - (intOf s6).toNat)
      case atStart => exact ⟨k, k + 1, l, by omega, rfl, by go_num, HD⟩
      case round =>
        obtain ⟨i, j, L, hj, rfl, rfl, HJ⟩ := hrel
        clear HD
        have hij := HJ.out.le
        have hsz : base ≤ wr.heap.size := by have := HJ.out.below.size; omega
        by_cases hlt : j < n
        · have hjl : j < l.length := by rw [HN.out]; exact hlt
          obtain ⟨hjL, hLj⟩ := HJ.out.nth hjl
          obtain ⟨b', o', e', _, r'⟩ := HJ.out.own.lst.row (by omega)
          cases e'
          obtain ⟨h0, h1, h2, h3, h4, h5, h6⟩ := r'.at_ j hjL
          simp only [Nat.zero_add] at h0 h1 h2 h3 h4 h5 h6
          rw [hLj] at h0 h1 h2 h3 h4 h5 h6
          obtain ⟨x, hx⟩ : ∃ x, x = l[j] := ⟨_, rfl⟩
          rw [← hx] at h0 h1 h2 h3 h4 h5 h6
          have HX : Hid _ := hx
          clear r' hLj hjL hx
          go_wp2_with fail
          have HA : Hid (Below wr.heap.size wr (wr.alloc (.cells #[.int .u8 x.c, .int .i64 x.by_, .int .i64 x.no, .int .i64 x.k, .int .i64 x.inn, .int .i64 x.out, .int .i64 x.gone] 71))) := below1 _ _
          refine (HF.out.step x _ (HF.out.keep w _ HK.out (HJ.out.below.trans (HA.out.mono hsz)))).mono ?_
          rintro e w2 ⟨rfl, hb⟩
          have HB : Hid (Below wr.heap.size wr w2) := below_after HA.out hb
          have HJ2 : Hid _ := HJ.out.after hsz HB.out
          obtain ⟨hc, _⟩ := bcell hb
          have c0 : w2.cell? ⟨wr.heap.size, 0, none⟩ = some (.int .u8 x.c) := by rw [hc _ _ (by simp)]; simp [go_sem]
          have c1 : w2.cell? ⟨wr.heap.size, 1, none⟩ = some (.int .i64 x.by_) := by rw [hc _ _ (by simp)]; simp [go_sem]
          have c2 : w2.cell? ⟨wr.heap.size, 2, none⟩ = some (.int .i64 x.no) := by rw [hc _ _ (by simp)]; simp [go_sem]
          have c3 : w2.cell? ⟨wr.heap.size, 3, none⟩ = some (.int .i64 x.k) := by rw [hc _ _ (by simp)]; simp [go_sem]
          have c4 : w2.cell? ⟨wr.heap.size, 4, none⟩ = some (.int .i64 x.inn) := by rw [hc _ _ (by simp)]; simp [go_sem]
          have c5 : w2.cell? ⟨wr.heap.size, 5, none⟩ = some (.int .i64 x.out) := by rw [hc _ _ (by simp)]; simp [go_sem]
          have c6 : w2.cell? ⟨wr.heap.size, 6, none⟩ = some (.int .i64 x.gone) := by rw [hc _ _ (by simp)]; simp [go_sem]
          clear hc hb HA HB HJ h0 h1 h2 h3 h4 h5 h6 hcall
          cases hp : p x
          · have HN2 : Hid _ := HJ2.out.keep HN.out hjl (by rw [← HX.out]; exact hp) x HX.out.symm
            have hin : (i : Int) < (n : Int) := by omega
            have hLn : L.length = n := by rw [HJ2.out.len, HN.out]
            obtain ⟨⟨u0, e0⟩, f0⟩ := own_spot7 HJ2.out.own hLn (j := i * 7) (by omega)
            obtain ⟨⟨u1, e1⟩, f1⟩ := own_spot7 HJ2.out.own hLn (j := i * 7 + 1) (by omega)
            obtain ⟨⟨u2, e2⟩, f2⟩ := own_spot7 HJ2.out.own hLn (j := i * 7 + 2) (by omega)
            obtain ⟨⟨u3, e3⟩, f3⟩ := own_spot7 HJ2.out.own hLn (j := i * 7 + 3) (by omega)
            obtain ⟨⟨u4, e4⟩, f4⟩ := own_spot7 HJ2.out.own hLn (j := i * 7 + 4) (by omega)
            obtain ⟨⟨u5, e5⟩, f5⟩ := own_spot7 HJ2.out.own hLn (j := i * 7 + 5) (by omega)
            obtain ⟨⟨u6, e6⟩, f6⟩ := own_spot7 HJ2.out.own hLn (j := i * 7 + 6) (by omega)
            obtain ⟨xc, xb, xn, xk, xi, xo, xg⟩ := x
            simp only at c0 c1 c2 c3 c4 c5 c6 HN2
            clear hLn HX HJ2
            go_wp2
            go_roundw
            case rel => exact ⟨i + 1, j + 1, _, by omega, by go_num, by go_num, HN2⟩
            case measure => simp [intOf]; omega
          · have HN2 : Hid _ := HJ2.out.skip hjl (by rw [← HX.out]; exact hp)
            clear c0 c1 c2 c3 c4 c5 c6 HX HJ2
            go_wp2
            go_roundw
            case rel => exact ⟨i, j + 1, L, by omega, rfl, by go_num, HN2⟩
            case measure => simp [intOf]; omega
        · obtain rfl : j = n := by omega
          have HE : Hid _ := HJ.out.fin HN.out (Builtin.zeroCells zeroCh.cells (j - i)).toList
          have hcl := run_clear_end HJ.out.own (by rw [HJ.out.len, HN.out]) hij
          have hcap : j ≤ cap := by
            obtain ⟨a', c', e', hc'⟩ := HJ.out.own.lst.len
            rw [HJ.out.len, HN.out] at e' hc'
            simp only [Value.slice.injEq] at e'
            omega
          have hne : ¬ cap = i := by omega
          clear HJ hcall
          go_wp2
          go_ret
          exact ⟨_, rfl, HE.out⟩
    · have HI : Hid _ := hI
      have HE : Hid (l = l.filter fun x => !p x) := del_none (by rw [HN.out]; exact hno)
      clear H1 hno hI hcall
      go_wp2
      go_ret
      exact ⟨_, rfl, by rw [← HE.out]; exact HO.out.below HI.out, HI.out.mono hs⟩

theorem callOf1 : ∀ args w, Sem.run Tryz.prog (callFunc 70 args) w = .ok (.enter 70 args) w := fun _ _ => by kernel_rfl

theorem of1_looks (least : Int) (B base : Nat) (hB : B < base) : Looks 70 #[.pointer (some ⟨B, 0, none⟩)] (doneB least) base (NBox least B) :=
  ⟨callOf1, fun x w h => of1_any x least B w h.at_, fun _ _ h hb => h.low hB hb⟩

set_option maxRecDepth 20000 in
set_option maxHeartbeats 400000 in
theorem of_lst {w : World} {v : Value} {l : List Ch} (least : Int) (h : Lst w v l) (hl : l.length ≤ 1000) :
    Calls Tryz.prog 16 #[v, .int .i64 least] w fun e w' => ∃ v', e = .returned v' ∧ Own w' w.heap.size v' (ofL least l) ∧ Below w.heap.size w w' := by
  have HL : Hid (Lst (w.alloc (.cells #[.int .i64 least] 3)) v l) := h.below (below1 _ _)
  have HB : Hid (Below w.heap.size w (w.alloc (.cells #[.int .i64 least] 3))) := below1 _ _
  have HN : Hid (NBox least w.heap.size (w.alloc (.cells #[.int .i64 least] 3))) := ⟨by simp, by simp [go_sem]⟩
  have hmf : ∀ (fn : Fn) (first cap : Array Value) (w : World), (Instr.makeFunc fn first cap).run Tryz.prog w = .ok (.func fn first cap) w := fun _ _ _ _ => rfl
  clear h
  go_enter Tryz.func16, Tryz.ntmps16
  go_wp2_with fail
  refine (clone_lst HL.out (by omega)).mono ?_
  rintro e w1 ⟨v1, rfl, ho, hb⟩
  have HO : Hid _ := ho
  have HN1 : Hid (NBox least w.heap.size w1) := HN.out.low HN.out.lt hb
  have HB1 : Hid (Below (w.heap.size + 1) (w.alloc (.cells #[.int .i64 least] 3)) w1) := (show Below (w.heap.size + 1) _ w1 by simpa using hb)
  have hs : (w.alloc (.cells #[.int .i64 least] 3)).heap.size ≤ w1.heap.size := hb.size
  clear ho hb HN HL
  go_wp2_with fail
  refine (deleteFunc_own (of1_looks least w.heap.size _ (by simp)) HO.out hs hl HN1.out).mono ?_
  rintro e w2 ⟨v2, rfl, ho, hb⟩
  have HO2 : Hid (Own w2 w.heap.size v2 (ofL least l)) := ho.mono (by simp)
  have HB2 : Hid (Below w.heap.size w w2) := (HB.out.trans (HB1.out.mono (by simp))).trans (hb.mono (by simp))
  clear ho hb hs HO HN1 HB HB1
  go_wp2
  go_ret
  exact ⟨_, rfl, HO2.out, HB2.out⟩

end Go.Proofs.YtfpemdbiplfkgacGreat

/-
  What is kept of an open deed, asked: the contracts of tookAway, and of the searches over bytes and over open deeds.
-/
namespace Go.Proofs.YtfpemdbiplfkgacGreat
open Go.RowKit

theorem any_hit {p : Ch → Bool} {l : List Ch} {k : Nat} (hk : k < l.length) (h : hitP p l k = true) : l.any p = true := by
  rw [hitP_at hk] at h
  exact List.any_eq_true.2 ⟨l[k], List.getElem_mem hk, h⟩
theorem any_none {p : Ch → Bool} {l : List Ch} (h : ∀ j, j < l.length → hitP p l j = false) : l.any p = false := by
  rw [List.any_eq_false]
  intro x hx
  obtain ⟨j, hj, rfl⟩ := List.mem_iff_getElem.1 hx
  have := h j hj
  rw [hitP_at hj] at this
  rw [this]; simp

set_option maxRecDepth 20000 in
set_option maxHeartbeats 400000 in
theorem contains_lst {F : Nat} {caps : Array Value} {p : Ch → Bool} {base : Nat} {K : World → Prop} (hF : Looks F caps p base K) {w : World} {v : Value} {l : List Ch} (h : Lst w v l) (hs : base ≤ w.heap.size) (hl : l.length ≤ 1000) (hK : K w) :
    Calls Tryz.prog 99 #[v, .func (Fn.func F) #[] caps] w fun e w' => e = .returned (.bool (l.any p)) ∧ Below w.heap.size w w' := by
  have HF : Hid (Looks F caps p base K) := hF
  have HK : Hid (K w) := hK
  have hcall := hF.call
  obtain ⟨a, cap, rfl, _⟩ := h.len
  by_cases h0 : l.length = 0
  · obtain rfl : l = [] := List.length_eq_zero_iff.1 h0
    clear hF hK h0 h
    go_enter Tryz.func99, Tryz.ntmps99
    go_wp2_with fail
    refine (indexFunc_empty a cap _ w).mono ?_
    rintro e w1 ⟨rfl, hb⟩
    have HB : Hid _ := hb
    clear hb hcall
    go_wp2
    go_ret
    exact ⟨rfl, HB.out⟩
  · obtain ⟨b, off, rfl, _, hr⟩ := h.row (by omega)
    have HR : Hid (Row w b off l) := hr
    generalize hn : l.length = n at *
    have HN : Hid (l.length = n) := hn
    clear hF hK hr hn h
    go_enter Tryz.func99, Tryz.ntmps99
    go_wp2_with fail
    refine (indexFunc_some F caps b off n cap l _ _ w HN.out (by omega) hcall (looks_step HF.out hs HR.out HK.out) (Below.refl _ _)).mono ?_
    intro e w1 hres
    have H1 : Hid _ := hres
    clear hres
    rcases H1.out with ⟨k, hk, hno, hyes, rfl, hI⟩ | ⟨hno, rfl, hI⟩
    · have HI : Hid _ := hI
      have HE : Hid (l.any p = true) := any_hit (by rw [HN.out]; exact hk) hyes
      clear H1 hno hyes hI hcall
      go_wp2
      go_ret
      exact ⟨ret_b HE.out.symm, HI.out⟩
    · have HI : Hid _ := hI
      have HE : Hid (l.any p = false) := any_none (by rw [HN.out]; exact hno)
      clear H1 hno hI hcall
      go_wp2
      go_ret
      exact ⟨ret_b HE.out.symm, HI.out⟩

/-! A byte in a box. -/

structure CBox (x : Ch) (B : Nat) (w : World) : Prop where
  lt : B < w.heap.size
  at_ : At w B 0 x

theorem CBox.low {w w' : World} {x : Ch} {B base : Nat} (h : CBox x B w) (hB : B < base) (hb : Below base w w') : CBox x B w' := by
  refine ⟨Nat.lt_of_lt_of_le h.lt hb.size, ?_⟩
  have hx := h.at_
  have hc : ∀ o, w'.cell? ⟨B, o, none⟩ = w.cell? ⟨B, o, none⟩ := fun o => hb.cell (p := ⟨B, o, none⟩) hB
  unfold At at hx ⊢
  simp only [hc]
  exact hx

def hitOne (x y : Ch) : Bool := decide (y.inn = x.inn) && sameB y x

set_option maxRecDepth 20000 in
set_option maxHeartbeats 400000 in
theorem took1_any (x y : Ch) (B : Nat) (w : World) (h : CBox x B w) :
    Calls Tryz.prog 112 (#[chV y] ++ #[.pointer (some ⟨B, 0, none⟩)]) w fun e w' => e = .returned (.bool (hitOne x y)) ∧ Below w.heap.size w w' := by
  have hs := h.lt
  have ha : ∀ o j v, w.cell? ⟨B, j, none⟩ = some v → (w.alloc o).cell? ⟨B, j, none⟩ = some v := fun o j v hv => by
    rw [World.cell?_alloc_past _ _ _ (show B < w.heap.size by omega)]; exact hv
  obtain ⟨a0, a1, a2, a3, a4, a5, a6⟩ := h.at_
  have c0 := fun o => ha o _ _ a0
  have c1 := fun o => ha o _ _ a1
  have c2 := fun o => ha o _ _ a2
  have c3 := fun o => ha o _ _ a3
  have c4 := fun o => ha o _ _ a4
  have c5 := fun o => ha o _ _ a5
  have c6 := fun o => ha o _ _ a6
  simp only [Nat.zero_add] at c1 c2 c3 c4 c5 c6
  clear h ha a0 a1 a2 a3 a4 a5 a6
  cases he : (y.inn == x.inn)
  · have HE : Hid (hitOne x y = false) := by
      show hitOne x y = false
      rw [hitOne, decide_eq_false (by simpa using he)]; rfl
    obtain ⟨yc, yb, yn, yk, yi, yo, yg⟩ := y
    simp only at he
    go_enter Tryz.func112, Tryz.ntmps112
    go_wp2
    go_ret
    exact ⟨ret_b HE.out.symm, below1 _ _⟩
  · have HE : Hid (hitOne x y = sameB y x) := by
      show hitOne x y = _
      rw [hitOne, decide_eq_true (by simpa using he)]; rfl
    have HB : Hid (Below w.heap.size w (w.alloc (.cells #[.int .u8 y.c, .int .i64 y.by_, .int .i64 y.no, .int .i64 y.k, .int .i64 y.inn, .int .i64 y.out, .int .i64 y.gone] 71))) := below1 _ _
    obtain ⟨yc, yb, yn, yk, yi, yo, yg⟩ := y
    simp only at he
    go_enter Tryz.func112, Tryz.ntmps112
    go_wp2_with fail
    refine (same_any ⟨yc, yb, yn, yk, yi, yo, yg⟩ x _).mono ?_
    rintro e w1 ⟨rfl, hb⟩
    have HB1 : Hid (Below w.heap.size w w1) := below_after HB.out hb
    clear hb HB c0 c1 c2 c3 c4 c5 c6
    go_wp2
    go_ret
    exact ⟨ret_b HE.out.symm, HB1.out⟩

theorem callTook1 : ∀ args w, Sem.run Tryz.prog (callFunc 112 args) w = .ok (.enter 112 args) w := fun _ _ => by kernel_rfl
theorem took1_looks (x : Ch) (B base : Nat) (hB : B < base) : Looks 112 #[.pointer (some ⟨B, 0, none⟩)] (hitOne x) base (CBox x B) :=
  ⟨callTook1, fun y w h => took1_any x y B w h, fun _ _ h hb => h.low hB hb⟩

abbrev ooV (d : Dd) (tv : Value) : Value := .agg #[.int .i64 d.kind, .int .i64 d.by_, .int .i64 d.no, .int .i64 d.seen, .int .i64 d.at_, .int .i64 d.many, .string d.text, tv]
abbrev ooObj (d : Dd) (tv : Value) : Obj := .cells #[.int .i64 d.kind, .int .i64 d.by_, .int .i64 d.no, .int .i64 d.seen, .int .i64 d.at_, .int .i64 d.many, .string d.text, tv] 117
abbrev chObj (x : Ch) : Obj := .cells #[.int .u8 x.c, .int .i64 x.by_, .int .i64 x.no, .int .i64 x.k, .int .i64 x.inn, .int .i64 x.out, .int .i64 x.gone] 71

theorem hit_any (t : List Ch) (x : Ch) : t.any (hitOne x) = hitB t x := rfl

set_option maxRecDepth 20000 in
set_option maxHeartbeats 400000 in
theorem took_any {w : World} {tv : Value} {t : List Ch} (h : Lst w tv t) (hl : t.length ≤ 1000) (d : Dd) (x : Ch) :
    Calls Tryz.prog 68 #[ooV d tv, chV x] w fun e w' => e = .returned (.bool (hitB t x)) ∧ Below w.heap.size w w' := by
  have HB : Hid (Below w.heap.size w ((w.alloc (ooObj d tv)).alloc (chObj x))) := below2 _ _ _
  have HL : Hid (Lst ((w.alloc (ooObj d tv)).alloc (chObj x)) tv t) := h.below HB.out
  have HC : Hid (CBox x (w.heap.size + 1) ((w.alloc (ooObj d tv)).alloc (chObj x))) := by
    refine ⟨by simp, ?_, ?_, ?_, ?_, ?_, ?_, ?_⟩ <;> simp [go_sem]
  have hmf : ∀ (fn : Fn) (first cap : Array Value) (w : World), (Instr.makeFunc fn first cap).run Tryz.prog w = .ok (.func fn first cap) w := fun _ _ _ _ => rfl
  obtain ⟨a, cap, rfl, _⟩ := h.len
  clear h
  go_enter Tryz.func68, Tryz.ntmps68
  go_wp2_with fail
  refine (contains_lst (took1_looks x (w.heap.size + 1) (w.heap.size + 2) (by omega)) HL.out (by simp) hl HC.out).mono ?_
  rintro e w1 ⟨rfl, hb⟩
  have HB1 : Hid (Below w.heap.size w w1) := below_after HB.out hb
  clear hb HB HL HC hmf
  go_wp2
  go_ret
  exact ⟨rfl, HB1.out⟩

/-! The search over open deeds, whatever closure is handed to it. -/

structure StepO (F : Nat) (caps : Array Value) (b : Nat) (l : List (Dd × Value)) (I : Nat → World → Prop) (hit : Nat → Bool) : Prop where
  row : ∀ k (h : k < l.length) w, I k w → OoAt w b (k * 8) l[k].1 l[k].2
  step : ∀ k (h : k < l.length) w, I k w → Calls Tryz.prog F (#[ooV l[k].1 l[k].2] ++ caps) w fun e w' => e = .returned (.bool (hit k)) ∧ I (k + 1) w'

set_option maxRecDepth 20000 in
set_option maxHeartbeats 400000 in
theorem indexO_some (F : Nat) (caps : Array Value) (b len cap : Nat) (l : List (Dd × Value)) (I : Nat → World → Prop) (hit : Nat → Bool) (w : World) (hl : l.length = len) (hm : len ≤ 281474976710656)
    (hcall : ∀ args w, Sem.run Tryz.prog (callFunc F args) w = .ok (.enter F args) w) (hS : StepO F caps b l I hit) (h0 : I 0 w) :
    Calls Tryz.prog 111 #[.slice (some ⟨b, 0, none⟩) len cap, .func (Fn.func F) #[] caps] w fun e w' =>
      (∃ k, k < len ∧ (∀ j, j < k → hit j = false) ∧ hit k = true ∧ e = .returned (.int .i64 k) ∧ I (k + 1) w') ∨ ((∀ j, j < len → hit j = false) ∧ e = .returned (.int .i64 (-1)) ∧ I len w') := by
  have HL : Hid (l.length = len) := hl
  have HI : Hid (I 0 w) := h0
  clear hl h0
  go_enter Tryz.func111, Tryz.ntmps111
  go_wp2
  go_loopw [8] (fun i wr => ∃ k : Nat, k ≤ len ∧ i = .int .i64 k ∧ (∀ j, j < k → hit j = false) ∧ Hid (I k wr)) (fun i _ => len - (intOf i).toNat)
  case atStart => exact ⟨0, Nat.zero_le _, rfl, fun j hj => absurd hj (Nat.not_lt_zero _), HI⟩
  case round =>
    obtain ⟨k, hk, rfl, hno, hik⟩ := hrel
    have HNO : Hid (∀ j, j < k → hit j = false) := hno
    clear hno
    by_cases hlt : k < len
    · have hkl : k < l.length := by rw [HL.out]; exact hlt
      obtain ⟨⟨_, h0, h1, h2, h3, h4, h5, h6⟩, h7⟩ := hS.row k hkl wr hik.out
      have HST' : Hid (Calls Tryz.prog F (#[ooV l[k].1 l[k].2] ++ caps) wr fun e w' => e = .returned (.bool (hit k)) ∧ I (k + 1) w') := hS.step k hkl wr hik.out
      generalize l[k] = x at h0 h1 h2 h3 h4 h5 h6 h7 HST'
      obtain ⟨⟨kind, by_, no, seen, at_, many, text⟩, tv⟩ := x
      simp only at h0 h1 h2 h3 h4 h5 h6 h7
      go_wp2_with fail
      refine HST'.out.mono ?_
      rintro e w1 ⟨rfl, hi1⟩
      have HI1 : Hid (I (k + 1) w1) := hi1
      clear hi1 hik h0 h1 h2 h3 h4 h5 h6 h7 HST' hcall hS
      cases hh : hit k
      · go_wp2
        go_roundw
        case rel => exact ⟨k + 1, by omega, by go_num, no_step hit k HNO.out hh, HI1⟩
        case measure => simp [intOf]; omega
      · go_wp2
        go_ret
        exact .inl ⟨k, hlt, HNO.out, hh, rfl, HI1.out⟩
    · obtain rfl : k = len := by omega
      clear hS hcall
      go_wp2
      go_ret
      exact .inr ⟨HNO.out, rfl, hik.out⟩

theorem indexO_empty (a : Option Addr) (cap : Nat) (f : Value) (w : World) :
    Calls Tryz.prog 111 #[.slice a 0 cap, f] w fun e w' => e = .returned (.int .i64 (-1)) ∧ Below w.heap.size w w' := by
  go_enter Tryz.func111, Tryz.ntmps111
  go_wp2
  refine wp_loop_rounds 1 ?_
  rw [rounds_succ]
  go_wp2
  go_ret
  exact ⟨rfl, Below.refl _ _⟩

/-- Which of the open deeds took the byte: any. -/
def anyTook (ts : List (List Ch)) (x : Ch) : Bool := ts.any fun t => hitB t x

structure TOpen (w : World) (base : Nat) (ov : Value) (tvs : List Value) (es : List Dd) (ts : List (List Ch)) : Prop where
  own : OwnO w base ov (es.zip tvs)
  len : tvs.length = es.length
  tooks : Tooks w base tvs ts

theorem TOpen.below {w w' : World} {base : Nat} {ov : Value} {tvs : List Value} {es : List Dd} {ts : List (List Ch)} (h : TOpen w base ov tvs es ts) (hb : Below w.heap.size w w') : TOpen w' base ov tvs es ts :=
  ⟨h.own.below hb, h.len, h.tooks.of_block (fun v hv k e => hb.block k (h.tooks.lt v hv k e).2)⟩

theorem PwAt.topen {w : World} {base P : Nat} {S : Nat → Prop} {lv ov : Value} {tvs : List Value} {l : List Ch} {es : List Dd} {ts : List (List Ch)} {me next seen sent : Int} (h : PwAt w base S P lv ov tvs l es ts me next seen sent) : TOpen w base ov tvs es ts := ⟨h.ownO, h.len, h.tooks⟩

theorem zip_len {es : List Dd} {tvs : List Value} (h : tvs.length = es.length) : (es.zip tvs).length = es.length := by
  rw [List.length_zip]; omega

theorem TOpen.nth {w : World} {base g n cap : Nat} {tvs : List Value} {es : List Dd} {ts : List (List Ch)} (h : TOpen w base (.slice (some ⟨g, 0, none⟩) n cap) tvs es ts) (hn : es.length = n) {i : Nat} (hi : i < es.length) (hv : i < tvs.length) : OoAt w g (i * 8) es[i] tvs[i] := by
  have hzl := zip_len h.len
  have := OwnO.nth h.own (by rw [hzl, hn]) (i := i) (by omega)
  rw [List.getElem_zip] at this
  exact this
theorem TOpen.place {w : World} {base : Nat} {ov : Value} {tvs : List Value} {es : List Dd} {ts : List (List Ch)} (h : TOpen w base ov tvs es ts) (hk : 0 < es.length) : ∃ g cap, ov = .slice (some ⟨g, 0, none⟩) es.length cap := by
  have hzl := zip_len h.len
  obtain ⟨g, cap, e⟩ := h.own.place (by omega)
  exact ⟨g, cap, by rw [e, hzl]⟩
theorem TOpen.form {w : World} {base : Nat} {ov : Value} {tvs : List Value} {es : List Dd} {ts : List (List Ch)} (h : TOpen w base ov tvs es ts) : ∃ a cap, ov = .slice a es.length cap := by
  have hzl := zip_len h.len
  obtain ⟨a, cap, e⟩ := h.own.len
  exact ⟨a, cap, by rw [e, hzl]⟩

set_option maxRecDepth 20000 in
set_option maxHeartbeats 400000 in
theorem known1_any {w : World} {tv : Value} {t : List Ch} (h : Lst w tv t) (hl : t.length ≤ 1000) (d : Dd) (x : Ch) (B : Nat) (hx : CBox x B w) :
    Calls Tryz.prog 67 (#[ooV d tv] ++ #[.pointer (some ⟨B, 0, none⟩)]) w fun e w' => e = .returned (.bool (hitB t x)) ∧ Below w.heap.size w w' := by
  have HB : Hid (Below w.heap.size w (w.alloc (ooObj d tv))) := below1 _ _
  have HL : Hid (Lst (w.alloc (ooObj d tv)) tv t) := h.below HB.out
  have hs := hx.lt
  have ha : ∀ o j v, w.cell? ⟨B, j, none⟩ = some v → (w.alloc o).cell? ⟨B, j, none⟩ = some v := fun o j v hv => by
    rw [World.cell?_alloc_past _ _ _ (show B < w.heap.size by omega)]; exact hv
  obtain ⟨a0, a1, a2, a3, a4, a5, a6⟩ := hx.at_
  have c0 := fun o => ha o _ _ a0
  have c1 := fun o => ha o _ _ a1
  have c2 := fun o => ha o _ _ a2
  have c3 := fun o => ha o _ _ a3
  have c4 := fun o => ha o _ _ a4
  have c5 := fun o => ha o _ _ a5
  have c6 := fun o => ha o _ _ a6
  simp only [Nat.zero_add] at c1 c2 c3 c4 c5 c6
  obtain ⟨a, cap, rfl, _⟩ := h.len
  clear h ha a0 a1 a2 a3 a4 a5 a6 hx
  go_enter Tryz.func67, Tryz.ntmps67
  go_wp2_with fail
  refine (took_any HL.out hl d x).mono ?_
  rintro e w1 ⟨rfl, hb⟩
  have HB1 : Hid (Below w.heap.size w w1) := below_after HB.out hb
  clear hb HB HL c0 c1 c2 c3 c4 c5 c6
  go_wp2
  go_ret
  exact ⟨rfl, HB1.out⟩

theorem callKnown1 : ∀ args w, Sem.run Tryz.prog (callFunc 67 args) w = .ok (.enter 67 args) w := fun _ _ => by kernel_rfl

def hitT (ts : List (List Ch)) (x : Ch) (k : Nat) : Bool := match ts[k]? with
  | some t => hitB t x
  | none => false

theorem anyT_hit {ts : List (List Ch)} {x : Ch} {k : Nat} (h : hitT ts x k = true) : anyTook ts x = true := by
  unfold hitT at h
  cases hk : ts[k]? with
  | none => rw [hk] at h; cases h
  | some t => rw [hk] at h; exact List.any_eq_true.2 ⟨t, List.mem_of_getElem? hk, h⟩
theorem anyT_none {ts : List (List Ch)} {x : Ch} (h : ∀ j, j < ts.length → hitT ts x j = false) : anyTook ts x = false := by
  unfold anyTook
  rw [List.any_eq_false]
  intro t ht
  obtain ⟨j, hj, rfl⟩ := List.mem_iff_getElem.1 ht
  have := h j hj
  unfold hitT at this
  rw [List.getElem?_eq_getElem hj] at this
  simpa using this

theorem known1_step {w : World} {base g n cap : Nat} {tvs : List Value} {es : List Dd} {ts : List (List Ch)} (h : TOpen w base (.slice (some ⟨g, 0, none⟩) n cap) tvs es ts) (hn : es.length = n) (hl : ∀ t ∈ ts, t.length ≤ 1000) (x : Ch) (B : Nat) (hx : CBox x B w) :
    StepO 67 #[.pointer (some ⟨B, 0, none⟩)] g (es.zip tvs) (fun _ w' => Below w.heap.size w w') (hitT ts x) := by
  have hzl := zip_len h.len
  refine ⟨fun k hk w' hw => (h.below hw).own.nth (by rw [hzl, hn]) hk, fun k hk w' hw => ?_⟩
  have h' := h.below hw
  have hkv : k < tvs.length := by rw [h.len]; omega
  have hkt : k < ts.length := by rw [← h.tooks.len]; exact hkv
  have ht := h'.tooks.nth k hkv hkt
  have e2 : (es.zip tvs)[k].2 = tvs[k] := by rw [List.getElem_zip]
  rw [← e2] at ht
  refine (known1_any ht.lst (hl _ (List.getElem_mem hkt)) _ x B (hx.low hx.lt hw)).mono ?_
  rintro e w2 ⟨rfl, hb2⟩
  refine ⟨ret_b ?_, below_after hw hb2⟩
  unfold hitT
  rw [List.getElem?_eq_getElem hkt]

set_option maxRecDepth 20000 in
set_option maxHeartbeats 400000 in
theorem containsO_any {w : World} {base : Nat} {ov : Value} {tvs : List Value} {es : List Dd} {ts : List (List Ch)} (h : TOpen w base ov tvs es ts) (hm : es.length ≤ 1000) (hl : ∀ t ∈ ts, t.length ≤ 1000) (x : Ch) (B : Nat) (hx : CBox x B w) :
    Calls Tryz.prog 66 #[ov, .func (Fn.func 67) #[] #[.pointer (some ⟨B, 0, none⟩)]] w fun e w' => e = .returned (.bool (anyTook ts x)) ∧ Below w.heap.size w w' := by
  have hzl := zip_len h.len
  have htl := h.tooks.len
  have hle := h.len
  have hcall := callKnown1
  by_cases h0 : es.length = 0
  · obtain ⟨a, cap, hov⟩ := h.own.len
    rw [hzl, h0] at hov
    subst hov
    have HE : Hid (anyTook ts x = false) := anyT_none (fun j hj => by omega)
    clear h hx hl
    go_enter Tryz.func66, Tryz.ntmps66
    go_wp2_with fail
    refine (indexO_empty a cap _ w).mono ?_
    rintro e w1 ⟨rfl, hb⟩
    have HB : Hid _ := hb
    clear hb hcall
    go_wp2
    go_ret
    exact ⟨ret_b HE.out.symm, HB.out⟩
  · obtain ⟨g, cap, hov⟩ := h.own.place (by omega)
    rw [hzl] at hov
    subst hov
    have HS : Hid _ := known1_step h rfl hl x B hx
    generalize hn : es.length = n at *
    clear h hx hl
    go_enter Tryz.func66, Tryz.ntmps66
    go_wp2_with fail
    refine (indexO_some 67 #[.pointer (some ⟨B, 0, none⟩)] g n cap (es.zip tvs) _ _ w hzl (by omega) hcall HS.out (Below.refl _ _)).mono ?_
    intro e w1 hres
    have H1 : Hid _ := hres
    clear hres
    rcases H1.out with ⟨k, hk, hno, hyes, rfl, hI⟩ | ⟨hno, rfl, hI⟩
    · have HI : Hid _ := hI
      have HE : Hid (anyTook ts x = true) := anyT_hit hyes
      clear H1 hno hyes hI hcall HS
      go_wp2
      go_ret
      exact ⟨ret_b HE.out.symm, HI.out⟩
    · have HI : Hid _ := hI
      have HE : Hid (anyTook ts x = false) := anyT_none (fun j hj => hno j (by omega))
      clear H1 hno hI hcall HS
      go_wp2
      go_ret
      exact ⟨ret_b HE.out.symm, HI.out⟩

end Go.Proofs.YtfpemdbiplfkgacGreat
