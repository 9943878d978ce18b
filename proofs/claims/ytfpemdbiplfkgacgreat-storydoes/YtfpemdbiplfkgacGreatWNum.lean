/-
  The contracts of isOpen and number: bytes of what has no number get theirs, in place.
-/
import Derived.Test.YtfpemdbiplfkgacGreatWHit
namespace Go.Proofs.YtfpemdbiplfkgacGreat
open Go.RowKit

/-- The first k have turned. -/
def mixF {α : Type} (f : α → α) (k : Nat) (l : List α) : List α := (l.take k).map f ++ l.drop k
theorem mixF_zero {α : Type} (f : α → α) (l : List α) : mixF f 0 l = l := rfl
theorem mixF_all {α : Type} (f : α → α) (l : List α) : mixF f l.length l = l.map f := by rw [mixF, List.take_length, List.drop_length, List.append_nil]
theorem mixF_len {α : Type} (f : α → α) (k : Nat) (l : List α) : (mixF f k l).length = l.length := by
  rw [mixF, List.length_append, List.length_map, ← List.length_append, List.take_append_drop]
theorem mixF_succ {α : Type} (f : α → α) {k : Nat} {l : List α} (h : k < l.length) : mixF f (k + 1) l = (l.take k).map f ++ f l[k] :: l.drop (k + 1) := by
  rw [mixF, List.take_succ_eq_append_getElem h, List.map_append, List.append_assoc]; rfl
theorem mixF_at {α : Type} (f : α → α) {k : Nat} {l : List α} (h : k < l.length) : mixF f k l = (l.take k).map f ++ l[k] :: l.drop (k + 1) := by
  rw [mixF, List.drop_eq_getElem_cons h]
theorem mixF_get {α : Type} (f : α → α) {k : Nat} {l : List α} (h : k < l.length) (h' : k < (mixF f k l).length) : (mixF f k l)[k] = l[k] := by
  have e : ((l.take k).map f).length = k := by rw [List.length_map, List.length_take]; omega
  have h2 : (mixF f k l)[k]? = some l[k] := by
    rw [mixF_at f h, List.getElem?_append_right (by omega), e, Nat.sub_self]; rfl
  rw [List.getElem?_eq_getElem h'] at h2
  exact Option.some.inj h2
theorem mixF_set {α : Type} (f : α → α) {k : Nat} {l : List α} (h : k < l.length) : (mixF f k l).set k (f l[k]) = mixF f (k + 1) l := by
  have e : ((l.take k).map f).length = k := by rw [List.length_map, List.length_take]; omega
  rw [mixF_at f h, mixF_succ f h, List.set_append_right (h := by omega), e, Nat.sub_self, List.set_cons_zero]
theorem mixF_same {α : Type} (f : α → α) {k : Nat} {l : List α} (h : k < l.length) (hf : f l[k] = l[k]) : mixF f (k + 1) l = mixF f k l := by
  rw [mixF_at f h, mixF_succ f h, hf]

theorem isOpen_any (x : Ch) (w : World) :
    Calls Tryz.prog 65 #[chV x] w fun e w' => e = .returned (.bool (decide (x.inn = openN))) ∧ Below w.heap.size w w' := by
  obtain ⟨c, b, no, k, i, o, g⟩ := x
  go_enter Tryz.func65, Tryz.ntmps65
  go_wp2
  go_ret
  refine ⟨ret_b ?_, below1 _ _⟩
  rw [Bool.eq_iff_iff]
  simp

theorem callIsOpen : ∀ args w, Sem.run Tryz.prog (callFunc 65 args) w = .ok (.enter 65 args) w := fun _ _ => by kernel_rfl
theorem isOpen_looks (base : Nat) : Looks 65 #[] (fun x => decide (x.inn = openN)) base (fun _ => True) :=
  ⟨callIsOpen, fun x w _ => isOpen_any x w, fun _ _ _ _ => trivial⟩

theorem DdAt.of_block' {w w' : World} {E : Nat} {d : Dd} (h : DdAt w E 0 d) (hs : E < w'.heap.size) (hb : w'.heap[E]? = w.heap[E]?) : DdAt w' E 0 d := by
  have hc : ∀ o, w'.cell? ⟨E, o, none⟩ = w.cell? ⟨E, o, none⟩ := fun o => World.cell?_of_block (a := ⟨E, o, none⟩) hb
  obtain ⟨_, c0, c1, c2, c3, c4, c5, c6⟩ := h
  exact ⟨hs, by rw [hc]; exact c0, by rw [hc]; exact c1, by rw [hc]; exact c2, by rw [hc]; exact c3, by rw [hc]; exact c4, by rw [hc]; exact c5, by rw [hc]; exact c6⟩

/-- In the middle of number. -/
structure NI (w : World) (base g n cap : Nat) (L : List Ch) (d : Dd) (wk : World) : Prop where
  kept : Kept (fun k => k = g) w wk
  own : Own wk base (.slice (some ⟨g, 0, none⟩) n cap) L
  deed : DdAt wk w.heap.size 0 d
  lt : g < w.heap.size

theorem NI.after {w wk w' : World} {base g n cap : Nat} {L : List Ch} {d : Dd} (h : NI w base g n cap L d wk) (hb : Below wk.heap.size wk w') : NI w base g n cap L d w' :=
  ⟨h.kept.after hb, h.own.below hb, h.deed.below hb, h.lt⟩

theorem NI.put {w wk : World} {base g n cap : Nat} {L : List Ch} {d : Dd} (h : NI w base g n cap L d wk) (hn : L.length = n) {i r : Nat} (hi : i < L.length) (hr : r < 7) {y : Ch} {u : Value} (hy : (chCells L[i]).set r u = chCells y) : NI w base g n cap (L.set i y) d (wk.setCell ⟨g, i * 7 + r, none⟩ u) := by
  refine ⟨h.kept.set (p := ⟨g, _, none⟩) rfl _, own_field h.own hn hi hr hy, h.deed.of_block' (by simpa [World.setCell] using h.deed.lt) (Below.heap_setCell _ _ _ _ (by have := h.lt; show w.heap.size ≠ g; omega)), h.lt⟩

theorem num_yes {no n : Int} {x : Ch} (h : x.inn = openN) (h2 : x.no = no) : numF no n x = ⟨x.c, x.by_, x.no, x.k, n, x.out, x.gone⟩ := by rw [numF, if_pos ⟨h, h2⟩]
theorem num_no {no n : Int} {x : Ch} (h : ¬ (x.inn = openN ∧ x.no = no)) : numF no n x = x := by rw [numF, if_neg h]

theorem number_empty (a : Option Addr) (cap : Nat) (d : Dd) (n : Int) (w : World) :
    Calls Tryz.prog 154 #[.slice a 0 cap, ddV d, .int .i64 n] w fun e w' => e = .returned (.tuple #[]) ∧ Below w.heap.size w w' := by
  go_enter Tryz.func154, Tryz.ntmps154
  go_wp2
  refine wp_loop_rounds 1 ?_
  rw [rounds_succ]
  go_wp2
  go_end0
  exact ⟨rfl, below1 _ _⟩

set_option maxRecDepth 20000 in
set_option maxHeartbeats 800000 in
theorem number_some {w : World} {base g n cap : Nat} {l : List Ch} (h : Own w base (.slice (some ⟨g, 0, none⟩) n cap) l) (hn : l.length = n) (hl : n ≤ 1000) (d : Dd) (m : Int) :
    Calls Tryz.prog 154 #[.slice (some ⟨g, 0, none⟩) n cap, ddV d, .int .i64 m] w fun e w' => e = .returned (.tuple #[]) ∧ Own w' base (.slice (some ⟨g, 0, none⟩) n cap) (l.map (numF d.no m)) ∧ Kept (fun k => k = g) w w' := by
  have hglt : g < w.heap.size := (World.ownsRow.lt h g rfl).2
  have HI : Hid (NI w base g n cap (mixF (numF d.no m) 0 l) d (w.alloc (dObj d))) := ⟨.of_below (below1 _ _), h.below (below1 _ _), ddat_start w d, hglt⟩
  have HN : Hid (l.length = n) := hn
  obtain ⟨kind, by_, no, seen, at_, many, text⟩ := d
  simp only at HI
  clear h hn
  go_enter Tryz.func154, Tryz.ntmps154
  go_wp2
  go_loopw [10] (fun i wr => ∃ k : Nat, k ≤ n ∧ i = .int .i64 k ∧ Hid (NI w base g n cap (mixF (numF no m) k l) ⟨kind, by_, no, seen, at_, many, text⟩ wr)) (fun i _ => n - (intOf i).toNat)
  case atStart => exact ⟨0, Nat.zero_le _, rfl, HI⟩
  case round =>
    obtain ⟨k, hk, rfl, HK⟩ := hrel
    clear HI
    by_cases hlt : k < n
    · have hkl : k < l.length := by rw [HN.out]; exact hlt
      have hml : (mixF (numF no m) k l).length = n := by rw [mixF_len, HN.out]
      have hkm : k < (mixF (numF no m) k l).length := by rw [hml]; exact hlt
      have hget := mixF_get (numF no m) hkl hkm
      obtain ⟨b', o', e', _, r'⟩ := HK.out.own.lst.row (by omega)
      cases e'
      obtain ⟨h0, h1, h2, h3, h4, h5, h6⟩ := r'.at_ k hkm
      simp only [Nat.zero_add] at h0 h1 h2 h3 h4 h5 h6
      rw [hget] at h0 h1 h2 h3 h4 h5 h6
      obtain ⟨x, hx⟩ : ∃ x, x = l[k] := ⟨_, rfl⟩
      rw [← hx] at h0 h1 h2 h3 h4 h5 h6
      have HX : Hid (x = l[k]) := hx
      have HG : Hid ((mixF (numF no m) k l)[k] = l[k]) := hget
      clear r' hx hget
      have HA : Hid (Below wr.heap.size wr (wr.alloc (chObj x))) := below1 _ _
      obtain ⟨xc, xb, xn, xk, xi, xo, xg⟩ := x
      simp only at h0 h1 h2 h3 h4 h5 h6
      go_wp2_with fail
      refine (isOpen_any ⟨xc, xb, xn, xk, xi, xo, xg⟩ _).mono ?_
      rintro e w1 ⟨rfl, hb⟩
      have HK1 : Hid _ := HK.out.after (below_after HA.out hb)
      have hC : wr.heap.size < w1.heap.size := by have := hb.size; simp at this; omega
      obtain ⟨hc, _⟩ := bcell hb
      have c2 : w1.cell? ⟨wr.heap.size, 2, none⟩ = some (.int .i64 xn) := by rw [hc _ _ (by simp)]; simp [go_sem]
      obtain ⟨_, _, _, d2, _, _, _, _⟩ := HK1.out.deed
      simp only [Nat.zero_add] at d2
      obtain ⟨⟨u4, e4⟩, f4⟩ := own_spot7 HK1.out.own hml (j := k * 7 + 4) (by omega)
      clear hc hb HA HK h0 h1 h2 h3 h4 h5 h6
      by_cases ho : xi = openN
      · have ho' : decide (xi = openN) = true := decide_eq_true ho
        by_cases hno : xn = no
        · have hno' : (xn == no) = true := by simp [hno]
          have HN2 : Hid (NI w base g n cap (mixF (numF no m) (k + 1) l) ⟨kind, by_, no, seen, at_, many, text⟩ (w1.setCell ⟨g, k * 7 + 4, none⟩ (.int .i64 m))) := by
            have := HK1.out.put hml (i := k) (r := 4) (y := numF no m l[k]) (u := .int .i64 m) (by rw [hml]; exact hlt) (by omega) (by rw [HG.out, ← HX.out, num_yes ho hno]; rfl)
            rw [mixF_set _ hkl] at this
            exact this
          clear ho hno HK1 HG HX
          rw [ho']
          go_wp2
          go_roundw
          case rel => exact ⟨k + 1, by omega, by go_num, HN2⟩
          case measure => simp [intOf]; omega
        · have hno' : (xn == no) = false := by simp [hno]
          have HN2 : Hid (NI w base g n cap (mixF (numF no m) (k + 1) l) ⟨kind, by_, no, seen, at_, many, text⟩ w1) := by
            rw [mixF_same _ hkl (by rw [← HX.out]; exact num_no (fun e => hno e.2))]
            exact HK1
          clear ho hno HK1 HG HX
          rw [ho']
          go_wp2
          go_roundw
          case rel => exact ⟨k + 1, by omega, by go_num, HN2⟩
          case measure => simp [intOf]; omega
      · have ho' : decide (xi = openN) = false := decide_eq_false ho
        have HN2 : Hid (NI w base g n cap (mixF (numF no m) (k + 1) l) ⟨kind, by_, no, seen, at_, many, text⟩ w1) := by
          rw [mixF_same _ hkl (by rw [← HX.out]; exact num_no (fun e => ho e.1))]
          exact HK1
        clear ho HK1 HG HX
        rw [ho']
        go_wp2
        go_roundw
        case rel => exact ⟨k + 1, by omega, by go_num, HN2⟩
        case measure => simp [intOf]; omega
    · obtain rfl : k = n := by omega
      have HE : Hid (mixF (numF no m) k l = l.map (numF no m)) := by show _ = _; rw [← HN.out, mixF_all]
      go_wp2
      go_end0
      exact ⟨rfl, by rw [← HE.out]; exact HK.out.own, HK.out.kept⟩

theorem number_own {w : World} {base : Nat} {v : Value} {l : List Ch} (h : Own w base v l) (hl : l.length ≤ 1000) (d : Dd) (m : Int) :
    Calls Tryz.prog 154 #[v, ddV d, .int .i64 m] w fun e w' => e = .returned (.tuple #[]) ∧ Own w' base v (l.map (numF d.no m)) ∧ Kept (fun k => v.ownBlock = some k) w w' := by
  by_cases h0 : l.length = 0
  · obtain rfl : l = [] := List.length_eq_zero_iff.1 h0
    obtain ⟨a, cap, rfl, _⟩ := h.lst.len
    refine (number_empty a cap d m w).mono ?_
    rintro e w1 ⟨rfl, hb⟩
    exact ⟨rfl, h.below hb, .of_below hb⟩
  · obtain ⟨g, cap, rfl⟩ := own_place h (by omega)
    refine (number_some h rfl hl d m).mono ?_
    rintro e w1 ⟨rfl, ho, hk⟩
    exact ⟨rfl, ho, ⟨hk.os, hk.tape, hk.output, hk.size, fun k hk' hn => hk.block k hk' (fun e => hn (by rw [e]; rfl))⟩⟩

end Go.Proofs.YtfpemdbiplfkgacGreat
