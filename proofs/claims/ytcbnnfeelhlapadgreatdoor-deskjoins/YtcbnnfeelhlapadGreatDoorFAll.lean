/-
  Plain mathematics of fold.take: a list gone through from one place to another is what a deed that takes away makes of it. Cells of a list, one byte of which is set. No walk.
-/
import Derived.Test.YtcbnnfeelhlapadGreatDoorFClone
import Derived.Test.YtcbnnfeelhlapadGreatDoorDLeaf
import Derived.Test.YtcbnnfeelhlapadGreatDoorFTaken
namespace Go.Proofs.YtcbnnfeelhlapadGreatDoor
open Go.RowKit
def mk1 (d : Dd) (number : Int) (p q i : Nat) (x : Ch) : Ch := if p ≤ i ∧ i < q ∧ seesC d.seen d.by_ x = true then mark d.by_ number x else x
def mixL (d : Dd) (number : Int) (p q : Nat) : Nat → List Ch → List Ch
 | _, [] => []
 | i, x :: r => mk1 d number p q i x :: mixL d number p q (i + 1) r
theorem mixL_len (d : Dd) (number : Int) (p q : Nat) : ∀ (i : Nat) (l : List Ch), (mixL d number p q i l).length = l.length
 | _, [] => rfl
 | i, x :: r => by rw [mixL, List.length_cons, mixL_len d number p q (i + 1) r, List.length_cons]
theorem mixL_get (d : Dd) (number : Int) (p q : Nat) : ∀ (i j : Nat) (l : List Ch), (mixL d number p q i l)[j]? = l[j]?.map (mk1 d number p q (i + j))
 | _, _, [] => by simp [mixL]
 | i, 0, x :: r => by simp [mixL]
 | i, j + 1, x :: r => by
  rw [mixL, List.getElem?_cons_succ, mixL_get d number p q (i + 1) j r, List.getElem?_cons_succ, show i + 1 + j = i + (j + 1) by omega]
theorem mixL_none (d : Dd) (number : Int) (p i : Nat) (l : List Ch) : mixL d number p p i l = l := by
 apply List.ext_getElem?
 intro j
 rw [mixL_get]
 cases l[j]? with
 | none => rfl
 | some x =>
  rw [Option.map_some, mk1, if_neg (by omega)]
theorem mixL_set (d : Dd) (number : Int) (p k : Nat) (l : List Ch) (hp : p ≤ k) (hk : k < l.length) (hs : seesC d.seen d.by_ l[k] = true) : (mixL d number p k 0 l).set k (mark d.by_ number l[k]) = mixL d number p (k + 1) 0 l := by
 apply List.ext_getElem?
 intro j
 rw [mixL_get, List.getElem?_set, mixL_len]
 by_cases h : k = j
 ·subst h
  rw [if_pos rfl, if_pos hk, List.getElem?_eq_getElem hk, Option.map_some, mk1, if_pos ⟨by omega, by omega, hs⟩]
 ·rw [if_neg h, mixL_get]
  cases l[j]? with
  | none => rfl
  | some x =>
   rw [Option.map_some, Option.map_some, mk1, mk1]
   congr 1
   by_cases hc : p ≤ 0 + j ∧ 0 + j < k ∧ seesC d.seen d.by_ x = true
   ·rw [if_pos hc, if_pos ⟨hc.1, by omega, hc.2.2⟩]
   ·rw [if_neg hc, if_neg (fun e => hc ⟨e.1, by omega, e.2.2⟩)]
theorem mixL_pass (d : Dd) (number : Int) (p k : Nat) (l : List Ch) (hk : k < l.length) (hs : seesC d.seen d.by_ l[k] = false) : mixL d number p k 0 l = mixL d number p (k + 1) 0 l := by
 apply List.ext_getElem?
 intro j
 rw [mixL_get, mixL_get]
 cases hx : l[j]? with
 | none => rfl
 | some x =>
  rw [Option.map_some, Option.map_some, mk1, mk1]
  congr 1
  by_cases hc : p ≤ 0 + j ∧ 0 + j < k ∧ seesC d.seen d.by_ x = true
  ·rw [if_pos hc, if_pos ⟨hc.1, by omega, hc.2.2⟩]
  ·rw [if_neg hc, if_neg (fun e => ?_)]
   by_cases hj : j = k
   ·subst hj
    rw [List.getElem?_eq_getElem hk] at hx
    obtain rfl := Option.some.inj hx
    rw [hs] at e
    exact absurd e.2.2 (by simp)
   ·exact hc ⟨e.1, by omega, e.2.2⟩
theorem cnt_mono (l : List Ch) (seen by_ : Int) {i j : Nat} (h : i ≤ j) : cnt (l.take i) seen by_ ≤ cnt (l.take j) seen by_ := by
 have e : l.take i = (l.take j).take i := by rw [List.take_take, Nat.min_eq_left h]
 rw [e]
 exact cnt_take_le _ _ _ _
theorem take_mix {d : Dd} {number : Int} {p q : Nat} {l : List Ch} (hp : cnt (l.take p) d.seen d.by_ = d.at_) (hq : cnt (l.take q) d.seen d.by_ = d.at_ + d.many) :
 ∀ (suf pre : List Ch), l = pre ++ suf → takeL d number (cnt pre d.seen d.by_) suf = mixL d number p q pre.length suf
 | [], pre, _ => rfl
 | x :: r, pre, hl => by
  have hpre : l.take pre.length = pre := by rw [hl, List.take_left]
  have hnext : l = (pre ++ [x]) ++ r := by rw [hl]; simp
  have hpre1 : l.take (pre.length + 1) = pre ++ [x] := by
   have h2 : (pre ++ [x]).length = pre.length + 1 := by simp
   rw [hnext, ← h2, List.take_left]
  have ih := take_mix (number := number) hp hq r (pre ++ [x]) hnext
  rw [List.length_append, List.length_singleton] at ih
  rw [mixL, ← ih, takeL, mk1]
  have hsn := cnt_snoc pre x d.seen d.by_
  by_cases hs : seesC d.seen d.by_ x = true
  ·rw [if_pos hs] at hsn ⊢
   rw [hsn]
   congr 1
   have a1 : d.at_ ≤ cnt pre d.seen d.by_ ↔ p ≤ pre.length := by
    constructor
    ·intro h
     by_cases hc : p ≤ pre.length
     ·exact hc
     ·have := cnt_mono l d.seen d.by_ (show pre.length + 1 ≤ p by omega)
      rw [hpre1, hp, hsn] at this
      omega
    ·intro h
     have := cnt_mono l d.seen d.by_ h
     rw [hpre, hp] at this
     exact this
   have a2 : cnt pre d.seen d.by_ < d.at_ + d.many ↔ pre.length < q := by
    constructor
    ·intro h
     by_cases hc : pre.length < q
     ·exact hc
     ·have := cnt_mono l d.seen d.by_ (show q ≤ pre.length by omega)
      rw [hpre, hq] at this
      omega
    ·intro h
     have := cnt_mono l d.seen d.by_ (show pre.length + 1 ≤ q by omega)
     rw [hpre1, hq, hsn] at this
     omega
   by_cases hc : d.at_ ≤ cnt pre d.seen d.by_ ∧ cnt pre d.seen d.by_ < d.at_ + d.many
   ·rw [if_pos hc, if_pos ⟨a1.1 hc.1, a2.1 hc.2, hs⟩]
   ·rw [if_neg hc, if_neg (fun e => hc ⟨a1.2 e.1, a2.2 e.2.1⟩)]
  ·rw [if_neg hs] at hsn ⊢
   rw [hsn, Int.add_zero, if_neg (fun e => hs e.2.2)]
theorem take_places {d : Dd} {number : Int} {p q : Nat} {l : List Ch} (h0 : 0 ≤ d.at_) (h1 : 0 ≤ d.many) (hp : behindL d.seen d.by_ d.at_.toNat l = some p) (hq : behindL d.seen d.by_ (d.at_ + d.many).toNat l = some q) : takeL d number 0 l = mixL d number p q 0 l := by
 obtain ⟨_, _, _, a4⟩ := behindL_view hp
 obtain ⟨_, _, _, b4⟩ := behindL_view hq
 have ha := vw_len (l.take p) d.seen d.by_
 have hb := vw_len (l.take q) d.seen d.by_
 have e1 : cnt (l.take p) d.seen d.by_ = d.at_ := by omega
 have e2 : cnt (l.take q) d.seen d.by_ = d.at_ + d.many := by omega
 exact take_mix e1 e2 l [] rfl
theorem places_le {d : Dd} {p q : Nat} {l : List Ch} (h0 : 0 ≤ d.at_) (h1 : 0 ≤ d.many) (hp : behindL d.seen d.by_ d.at_.toNat l = some p) (hq : behindL d.seen d.by_ (d.at_ + d.many).toNat l = some q) : d.many = 0 ∨ p ≤ q := by
 obtain ⟨_, _, _, a4⟩ := behindL_view hp
 obtain ⟨_, _, _, b4⟩ := behindL_view hq
 have ha := vw_len (l.take p) d.seen d.by_
 have hb := vw_len (l.take q) d.seen d.by_
 by_cases h : p ≤ q
 ·exact .inr h
 ·have := cnt_mono l d.seen d.by_ (show q ≤ p by omega)
  exact .inl (by omega)
theorem set_byte : ∀ (l : List Ch) (i : Nat) (y : Ch), i < l.length →
 (((((((cells7 l).set (i * 7) (.int .u8 y.c)).set (i * 7 + 1) (.int .i64 y.by_)).set (i * 7 + 2) (.int .i64 y.no)).set (i * 7 + 3) (.int .i64 y.k)).set (i * 7 + 4) (.int .i64 y.inn)).set (i * 7 + 5) (.int .i64 y.out)).set (i * 7 + 6) (.int .i64 y.gone) = cells7 (l.set i y) := by
 intro l i y hi
 have e : l = l.take i ++ (l[i] :: l.drop (i + 1)) := by rw [← List.drop_eq_getElem_cons hi, List.take_append_drop]
 have e2 : l.set i y = l.take i ++ (y :: l.drop (i + 1)) := by
  conv => lhs; rw [e]
  rw [List.set_append_right _ _ (by rw [List.length_take]; omega), List.length_take, show i - min i l.length = 0 by omega, List.set_cons_zero]
 have e3 : cells7 l = cells7 (l.take i) ++ (chCells l[i] ++ cells7 (l.drop (i + 1))) := by
  conv => lhs; rw [e]
  rw [cells7_app, cells7]
 rw [e2, cells7_app, cells7, e3]
 have := set_seven (cells7 (l.take i)) (chCells l[i] ++ cells7 (l.drop (i + 1))) y (i * 7) (by rw [cells7_len, List.length_take]; congr 1; omega) (by rw [List.length_append]; show 7 ≤ 7 + _; omega)
 rw [this, List.append_assoc]
 congr 2
end Go.Proofs.YtcbnnfeelhlapadGreatDoor

/-
  The contract of fold.take.
-/
namespace Go.Proofs.YtcbnnfeelhlapadGreatDoor
set_option maxRecDepth 20000
open Go.RowKit
structure TInv (w : World) (d : Dd) (lv : Value) (L : List Ch) (wk : World) : Prop where
 below : Below (w.alloc (dObj d)).heap.size (w.alloc (dObj d)) wk
 own : Own wk (w.alloc (dObj d)).heap.size lv L
theorem TInv.minv {w wk : World} {d : Dd} {v lv : Value} {l L : List Ch} (h : TInv w d lv L wk) (h0 : Lst w v l) : MInv w w.heap.size d v l wk := (minv_start h0).after h.below
theorem TInv.after {w wk w' : World} {d : Dd} {lv : Value} {L : List Ch} (h : TInv w d lv L wk) (hb : Below wk.heap.size wk w') : TInv w d lv L w' :=
 ⟨bla h.below hb, h.own.below hb⟩
theorem TInv.drew {w wk : World} {d : Dd} {lv : Value} {L : List Ch} (h : TInv w d lv L wk) : TInv w d lv L wk.drew := h.after (Below.refl _ _).drew
theorem sees_t {w wk : World} {d : Dd} {lv : Value} {L : List Ch} (h : TInv w d lv L wk) (x : Ch) (seen by_ : Int) :
 Calls Tryz.prog 185 #[chV x, .int .i64 seen, .int .i64 by_] wk fun e w' => e = .returned (.bool (seesC seen by_ x)) ∧ TInv w d lv L w' :=
 (sees_any x seen by_ wk).mono fun _ _ ⟨he, hb⟩ => ⟨he, h.after hb⟩
theorem Lst.nth {wk : World} {b off cap n : Nat} {l : List Ch} (h : Lst wk (.slice (some ⟨b, off, none⟩) n cap) l) {k : Nat} (hk : k < l.length) : At wk b (off + k * 7) l[k] := by
 obtain ⟨a', len', cap', he, h1, h2, h3⟩ := h
 simp only [Value.slice.injEq] at he
 obtain ⟨rfl, rfl, rfl⟩ := he
 rcases h3 with h3 | ⟨b', off', h3, hr⟩
 ·omega
 ·cases h3
  exact hr.at_ k hk
theorem Lst.place {wk : World} {v : Value} {l : List Ch} (h : Lst wk v l) (hk : 0 < l.length) : ∃ b off cap, v = .slice (some ⟨b, off, none⟩) l.length cap := by
 obtain ⟨a', len', cap', rfl, rfl, h2, h3⟩ := h
 rcases h3 with h3 | ⟨b', off', rfl, hr⟩
 ·omega
 ·exact ⟨b', off', cap', rfl⟩
theorem Own.place {wk : World} {base : Nat} {v : Value} {l : List Ch} (h : Own wk base v l) (hk : 0 < l.length) : ∃ g cap, v = .slice (some ⟨g, 0, none⟩) l.length cap := by
 obtain ⟨_, h2⟩ := h
 rcases h2 with ⟨_, hn⟩ | ⟨g, cap, cur, rfl, _⟩
 ·omega
 ·exact ⟨g, cap, rfl⟩
theorem TInv.set {w wk : World} {g n cap : Nat} {d : Dd} {L : List Ch} (h : TInv w d (.slice (some ⟨g, 0, none⟩) n cap) L wk) {k : Nat} (hk : k < L.length) (hn : L.length = n) (y : Ch) :
 TInv w d (.slice (some ⟨g, 0, none⟩) n cap) (L.set k y) (((((((wk.setCell ⟨g, k * 7, none⟩ (.int .u8 y.c)).setCell ⟨g, k * 7 + 1, none⟩ (.int .i64 y.by_)).setCell ⟨g, k * 7 + 2, none⟩ (.int .i64 y.no)).setCell ⟨g, k * 7 + 3, none⟩ (.int .i64 y.k)).setCell ⟨g, k * 7 + 4, none⟩ (.int .i64 y.inn)).setCell ⟨g, k * 7 + 5, none⟩ (.int .i64 y.out)).setCell ⟨g, k * 7 + 6, none⟩ (.int .i64 y.gone)) := by
 obtain ⟨hb, ho⟩ := h
 have hg := (World.ownsRow.lt ho g rfl).1
 refine ⟨?_, ?_⟩
 ·exact ((((((hb.setCell (p := ⟨g, _, none⟩) hg _).setCell (p := ⟨g, _, none⟩) hg _).setCell (p := ⟨g, _, none⟩) hg _).setCell (p := ⟨g, _, none⟩) hg _).setCell (p := ⟨g, _, none⟩) hg _).setCell (p := ⟨g, _, none⟩) hg _).setCell (p := ⟨g, _, none⟩) hg _
 ·unfold Own at ho ⊢
  rw [List.length_set, ← set_byte L k y hk, hn]
  rw [hn] at ho
  exact ((((((ho.stored _ _).1.stored _ _).1.stored _ _).1.stored _ _).1.stored _ _).1.stored _ _).1.stored _ _ |>.1
theorem own_spots {w : World} {base g n cap : Nat} {L : List Ch} (h : Own w base (.slice (some ⟨g, 0, none⟩) n cap) L) (hn : L.length = n) {j : Nat} (hj : j < n * 7) : (∃ u, w.cell? ⟨g, j, none⟩ = some u) ∧ w.frozen? ⟨g, j, none⟩ = false := by
 unfold Own at h
 rw [hn] at h
 exact own_spot h hj
set_option maxHeartbeats 800000 in
theorem take_any (l : List Ch) (d : Dd) (number : Int) (v : Value) (w : World) (h : Lst w v l) (hl : l.length ≤ 1000) (hc : checkC d = 0) (hk : d.kind ≠ 1) (hn : d.at_ + d.many ≤ cnt l d.seen d.by_) (hf : FitsL l) :
 Calls Tryz.prog 220 #[v, ddV d, .int .i64 number] w fun e w' => ∃ v', e = .returned v' ∧ Own w' w.heap.size v' (doL l d number) ∧ Below w.heap.size w w' := by
 have HI : Hid _ := minv_start (d := d) h
 have H0 : Hid (Lst w v l) := h
 obtain ⟨ad, cap, rfl, hcap⟩ := h.len
 obtain ⟨_, hwr, _, _, _, _, p1, p2, p3, p4, _, p6⟩ := check_parts hc
 have HD : Hid (∀ p q, behindL d.seen d.by_ d.at_.toNat l = some p → behindL d.seen d.by_ (d.at_ + d.many).toNat l = some q → doL l d number = mixL d number p q 0 l) := by
  intro p q hp hq
  rw [doL, if_neg hk, take_places p1 p3 hp hq]
 have HB0 : Hid (Below w.heap.size w (w.alloc (dObj d))) := (Below.refl _ _).alloc (Nat.le_refl _) _
 obtain ⟨kind, by_, no, seen, at_, many, text⟩ := d
 simp only at hn p1 p2 p3 p4 HD
 unfold dObj at HB0
 clear h hc p6
 go_enter Tryz.func220, Tryz.ntmps220
 go_wp2_with fail
 refine (clone_lst HI.out.lst (by omega)).mono ?_
 rintro e w1 ⟨lv, rfl, hown, hb⟩
 have HT1 : Hid (TInv w ⟨kind, by_, no, seen, at_, many, text⟩ lv l w1) := ⟨hb, hown⟩
 clear hb hown HI
 obtain ⟨_, c0, c1, c2, c3, c4, c5, c6⟩ := (HT1.out.minv H0.out).at_
 simp only [Nat.zero_add] at c0 c1 c2 c3 c4 c5 c6
 go_wp2_with fail
 refine (behind_lst (HT1.out.minv H0.out).lst hl seen by_ at_ p1 (by omega)).mono ?_
 rintro e w2 ⟨p, rfl, hp, hpl, hb⟩
 have HP : Hid _ := hp
 have HT2 : Hid _ := HT1.out.after hb
 clear hb HT1 hp c0 c1 c2 c3 c4 c5 c6
 obtain ⟨_, c0, c1, c2, c3, c4, c5, c6⟩ := (HT2.out.minv H0.out).at_
 simp only [Nat.zero_add] at c0 c1 c2 c3 c4 c5 c6
 go_wp2_with fail
 refine (behind_lst (HT2.out.minv H0.out).lst hl seen by_ (at_ + many) (by omega) (by omega)).mono ?_
 rintro e w3 ⟨q, rfl, hq, hql, hb⟩
 have HF : Hid _ := HD.out p q HP.out hq
 have hpq : p ≤ q := by
  rcases places_le (d := ⟨kind, by_, no, seen, at_, many, text⟩) p1 p3 HP.out hq with hm | hm
  ·have hm' : many = 0 := hm
   rw [hm', Int.add_zero, HP.out] at hq
   exact Nat.le_of_eq (Option.some.inj hq)
  ·exact hm
 have HT3 : Hid _ := HT2.out.after hb
 clear hb HT2 hq c0 c1 c2 c3 c4 c5 c6 HD
 go_wp2
 go_loopw [10] (fun i wr => ∃ k : Nat, p ≤ k ∧ k ≤ q ∧ i = .int .i64 k ∧ Hid (TInv w ⟨kind, by_, no, seen, at_, many, text⟩ lv (mixL ⟨kind, by_, no, seen, at_, many, text⟩ number p k 0 l) wr)) (fun i _ => q - (intOf i).toNat)
 case atStart => exact ⟨p, Nat.le_refl _, hpq, rfl, by rw [mixL_none]; exact HT3⟩
 case round =>
  obtain ⟨k, hpk, hkq, rfl, HK⟩ := hrel
  clear HT3
  by_cases hlt : k < q
  ·have hkl : k < l.length := by omega
   have hkI : (k : Int) < (l.length : Int) := by omega
   obtain ⟨b, off, cap', hv⟩ := H0.out.place (by omega)
   simp only [Value.slice.injEq] at hv
   obtain ⟨rfl, _, rfl⟩ := hv
   obtain ⟨g, capL, rfl⟩ := HK.out.own.place (by rw [mixL_len]; omega)
   rw [mixL_len] at *
   obtain ⟨x, hx⟩ : ∃ x, x = l[k] := ⟨_, rfl⟩
   have HX : Hid _ := hx
   have HL : Hid (∀ wk, Lst wk (.slice (some ⟨b, off, none⟩) l.length cap) l → At wk b (off + k * 7) x) := fun wk hh => by rw [hx]; exact hh.nth hkl
   clear hx
   go_wp2
   refine wp_region_quiet (C := fun wk => TInv w ⟨kind, by_, no, seen, at_, many, text⟩ (.slice (some ⟨g, 0, none⟩) l.length capL) (mixL ⟨kind, by_, no, seen, at_, many, text⟩ number p k 0 l) wk) (by kernel_rfl) (by kernel_rfl) (HK.out.drew) ?_
   refine wpQuiet_step (fun K hK => ?_)
   go_simp
   refine ⟨_, fun _ _ => rfl, hK _ ?_⟩
   clear hK K
   refine wpQuiet_step (fun K hK => ?_)
   go_simp
   refine ⟨_, fun _ _ => rfl, hK _ ?_⟩
   clear hK K
   refine wpQuiet_step (fun K hK => ?_)
   go_simp
   refine ⟨.pointer (some ⟨b, off + k * 7, none⟩), fun wk hwk => ?_, hK _ ?_⟩
   ·go_simp
   clear hK K
   refine wpQuiet_step (fun K hK => ?_)
   go_simp
   refine ⟨chV x, fun wk hwk => ?_, hK _ ?_⟩
   ·have hat := HL.out wk (hwk.minv H0.out).lst
    obtain ⟨g0, g1, g2, g3, g4, g5, g6⟩ := hat
    go_simp
   clear hK K
   refine wpQuiet_step (fun K hK => ?_)
   go_simp
   refine ⟨_, fun _ _ => rfl, hK _ ?_⟩
   clear hK K
   refine wpQuiet_step (fun K hK => ?_)
   go_simp
   refine ⟨.int .i64 seen, fun wk hwk => ?_, hK _ ?_⟩
   ·obtain ⟨_, c0, c1, c2, c3, c4, c5, c6⟩ := (hwk.minv H0.out).at_
    simp only [Nat.zero_add] at c0 c1 c2 c3 c4 c5 c6
    go_simp
   clear hK K
   refine wpQuiet_step (fun K hK => ?_)
   go_simp
   refine ⟨_, fun _ _ => rfl, hK _ ?_⟩
   clear hK K
   refine wpQuiet_step (fun K hK => ?_)
   go_simp
   refine ⟨.int .i64 by_, fun wk hwk => ?_, hK _ ?_⟩
   ·obtain ⟨_, c0, c1, c2, c3, c4, c5, c6⟩ := (hwk.minv H0.out).at_
    simp only [Nat.zero_add] at c0 c1 c2 c3 c4 c5 c6
    go_simp
   clear hK K
   refine wpQuiet_step (fun K hK => ?_)
   go_simp
   refine ⟨_, fun wk hwk => sees_t hwk x _ _, hK _ ?_⟩
   clear hK K
   refine wpQuiet_nil ?_
   intro w4 hw4
   have HK4 : Hid _ := hw4
   clear hw4 HK
   cases hs : seesC seen by_ x
   ·have HN : Hid _ := mixL_pass ⟨kind, by_, no, seen, at_, many, text⟩ number p k l hkl (by rw [← HX.out]; exact hs)
    go_wp2
    go_roundw
    case rel => exact ⟨k + 1, by omega, by omega, by go_num, by rw [← HN.out]; exact HK4⟩
    case measure => simp [intOf]; omega
   ·have HN : Hid (_ = _) := mixL_set ⟨kind, by_, no, seen, at_, many, text⟩ number p k l hpk hkl (by rw [← HX.out]; exact hs)
    have HM : Hid (tookB x.gone by_ = false) := sees_took hs
    have HG : Hid _ := hf l[k] (List.getElem_mem hkl)
    rw [← HX.out] at HG HN
    go_wp2
    refine wrs (fun wk => MInv w w.heap.size ⟨kind, by_, no, seen, at_, many, text⟩ (.slice (some ⟨b, off, none⟩) l.length cap) l wk) (fun i => i == 9 || i == 11) (fun wk => TInv w ⟨kind, by_, no, seen, at_, many, text⟩ (.slice (some ⟨g, 0, none⟩) l.length capL) (mixL ⟨kind, by_, no, seen, at_, many, text⟩ number p k 0 l) wk) (by kernel_rfl) (by kernel_rfl) (by kernel_rfl) (fun _ h => h.minv H0.out) HK4.out.drew ?_
    refine wss rfl (fun K hK => ?_)
    go_simp
    refine ⟨_, fun _ _ => rfl, hK _ ?_⟩
    clear hK K
    refine wss rfl (fun K hK => ?_)
    go_simp
    refine ⟨_, fun _ _ => rfl, hK _ ?_⟩
    clear hK K
    refine wss rfl (fun K hK => ?_)
    go_simp
    refine ⟨_, fun _ _ => rfl, hK _ ?_⟩
    clear hK K
    refine wss rfl (fun K hK => ?_)
    go_simp
    refine ⟨_, fun _ _ => rfl, hK _ ?_⟩
    clear hK K
    refine wss rfl (fun K hK => ?_)
    go_simp
    refine ⟨.pointer (some ⟨b, off + k * 7, none⟩), fun wk hwk => ?_, hK _ ?_⟩
    ·go_simp
    clear hK K
    refine wss rfl (fun K hK => ?_)
    go_simp
    refine ⟨chV x, fun wk hwk => ?_, hK _ ?_⟩
    ·have hat := HL.out wk hwk.lst
     obtain ⟨g0, g1, g2, g3, g4, g5, g6⟩ := hat
     go_simp
    clear hK K
    refine wss rfl (fun K hK => ?_)
    go_simp
    refine ⟨_, fun _ _ => rfl, hK _ ?_⟩
    clear hK K
    refine wss rfl (fun K hK => ?_)
    go_simp
    refine ⟨.int .i64 by_, fun wk hwk => ?_, hK _ ?_⟩
    ·obtain ⟨_, c0, c1, c2, c3, c4, c5, c6⟩ := hwk.at_
     simp only [Nat.zero_add] at c0 c1 c2 c3 c4 c5 c6
     go_simp
    clear hK K
    refine wss rfl (fun K hK => ?_)
    go_simp
    refine ⟨_, fun _ _ => rfl, hK _ ?_⟩
    clear hK K
    refine wsp rfl rfl (fun u => u = chV (mark by_ number x)) (fun u wk => TInv w ⟨kind, by_, no, seen, at_, many, text⟩ (.slice (some ⟨g, 0, none⟩) l.length capL) (mixL ⟨kind, by_, no, seen, at_, many, text⟩ number p k 0 l) wk) ⟨_, rfl⟩ (fun _ _ h => h.minv H0.out) (fun wk hwk => ?_) (fun u hu => ?_)
    ·go_simp
     refine (taken_any x by_ number wk hwr HM.out HG.out.1 HG.out.2).mono ?_
     rintro e w5 ⟨rfl, hb⟩
     exact ⟨_, rfl, rfl, hwk.after hb⟩
    subst hu
    refine wss rfl (fun K hK => ?_)
    go_simp
    refine ⟨.pointer (some ⟨g, k * 7, none⟩), fun wk hwk => ?_, hK _ ?_⟩
    ·go_simp
    clear hK K
    refine wsp rfl rfl (fun _ => True) (fun _ wk => TInv w ⟨kind, by_, no, seen, at_, many, text⟩ (.slice (some ⟨g, 0, none⟩) l.length capL) (mixL ⟨kind, by_, no, seen, at_, many, text⟩ number p (k + 1) 0 l) wk) ⟨.int .i64 0, trivial⟩ (fun _ _ h => h.minv H0.out) (fun wk hwk => ?_) (fun u _ => ?_)
    ·have hN := hwk.set (k := k) (by rw [mixL_len]; exact hkl) (mixL_len _ _ _ _ _ _) (mark by_ number x)
     rw [HN.out] at hN
     have hown := hwk.own
     obtain ⟨⟨u0, e0⟩, f0⟩ := own_spots hown (mixL_len _ _ _ _ _ _) (j := k * 7) (by omega)
     obtain ⟨⟨u1, e1⟩, f1⟩ := own_spots hown (mixL_len _ _ _ _ _ _) (j := k * 7 + 1) (by omega)
     obtain ⟨⟨u2, e2⟩, f2⟩ := own_spots hown (mixL_len _ _ _ _ _ _) (j := k * 7 + 2) (by omega)
     obtain ⟨⟨u3, e3⟩, f3⟩ := own_spots hown (mixL_len _ _ _ _ _ _) (j := k * 7 + 3) (by omega)
     obtain ⟨⟨u4, e4⟩, f4⟩ := own_spots hown (mixL_len _ _ _ _ _ _) (j := k * 7 + 4) (by omega)
     obtain ⟨⟨u5, e5⟩, f5⟩ := own_spots hown (mixL_len _ _ _ _ _ _) (j := k * 7 + 5) (by omega)
     obtain ⟨⟨u6, e6⟩, f6⟩ := own_spots hown (mixL_len _ _ _ _ _ _) (j := k * 7 + 6) (by omega)
     generalize mark by_ number x = y at *
     obtain ⟨yc, yb, yn, yk, yi, yo, yg⟩ := y
     go_simp
     exact hN
    refine wsn (fun w6 hw6 => ?_)
    have H6 : Hid _ := hw6
    clear hw6
    go_wp2
    go_roundw
    case rel => exact ⟨k + 1, by omega, by omega, by go_num, H6⟩
    case measure => simp [intOf]; omega
  ·obtain rfl : k = q := by omega
   go_wp2
   go_ret
   exact ⟨_, rfl, by rw [HF.out]; exact HK.out.own.mono (by simp), bla HB0.out HK.out.below⟩
end Go.Proofs.YtcbnnfeelhlapadGreatDoor

/-
  The contracts of fold.Do and fold.Text.
-/
namespace Go.Proofs.YtcbnnfeelhlapadGreatDoor
set_option maxRecDepth 20000
open Go.RowKit
def doR (l : List Ch) (d : Dd) (number : Int) : List Ch := if doC l d number = 0 then doL l d number else []
theorem doC_may {l : List Ch} {d : Dd} {number : Int} (h : mayC l d ≠ 0) : doC l d number = mayC l d := by rw [doC, if_pos h]
theorem ret_do {v : Value} {c c' : Int} (h : c = c') : Ending.returned (.tuple #[v, .int .i64 c]) = .returned (.tuple #[v, .int .i64 c']) := by rw [h]
set_option maxHeartbeats 800000 in
theorem do_any (l : List Ch) (d : Dd) (number : Int) (v : Value) (w : World) (h : Lst w v l) (hl : l.length ≤ 1000) (hf : FitsL l) :
 Calls Tryz.prog 190 #[v, ddV d, .int .i64 number] w fun e w' => ∃ v', e = .returned (.tuple #[v', .int .i64 (doC l d number)]) ∧ Own w' w.heap.size v' (doR l d number) ∧ Below w.heap.size w w' := by
 have HI : Hid (MInv w w.heap.size d v l (w.alloc (dObj d))) := minv_start (d := d) h
 by_cases hm : mayC l d = 0
 ·by_cases hn : number < 1
  ·have HC : Hid (doC l d number = 1) := by show doC l d number = 1; rw [doC, if_neg (fun e => e hm), if_pos hn]
   have HR : Hid (doR l d number = []) := by show doR l d number = []; rw [doR, if_neg (by rw [HC.out]; decide)]
   obtain ⟨kind, by_, no, seen, at_, many, text⟩ := d
   clear h
   go_enter Tryz.func190, Tryz.ntmps190
   go_wp2_with fail
   refine (may_any l ⟨kind, by_, no, seen, at_, many, text⟩ v _ HI.out.lst hl).mono ?_
   rintro e w1 ⟨rfl, hb⟩
   rw [hm]
   have HI1 : Hid _ := HI.out.after hb
   clear hb HI
   go_wp2
   go_ret2
   exact ⟨.slice none 0 0, ret_do HC.out.symm, by rw [HR.out]; exact own_nil _ _, HI1.out.below⟩
  ·have HC : Hid (doC l d number = 0) := by show doC l d number = 0; rw [doC, if_neg (fun e => e hm), if_neg hn]
   have HR : Hid (doR l d number = doL l d number) := by show doR l d number = _; rw [doR, if_pos HC.out]
   obtain ⟨q1, q2, q3, _⟩ := doC_zero HC.out
   have p3 := (check_parts q1).2.2.2.2.2.2.2.2.1
   by_cases hk : d.kind = 1
   ·obtain ⟨kind, by_, no, seen, at_, many, text⟩ := d
    obtain rfl : kind = 1 := hk
    simp only at q2 q3 p3
    clear h
    go_enter Tryz.func190, Tryz.ntmps190
    go_wp2_with fail
    refine (may_any l ⟨1, by_, no, seen, at_, many, text⟩ v _ HI.out.lst hl).mono ?_
    rintro e w1 ⟨rfl, hb⟩
    rw [hm]
    have HI1 : Hid _ := HI.out.after hb
    clear hb HI
    obtain ⟨_, c0, c1, c2, c3, c4, c5, c6⟩ := HI1.out.at_
    simp only [Nat.zero_add] at c0 c1 c2 c3 c4 c5 c6
    go_wp2_with fail
    clear c0 c1 c2 c3 c4 c5 c6
    refine (put_any l ⟨1, by_, no, seen, at_, many, text⟩ number v _ HI1.out.lst hl q1 rfl (by simp only; omega)).mono ?_
    rintro e w2 ⟨v', rfl, hL, hb⟩
    have HL : Hid (Own w2 w.heap.size v' _) := hL.mono HI1.out.below.size
    have HB : Hid (Below w.heap.size w w2) := bla HI1.out.below hb
    clear hL hb HI1
    go_wp2
    go_ret2
    exact ⟨v', ret_do HC.out.symm, by rw [HR.out]; exact HL.out, HB.out⟩
   ·have hk' : (d.kind == 1) = false := by simp [hk]
    obtain ⟨kind, by_, no, seen, at_, many, text⟩ := d
    simp only at q2 q3 p3 hk'
    have HK : Hid (kind ≠ 1) := hk
    clear h hk
    go_enter Tryz.func190, Tryz.ntmps190
    go_wp2_with fail
    refine (may_any l ⟨kind, by_, no, seen, at_, many, text⟩ v _ HI.out.lst hl).mono ?_
    rintro e w1 ⟨rfl, hb⟩
    rw [hm]
    have HI1 : Hid _ := HI.out.after hb
    clear hb HI
    obtain ⟨_, c0, c1, c2, c3, c4, c5, c6⟩ := HI1.out.at_
    simp only [Nat.zero_add] at c0 c1 c2 c3 c4 c5 c6
    go_wp2_with fail
    clear c0 c1 c2 c3 c4 c5 c6
    refine (take_any l ⟨kind, by_, no, seen, at_, many, text⟩ number v _ HI1.out.lst hl q1 HK.out q2 hf).mono ?_
    rintro e w2 ⟨v', rfl, hL, hb⟩
    have HL : Hid (Own w2 w.heap.size v' _) := hL.mono HI1.out.below.size
    have HB : Hid (Below w.heap.size w w2) := bla HI1.out.below hb
    clear hL hb HI1
    go_wp2
    go_ret2
    exact ⟨v', ret_do HC.out.symm, by rw [HR.out]; exact HL.out, HB.out⟩
 ·have HC : Hid (doC l d number = mayC l d) := doC_may hm
  have HR : Hid (doR l d number = []) := by show doR l d number = []; rw [doR, if_neg (by rw [HC.out]; exact hm)]
  have hne : (mayC l d != 0) = true := by simp [hm]
  obtain ⟨kind, by_, no, seen, at_, many, text⟩ := d
  clear h hm
  go_enter Tryz.func190, Tryz.ntmps190
  go_wp2_with fail
  refine (may_any l ⟨kind, by_, no, seen, at_, many, text⟩ v _ HI.out.lst hl).mono ?_
  rintro e w1 ⟨rfl, hb⟩
  have HI1 : Hid _ := HI.out.after hb
  clear hb HI
  generalize mayC l ⟨kind, by_, no, seen, at_, many, text⟩ = c at *
  go_wp2
  go_ret2
  exact ⟨.slice none 0 0, ret_do HC.out.symm, by rw [HR.out]; exact own_nil _ _, HI1.out.below⟩
def goneB (x : Ch) : Bool := decide (x.out ≠ 0) && decide (x.out ≠ openN)
def textB (x : Ch) : Bool := decide (x.inn ≠ openN) && !goneB x
def textL (l : List Ch) : List Int := (l.filter textB).map (·.c)
theorem textL_snoc (l : List Ch) (x : Ch) : textL (l ++ [x]) = textL l ++ if textB x = true then [x.c] else [] := by
 unfold textL
 rw [List.filter_append]
 by_cases h : textB x = true <;> simp [h]
theorem textL_le (l : List Ch) : (textL l).length ≤ l.length := by
 unfold textL
 have := List.length_filter_le textB l
 simpa using this
theorem ret_str {a b : ByteArray} (h : a = b) : Ending.returned (.string a) = .returned (.string b) := by rw [h]
set_option maxHeartbeats 400000 in
theorem text_empty (a : Option Addr) (cap : Nat) (w : World) :
 Calls Tryz.prog 135 #[.slice a 0 cap] w fun e w' => e = .returned (.string ⟨#[]⟩) ∧ Below w.heap.size w w' := by
 have hs : (convert 42 9 (.slice none 0 0)).run Tryz.prog w = .ok (.string (strOfNums [])) w := own_string (base := w.heap.size) (zs := []) (World.ownsRow_nil _ _ _ _)
 go_enter Tryz.func135, Tryz.ntmps135
 go_wp2
 refine wp_loop_rounds 1 ?_
 rw [rounds_succ]
 go_wp2
 go_ret
 exact ⟨rfl, Below.refl _ _⟩
set_option maxHeartbeats 400000 in
theorem goneIn_any (x : Ch) (w : World) :
 Calls Tryz.prog 182 #[chV x] w fun e w' => e = .returned (.bool (goneB x)) ∧ Below w.heap.size w w' := by
 obtain ⟨c, b, no, k, i, o, g⟩ := x
 by_cases h1 : o = 0
 ·have h1' : (o != 0) = false := by simp [h1]
  have H1 : Hid (o = 0) := h1
  clear h1
  go_enter Tryz.func182, Tryz.ntmps182
  go_wp2
  go_ret
  exact ⟨ret_b (by simp [goneB, H1.out]), (Below.refl _ _).alloc (Nat.le_refl _) _⟩
 ·have h1' : (o != 0) = true := by simp [h1]
  have H1 : Hid (o ≠ 0) := h1
  clear h1
  by_cases h2 : o = openN
  ·have h2' : (o != 1073741824) = false := by simp [h2]
   have H2 : Hid (o = openN) := h2
   clear h2
   go_enter Tryz.func182, Tryz.ntmps182
   go_wp2
   go_ret
   exact ⟨ret_b (by simp [goneB, H2.out]), (Below.refl _ _).alloc (Nat.le_refl _) _⟩
  ·have h2' : (o != 1073741824) = true := by simpa using h2
   have H2 : Hid (o ≠ openN) := h2
   clear h2
   go_enter Tryz.func182, Tryz.ntmps182
   go_wp2
   go_ret
   exact ⟨ret_b (by have h1 := H1.out; have h2 := H2.out; simp [goneB, h1, h2]), (Below.refl _ _).alloc (Nat.le_refl _) _⟩
set_option maxHeartbeats 800000 in
theorem text_some (b off len cap : Nat) (l : List Ch) (w : World) (hl : l.length = len) (hm : len ≤ 100000) (hr : Row w b off l) :
 Calls Tryz.prog 135 #[.slice (some ⟨b, off, none⟩) len cap] w fun e w' => e = .returned (.string (strOfNums (textL l))) ∧ Below w.heap.size w w' := by
 have HR : Hid (Row w b off l) := hr
 have HL : Hid (l.length = len) := hl
 have hb := hr.lt
 clear hr hl
 obtain ⟨i0, hi, hz0, hz1, hz2⟩ := info_parts Tryz.infoByte
 go_enter Tryz.func135, Tryz.ntmps135
 go_wp2
 go_loopw [3, 8] (fun v i wr => ∃ k : Nat, k ≤ len ∧ i = .int .i64 k ∧ Hid (wr.ownsRow w.heap.size 5 1 v (textL (l.take k)).length (cells8 (textL (l.take k)))) ∧ Hid (Below w.heap.size w wr)) (fun _ i _ => len - (intOf i).toNat)
 case atStart => exact ⟨0, Nat.zero_le _, rfl, World.ownsRow_nil _ _ _ _, Below.refl _ _⟩
 case round =>
  obtain ⟨k, hk, rfl, HO, HB⟩ := hrel
  by_cases hlt : k < len
  ·have hkl : k < l.length := by rw [HL.out]; exact hlt
   have hd := textL_le (l.take k)
   have hle : (l.take k).length ≤ k := List.length_take_le _ _
   have HN : Hid (textL (l.take (k + 1)) = textL (l.take k) ++ if textB l[k] = true then [l[k].c] else []) := by show _ = _; rw [take_snoc l k hkl]; exact textL_snoc _ _
   obtain ⟨h0, h1, h2, h3, h4, h5, h6⟩ := (HR.out.below HB.out).at_ k hkl
   generalize l[k] = x at h0 h1 h2 h3 h4 h5 h6 HN
   generalize textL (l.take k) = zs at *
   have hzs : zs.length ≤ 100000 := by omega
   have HB' : Hid (∀ o, Below w.heap.size w (wr.alloc o)) := fun o => HB.out.alloc HB.out.size _
   clear hd hle
   by_cases hin : x.inn = openN
   ·have hin' : (x.inn != 1073741824) = false := by simp [hin]
    have HT : Hid (textB x = false) := by show textB x = false; simp [textB, hin]
    rw [HT.out] at HN
    clear hin
    go_wp2
    go_roundw
    case rel => exact ⟨k + 1, by omega, by go_num, by show World.ownsRow _ _ _ _ _ _ _; rw [HN.out, if_neg (by simp), List.append_nil]; exact HO.out.alloc _, HB'.out _⟩
    case measure => simp [intOf]; omega
   ·have hin' : (x.inn != 1073741824) = true := by simp; exact hin
    have HIN : Hid (x.inn ≠ openN) := hin
    clear hin
    go_wp2_with fail
    refine (goneIn_any x _).mono ?_
    rintro e w1 ⟨rfl, hb1⟩
    have HB1 : Hid (Below w.heap.size w w1) := bla (HB'.out _) hb1
    have HO1 : Hid (w1.ownsRow w.heap.size 5 1 _ zs.length (cells8 zs)) := owns_below (HO.out.alloc (.cells #[.int .u8 x.c, .int .i64 x.by_, .int .i64 x.no, .int .i64 x.k, .int .i64 x.inn, .int .i64 x.out, .int .i64 x.gone] 127)) hb1
    cases hg : goneB x
    ·have HT : Hid (textB x = true) := by show textB x = true; simp [textB, HIN.out, hg]
     rw [HT.out] at HN
     obtain ⟨hc, hf⟩ := bcell hb1
     clear hg h0 h1 h2 h3 h4 h5 h6
     go_wp2_with (at_builtin; refine wpList_append_own _ rfl (.tmp 20) (.tmp 23) 42 rfl w.heap.size 5 i0 (.int .u8 0) 1 1 Tryz.underlying42 hi hz0 hz1 hz2 rfl (by decide) _ _ _ rfl (HO1.out.alloc _) ⟨w1.heap.size, 0, none⟩ 1 1 [.int .u8 x.c] rfl rfl ?c1 ?c2 ?c3 ?c4 ?c5 ?_)
     case c1 =>
      intro j u hj
      match j, hj with
      | 0, hj => simp at hj; subst hj; simp [Addr.add]
     case c2 => intro u hu; simp at hu; subst hu; rfl
     case c3 => unfold maxLen; omega
     case c4 => omega
     case c5 => have := HB1.out.size; simp; omega
     ·intro v' w2 hown' hgrow _
      have HO2 : Hid (w2.ownsRow w.heap.size 5 1 v' (zs.length + 1) (cells8 zs ++ [.int .u8 x.c])) := hown'
      have HB2 : Hid (Below w.heap.size w w2) := (HB1.out.alloc HB1.out.size _).grown hgrow (by have := HB1.out.size; simp; omega) (fun j hj => (World.ownsRow.lt HO1.out j hj).1)
      clear hown' hgrow hc hf hb1
      go_wp2
      go_roundw
      case rel => exact ⟨k + 1, by omega, by go_num, by
       have e := HO2.out
       show World.ownsRow _ _ _ _ _ _ _
       rw [HN.out, if_pos trivial, List.length_append, cells8, List.map_append]
       exact e, HB2⟩
      case measure => simp [intOf]; omega
    ·have HT : Hid (textB x = false) := by show textB x = false; simp [textB, hg]
     rw [HT.out] at HN
     clear hg h0 h1 h2 h3 h4 h5 h6 hb1
     go_wp2
     go_roundw
     case rel => exact ⟨k + 1, by omega, by go_num, by show World.ownsRow _ _ _ _ _ _ _; rw [HN.out, if_neg (by simp), List.append_nil]; exact HO1.out, HB1⟩
     case measure => simp [intOf]; omega
  ·obtain rfl : k = len := by omega
   have HE : Hid (l.take k = l) := by show _ = _; rw [← HL.out, List.take_length]
   have hs := own_string HO.out
   go_wp2
   go_ret
   exact ⟨ret_str (by rw [HE.out]), HB.out⟩
theorem text_lst {w : World} {v : Value} {l : List Ch} (h : Lst w v l) (hl : l.length ≤ 1000) :
 Calls Tryz.prog 135 #[v] w fun e w' => e = .returned (.string (strOfNums (textL l))) ∧ Below w.heap.size w w' := by
 obtain ⟨a, len, cap, rfl, h1, h2, h3⟩ := h
 rcases h3 with rfl | ⟨b, off, rfl, hr⟩
 ·obtain rfl : l = [] := List.length_eq_zero_iff.1 h1
  exact text_empty a cap w
 ·exact text_some b off len cap l w h1 (by omega) hr
end Go.Proofs.YtcbnnfeelhlapadGreatDoor

/-
  The contract of fold.All: deeds one behind the other.
-/
namespace Go.Proofs.YtcbnnfeelhlapadGreatDoor
open Go.RowKit
structure Deeds (w : World) (b off : Nat) (ds : List Dd) : Prop where
 lt : b < w.heap.size
 at_ : ∀ i (h : i < ds.length), DdAt w b (off + i * 7) ds[i]
def DLst (w : World) (v : Value) (ds : List Dd) : Prop :=
 ∃ (a : Option Addr) (len cap : Nat), v = .slice a len cap ∧ ds.length = len ∧ len ≤ cap ∧ (len = 0 ∨ ∃ b off, a = some ⟨b, off, none⟩ ∧ Deeds w b off ds)
structure Small (l : List Ch) : Prop where
 len : l.length ≤ 200
 fits : FitsL l
theorem fits_new (d : Dd) (n : Int) : FitsL (newL d n) := by
 intro x hx
 obtain ⟨j, b, rfl, _⟩ := newFrom_mem hx
 show -9223372036854775808 ≤ (0 : Int) ∧ (0 : Int) ≤ 9223372036854775807
 omega
theorem fits_do {l : List Ch} {d : Dd} {number : Int} (h : FitsL l) (hc : checkC d = 0) : FitsL (doL l d number) := by
 obtain ⟨_, hw, _⟩ := check_parts hc
 by_cases hk : d.kind = 1
 ·rw [doL, if_pos hk]
  intro x hx
  rcases List.mem_append.1 hx with hx | hx
  ·exact h x (List.mem_of_mem_take hx)
  ·rcases List.mem_append.1 hx with hx | hx
   ·exact fits_new d number x hx
   ·exact h x (List.mem_of_mem_drop hx)
 ·rw [doL, if_neg hk]
  intro y hy
  obtain ⟨x, hx, hyx⟩ := takeL_mem hy
  rcases hyx with rfl | ⟨hs, rfl⟩
  ·exact h _ hx
  ·have h1 := h x hx
   have h2 := add_fits hw (sees_took hs) h1.2
   have h3 : (0 : Int) < 2 ^ d.by_.toNat := Int.pow_pos (by decide)
   show -9223372036854775808 ≤ x.gone + 2 ^ d.by_.toNat ∧ x.gone + 2 ^ d.by_.toNat ≤ 9223372036854775807
   omega
theorem small_do {l : List Ch} {d : Dd} {number : Int} (h : FitsL l) (hc : doC l d number = 0) : Small (doL l d number) := by
 obtain ⟨h1, h2, h3, _⟩ := doC_zero hc
 refine ⟨?_, fits_do h h1⟩
 rw [doL_len (fun hk => (check_parts h1).2.2.2.2.2.2.2.2.2.2.2 hk)]
 exact h3
theorem fits_nil : FitsL [] := fun x hx => by simp at hx
def Sofar (l : List Ch) (i : Nat) (ds all : List Dd) : Prop := Small l ∧ allL [] 0 all = allL l i ds
theorem sofar_start (all : List Dd) : Sofar [] 0 all all := ⟨⟨Nat.zero_le _, fits_nil⟩, rfl⟩
abbrev ftV (c at_ : Int) : Value := .agg #[.int .i64 c, .int .i64 at_]
structure TwoC (w : World) (B : Nat) (c a : Int) : Prop where
 c0 : w.cell? ⟨B, 0, none⟩ = some (.int .i64 c)
 c1 : w.cell? ⟨B, 1, none⟩ = some (.int .i64 a)
 f0 : w.frozen? ⟨B, 0, none⟩ = false
 f1 : w.frozen? ⟨B, 1, none⟩ = false
theorem twoC_start (w : World) (c a : Int) : TwoC (w.alloc (.cells #[.int .i64 c, .int .i64 a] 31)) w.heap.size c a := by
 refine ⟨?_, ?_, ?_, ?_⟩ <;> simp [go_sem]
theorem TwoC.below {w w' : World} {B : Nat} {c a : Int} (h : TwoC w B c a) (hB : B < w.heap.size) (hb : Below w.heap.size w w') : TwoC w' B c a := by
 obtain ⟨hc, hf⟩ := bcell hb
 exact ⟨by rw [hc _ _ hB]; exact h.c0, by rw [hc _ _ hB]; exact h.c1, by rw [hf _ _ hB]; exact h.f0, by rw [hf _ _ hB]; exact h.f1⟩
theorem TwoC.put {w : World} {B : Nat} {c a : Int} (h : TwoC w B c a) (c' a' : Int) : TwoC ((w.setCell ⟨B, 0, none⟩ (.int .i64 c')).setCell ⟨B, 1, none⟩ (.int .i64 a')) B c' a' := by
 obtain ⟨c0, c1, f0, f1⟩ := h
 refine ⟨?_, ?_, ?_, ?_⟩
 ·simp [go_sem, c0]
 ·simp [go_sem, c1]
 ·simpa [go_sem] using f0
 ·simpa [go_sem] using f1
theorem load_two {w : World} {B : Nat} {c a : Int} (h : TwoC w B c a) : (loadVar 31 ⟨B, 0, none⟩).run Tryz.prog w = .ok (ftV c a) w := by
 obtain ⟨c0, c1, _, _⟩ := h
 simp [go_sem, loadVar, loadCells, loadCellsFrom, Sem.run_bind, Tryz.isAgg31, Tryz.sizeOf31, c0, c1]
theorem results_tmp_cell {fn : Func} {p u : Tmp} {ty : TypeId} (h : fn.results = #[.tmp u, .cell p ty]) (tmps : Array Value) (P : Program) (w : World) :
 (results fn tmps).run P w = ((asAddr (tmps.getD p undef)).run P w).andThen fun a w₁ => ((loadVar ty a).run P w₁).andThen fun v w₂ => .ok (.tuple #[tmps.getD u undef, v]) w₂ := by
 simp only [results, h]
 simp [Sem.run_bind, Result.andThen]
theorem below_put2 {N B : Nat} {w w' : World} (h : Below N w w') (hB : N ≤ B) (c a : Int) : Below N w ((w'.setCell ⟨B, 0, none⟩ (.int .i64 c)).setCell ⟨B, 1, none⟩ (.int .i64 a)) :=
 (h.setCell (p := ⟨B, 0, none⟩) hB _).setCell (p := ⟨B, 1, none⟩) hB _
end Go.Proofs.YtcbnnfeelhlapadGreatDoor
