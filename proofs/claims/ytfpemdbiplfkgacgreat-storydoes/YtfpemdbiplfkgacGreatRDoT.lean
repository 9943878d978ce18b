/-
  The document's own Do of bytes that are taken away: its contract.
-/
import Derived.Test.YtfpemdbiplfkgacGreatRDoP
namespace Go.Proofs.YtfpemdbiplfkgacGreat
open Go.RowKit

/-- In the middle of a round: a byte in a block of its own. -/
structure TI (w : World) (d : Dd) (v : Value) (l : List Ch) (u : Value) (z : List Ch) (C : Nat) (x : Ch) (wk : World) : Prop where
  p : PI w d v l u z wk
  lo : w.heap.size + 1 ≤ C
  lt : C < wk.heap.size
  ne : u.ownBlock ≠ some C
  at_ : At wk C 0 x
  free : ∀ o, o < 7 → wk.frozen? ⟨C, o, none⟩ = false

theorem TI.after {w wk w' : World} {d : Dd} {v u : Value} {l z : List Ch} {C : Nat} {x : Ch} (h : TI w d v l u z C x wk) (hb : Below wk.heap.size wk w') : TI w d v l u z C x w' := by
  obtain ⟨hc, hf⟩ := bcell hb
  refine ⟨h.p.after hb, h.lo, Nat.lt_of_lt_of_le h.lt hb.size, h.ne, ?_, fun o ho => by rw [hf _ _ h.lt]; exact h.free o ho⟩
  have := h.at_
  unfold At at this ⊢
  simp only [hc _ _ h.lt]
  exact this

theorem ti_start {w wk : World} {d : Dd} {v u : Value} {l z : List Ch} (x : Ch) (h : PI w d v l u z wk) : TI w d v l u z wk.heap.size x (wk.alloc (.cells #[.int .u8 x.c, .int .i64 x.by_, .int .i64 x.no, .int .i64 x.k, .int .i64 x.inn, .int .i64 x.out, .int .i64 x.gone] 71)) := by
  refine ⟨h.after ((Below.refl _ _).alloc (Nat.le_refl _) _), h.size, by simp, fun e => ?_, ?_, fun o ho => ?_⟩
  · have := (World.ownsRow.lt h.own _ e).2
    omega
  · refine ⟨?_, ?_, ?_, ?_, ?_, ?_, ?_⟩ <;> simp [go_sem]
  · rcases (show o = 0 ∨ o = 1 ∨ o = 2 ∨ o = 3 ∨ o = 4 ∨ o = 5 ∨ o = 6 by omega) with rfl | rfl | rfl | rfl | rfl | rfl | rfl <;> simp [go_sem]

theorem PI.set {w wk : World} {d : Dd} {v u : Value} {l z : List Ch} {C o : Nat} (h : PI w d v l u z wk) (h0 : Lst w v l) (hC : w.heap.size + 1 ≤ C) (hne : u.ownBlock ≠ some C) (y : Value) : PI w d v l u z (wk.setCell ⟨C, o, none⟩ y) := by
  have hb : Below (w.heap.size + 1) wk (wk.setCell ⟨C, o, none⟩ y) := (Below.refl _ _).setCell (p := ⟨C, o, none⟩) hC _
  have hc : ∀ o', (wk.setCell ⟨C, o, none⟩ y).cell? ⟨w.heap.size, o', none⟩ = wk.cell? ⟨w.heap.size, o', none⟩ := fun o' => hb.cell (p := ⟨w.heap.size, o', none⟩) (Nat.lt_succ_self _)
  have hbl : Below w.heap.size w (wk.setCell ⟨C, o, none⟩ y) := h.m.below.trans (hb.mono (by omega))
  obtain ⟨c, c0, c1, c2, c3, c4, c5, c6⟩ := h.m.at_
  refine ⟨⟨hbl, ⟨by have := hb.size; omega, ?_, ?_, ?_, ?_, ?_, ?_, ?_⟩, h0.below hbl⟩, ?_⟩
  · rw [hc]; exact c0
  · rw [hc]; exact c1
  · rw [hc]; exact c2
  · rw [hc]; exact c3
  · rw [hc]; exact c4
  · rw [hc]; exact c5
  · rw [hc]; exact c6
  · exact World.ownsRow.kept (row := some C) h.own ⟨rfl, rfl, rfl, by simp [World.setCell], fun k _ hk => Below.heap_setCell _ _ _ _ (fun e => hk (by rw [e]))⟩ (.inr hne)

theorem TI.gone {w wk : World} {d : Dd} {v u : Value} {l z : List Ch} {C : Nat} {c b no k i o g : Int} (h : TI w d v l u z C ⟨c, b, no, k, i, o, g⟩ wk) (h0 : Lst w v l) (n : Int) : TI w d v l u z C ⟨c, b, no, k, i, o, n⟩ (wk.setCell ⟨C, 6, none⟩ (.int .i64 n)) := by
  obtain ⟨a0, a1, a2, a3, a4, a5, a6⟩ := h.at_
  simp only [Nat.zero_add] at a0 a1 a2 a3 a4 a5 a6
  refine ⟨h.p.set h0 h.lo h.ne _, h.lo, by simpa [World.setCell] using h.lt, h.ne, ?_, fun o ho => ?_⟩
  · refine ⟨?_, ?_, ?_, ?_, ?_, ?_, ?_⟩ <;> simp [go_sem, a0, a1, a2, a3, a4, a5, a6]
  · have := h.free o ho
    simpa [go_sem] using this

theorem TI.out {w wk : World} {d : Dd} {v u : Value} {l z : List Ch} {C : Nat} {c b no k i o g : Int} (h : TI w d v l u z C ⟨c, b, no, k, i, o, g⟩ wk) (h0 : Lst w v l) (n : Int) : TI w d v l u z C ⟨c, b, no, k, i, n, g⟩ (wk.setCell ⟨C, 5, none⟩ (.int .i64 n)) := by
  obtain ⟨a0, a1, a2, a3, a4, a5, a6⟩ := h.at_
  simp only [Nat.zero_add] at a0 a1 a2 a3 a4 a5 a6
  refine ⟨h.p.set h0 h.lo h.ne _, h.lo, by simpa [World.setCell] using h.lt, h.ne, ?_, fun o ho => ?_⟩
  · refine ⟨?_, ?_, ?_, ?_, ?_, ?_, ?_⟩ <;> simp [go_sem, a0, a1, a2, a3, a4, a5, a6]
  · have := h.free o ho
    simpa [go_sem] using this

theorem lst_one' (w : World) (x : Ch) {n : Nat} (hn : n = w.heap.size) : Lst (w.alloc (.cells #[.int .u8 x.c, .int .i64 x.by_, .int .i64 x.no, .int .i64 x.k, .int .i64 x.inn, .int .i64 x.out, .int .i64 x.gone] 71)) (.slice (some ⟨n, 0, none⟩) 1 1) [x] := by
  subst hn
  exact lst_one w x

/-- What has been taken away so far. -/
def tkL (d : Dd) (number : Int) (l : List Ch) (k : Nat) : List Ch := takeL d number 0 (l.take k)

theorem tkL_len (d : Dd) (number : Int) (l : List Ch) (k : Nat) : (tkL d number l k).length ≤ l.length := by
  rw [tkL, takeL_len, List.length_take]
  omega

theorem tkL_step (d : Dd) (number : Int) {l : List Ch} {k : Nat} (hk : k < l.length) : tkL d number l (k + 1) = tkL d number l k ++ [if seesC d.seen d.by_ l[k] = true then (if d.at_ ≤ cnt (l.take k) d.seen d.by_ ∧ cnt (l.take k) d.seen d.by_ < d.at_ + d.many then mark d.by_ number l[k] else l[k]) else l[k]] := by
  rw [tkL, take_snoc l k hk, takeL_snoc, Int.zero_add]
  rfl

theorem mark_num {by_ number : Int} {x : Ch} (hn : number ≤ 1000) (t : Int) (ht : t = 2 ^ by_.toNat) : mark by_ number x = ⟨x.c, x.by_, x.no, x.k, x.inn, if x.out = 0 ∨ number < x.out then number else x.out, x.gone + t⟩ := by
  have h : number ≠ openN := by show number ≠ 1073741824; omega
  rw [mark, markOut, ht]
  simp only [h, ne_eq, not_false_eq_true, true_and]

theorem pow_step (m : Nat) : (2 : Int) ^ (m + 1) = 2 ^ m * 2 := Int.pow_succ 2 m
theorem pow_small {m : Nat} (h : m ≤ 3) : 1 ≤ (2 : Int) ^ m ∧ (2 : Int) ^ m ≤ 8 := by
  rcases (show m = 0 ∨ m = 1 ∨ m = 2 ∨ m = 3 by omega) with rfl | rfl | rfl | rfl <;> decide

set_option maxRecDepth 20000 in
set_option maxHeartbeats 3200000 in
theorem refDo_take_some (b off len cap : Nat) (l : List Ch) (d : Dd) (number : Int) (w : World) (hl : l.length = len) (hm : len ≤ 1000) (hr : Row w b off l) (hcap : len ≤ cap) (ht : Tame l) (hk : d.kind ≠ 1) (hc : doC l d number = 0) (hnum : number ≤ 1000) :
    Calls Tryz.prog 104 #[.slice (some ⟨b, off, none⟩) len cap, ddV d, .int .i64 number] w fun e w' => ∃ v', e = .returned (.tuple #[v', .int .i64 0]) ∧ Own w' w.heap.size v' (doL l d number) ∧ Below w.heap.size w w' := by
  have H0 : Hid (Lst w (.slice (some ⟨b, off, none⟩) len cap) l) := ⟨_, _, _, rfl, hl, hcap, .inr ⟨b, off, rfl, hr⟩⟩
  have HI : Hid (MInv w w.heap.size d (.slice (some ⟨b, off, none⟩) len cap) l (w.alloc (dObj d))) := minv_start (d := d) H0.out
  have HR : Hid (Row w b off l) := hr
  have HL : Hid (l.length = len) := hl
  have HT : Hid (Tame l) := ht
  obtain ⟨q1, q2, q3, q4⟩ := doC_zero hc
  have HM : Hid (mayC l d = 0) := by
    show mayC l d = 0
    unfold doC at hc
    by_cases hm : mayC l d = 0
    · exact hm
    · rw [if_pos hm] at hc; exact hc
  obtain ⟨_, hw, _, _, _, _, p1, p2, p3, p4, _, _⟩ := check_parts q1
  have HD : Hid (doL l d number = tkL d number l len) := by
    show doL l d number = _
    rw [doL, if_neg hk, tkL, ← hl, List.take_length]
  have hwb : 0 ≤ d.by_ ∧ d.by_ ≤ 3 := by simpa [wrB] using hw
  have hk' : (d.kind == 1) = false := by simp [hk]
  have hno' : (number != 1073741824) = true := by simp; omega
  obtain ⟨kind, by_, no, seen, at_, many, text⟩ := d
  simp only at q2 q3 p1 p2 p3 p4 HD hwb hk'
  obtain ⟨hb0, hb3⟩ := hwb
  obtain ⟨q, rfl⟩ := Int.eq_ofNat_of_zero_le hb0
  clear hr hl ht hc hk hw
  go_enter Tryz.func104, Tryz.ntmps104
  go_wp2_with fail
  refine (mayDo_any l ⟨kind, (q : Int), no, seen, at_, many, text⟩ _ _ HI.out.lst (by rw [HL.out]; exact hm) HT.out).mono ?_
  rintro e w1 ⟨rfl, hb1⟩
  rw [HM.out]
  have HI1 : Hid (PI w ⟨kind, (q : Int), no, seen, at_, many, text⟩ (.slice (some ⟨b, off, none⟩) len cap) l (.slice none 0 0) [] w1) := ⟨HI.out.after hb1, own_nil _ _⟩
  clear hb1 HI HM
  obtain ⟨_, c0, c1, c2, c3, c4, c5, c6⟩ := HI1.out.m.at_
  simp only [Nat.zero_add] at c0 c1 c2 c3 c4 c5 c6
  go_wp2
  clear c0 c1 c2 c3 c4 c5 c6
  go_loopw [9, 11, 12] (fun u n i wr => ∃ k : Nat, k ≤ len ∧ i = .int .i64 k ∧ n = .int .i64 (cnt (l.take k) seen q) ∧ Hid (PI w ⟨kind, (q : Int), no, seen, at_, many, text⟩ (.slice (some ⟨b, off, none⟩) len cap) l u (tkL ⟨kind, (q : Int), no, seen, at_, many, text⟩ number l k) wr)) (fun _ _ i _ => len - (intOf i).toNat)
  case atStart => exact ⟨0, Nat.zero_le _, rfl, rfl, HI1⟩
  case round =>
    obtain ⟨k, hk, rfl, rfl, HP⟩ := hrel
    clear HI1
    by_cases hlt : k < len
    · have hkl : k < l.length := by rw [HL.out]; exact hlt
      obtain ⟨t1, t2, t3, t4⟩ := tame_get HT.out k hkl
      have hcb := cnt_bd (l.take k) seen q
      have hle : (l.take k).length ≤ k := List.length_take_le _ _
      have HCN : Hid (cnt (l.take (k + 1)) seen q = cnt (l.take k) seen q + if seesC seen q l[k] = true then 1 else 0) := by show _ = _; rw [take_snoc l k hkl]; exact cnt_snoc _ _ _ _
      have HN : Hid (_ = _) := tkL_step ⟨kind, (q : Int), no, seen, at_, many, text⟩ number hkl
      have HZ : Hid ((tkL ⟨kind, (q : Int), no, seen, at_, many, text⟩ number l k).length ≤ 1000) := by have := tkL_len ⟨kind, (q : Int), no, seen, at_, many, text⟩ number l k; rw [HL.out] at this; show _ ≤ _; omega
      have HMK : Hid (∀ t : Int, t = 2 ^ (q : Int).toNat → mark q number l[k] = _) := fun t => mark_num (x := l[k]) hnum t
      obtain ⟨h0, h1, h2, h3, h4, h5, h6⟩ := (HR.out.below HP.out.m.below).at_ k hkl
      obtain ⟨_, c0, c1, c2, c3, c4, c5, c6⟩ := HP.out.m.at_
      simp only [Nat.zero_add] at c0 c1 c2 c3 c4 c5 c6
      simp only at HN
      generalize l[k] = x at h0 h1 h2 h3 h4 h5 h6 HN HCN HMK t1 t2 t3 t4
      generalize cnt (l.take k) seen q = n at *
      generalize tkL ⟨kind, (q : Int), no, seen, at_, many, text⟩ number l k = zs at *
      obtain ⟨xc, xb, xn, xk, xi, xo, xg⟩ := x
      simp only at h0 h1 h2 h3 h4 h5 h6 t1 t3 t4 HMK
      have HS : Hid (TI w ⟨kind, (q : Int), no, seen, at_, many, text⟩ (.slice (some ⟨b, off, none⟩) len cap) l u9 zs wr.heap.size ⟨xc, xb, xn, xk, xi, xo, xg⟩ (wr.alloc (.cells #[.int .u8 xc, .int .i64 xb, .int .i64 xn, .int .i64 xk, .int .i64 xi, .int .i64 xo, .int .i64 xg] 71))) := ti_start ⟨xc, xb, xn, xk, xi, xo, xg⟩ HP.out
      obtain ⟨hcb0, hcb1⟩ := hcb
      have hnk : n ≤ 1000 := by omega
      clear hle hcb1
      go_wp2_with fail
      refine (refSees_any ⟨xc, xb, xn, xk, xi, xo, xg⟩ _ _ _ t1 (by simp only; omega) (by simp only; omega)).mono ?_
      rintro e w2 ⟨rfl, hb2⟩
      have HS2 : Hid (TI w ⟨kind, (q : Int), no, seen, at_, many, text⟩ (.slice (some ⟨b, off, none⟩) len cap) l u9 zs wr.heap.size ⟨xc, xb, xn, xk, xi, xo, xg⟩ w2) := HS.out.after hb2
      generalize wr.heap.size = C at *
      clear h0 h1 h2 h3 h4 h5 h6 c0 c1 c2 c3 c4 c5 c6 hb2 HS
      obtain ⟨_, c0, c1, c2, c3, c4, c5, c6⟩ := HS2.out.p.m.at_
      obtain ⟨a0, a1, a2, a3, a4, a5, a6⟩ := HS2.out.at_
      have f5 := HS2.out.free 5 (by omega)
      have f6 := HS2.out.free 6 (by omega)
      simp only [Nat.zero_add] at c0 c1 c2 c3 c4 c5 c6 a0 a1 a2 a3 a4 a5 a6
      have hCw : ¬ C = w.heap.size := by have := HS2.out.lo; omega
      have hCw' : ¬ w.heap.size = C := by have := HS2.out.lo; omega
      cases hs : seesC seen q ⟨xc, xb, xn, xk, xi, xo, xg⟩
      · rw [hs] at HN HCN
        go_wp2_with (at_builtin; refine append_lst _ rfl (.tmp 132) (.tmp 134) rfl (w.heap.size + 1) (v := u9) (u := .slice (some ⟨_, 0, none⟩) 1 1) (b := [⟨xc, xb, xn, xk, xi, xo, xg⟩]) rfl rfl (HS2.out.p.own.below ((Below.refl _ _).alloc (Nat.le_refl _) _)) (lst_one' _ ⟨xc, xb, xn, xk, xi, xo, xg⟩ (by simp)) ?ca1 ?cb1 ?_)
        case ca1 => have := HZ.out; simp; omega
        case cb1 => have := HS2.out.p.size; simp at this ⊢; omega
        intro v8 w8 ho hg
        have H8 : Hid (PI w ⟨kind, (q : Int), no, seen, at_, many, text⟩ (.slice (some ⟨b, off, none⟩) len cap) l v8 (zs ++ [⟨xc, xb, xn, xk, xi, xo, xg⟩]) w8) := (HS2.out.p.after ((Below.refl _ _).alloc (Nat.le_refl _) _)).grown H0.out hg ho
        clear ho hg c0 c1 c2 c3 c4 c5 c6 a0 a1 a2 a3 a4 a5 a6 f5 f6 hCw hCw'
        go_wp2
        go_roundw
        case rel => exact ⟨k + 1, by omega, by go_num, by rw [HCN.out]; simp, by rw [HN.out]; exact H8⟩
        case measure => simp [intOf]; omega
      · rw [hs] at HN HCN
        by_cases hA : at_ ≤ n
        · by_cases hB : n < at_ + many
          · have HY : Hid (∀ t : Int, t = 2 ^ (q : Int).toNat → (if true = true then (if at_ ≤ n ∧ n < at_ + many then mark q number ⟨xc, xb, xn, xk, xi, xo, xg⟩ else ⟨xc, xb, xn, xk, xi, xo, xg⟩) else ⟨xc, xb, xn, xk, xi, xo, xg⟩) = ⟨xc, xb, xn, xk, xi, if xo = 0 ∨ number < xo then number else xo, xg + t⟩) := fun t e => by rw [if_pos rfl, if_pos ⟨hA, hB⟩]; exact HMK.out t e
            go_wp2
            go_loop [14, 15] (fun bit j => ∃ (m : Nat) (t : Int), m ≤ q ∧ j = .int .i64 m ∧ bit = .int .i64 t ∧ Hid (t = 2 ^ m)) (fun _ j => q - (intOf j).toNat)
            case atStart => exact ⟨0, 1, Nat.zero_le _, rfl, rfl, rfl⟩
            case round =>
              obtain ⟨m, t, hmq, rfl, rfl, HTM⟩ := hrel
              have htb : 1 ≤ t ∧ t ≤ 8 := by rw [HTM.out]; exact pow_small (by omega)
              obtain ⟨ht1, ht8⟩ := htb
              by_cases hmlt : m < q
              · go_wp2
                go_round
                case rel => exact ⟨m + 1, t * 2, by omega, by go_num, rfl, by show _ = _; rw [pow_step, HTM.out]⟩
                case measure => simp [intOf]; omega
              · obtain rfl : m = q := by omega
                have HYT : Hid _ := HY.out t (by rw [HTM.out]; rfl)
                have HS3 : Hid (TI w ⟨kind, (m : Int), no, seen, at_, many, text⟩ (.slice (some ⟨b, off, none⟩) len cap) l u9 zs C ⟨xc, xb, xn, xk, xi, xo, xg + t⟩ (w2.setCell ⟨C, 6, none⟩ (.int .i64 (xg + t)))) := HS2.out.gone H0.out _
                clear HY HMK
                by_cases ho0 : xo = 0
                · have ho0' : (xo == 0) = true := by simp [ho0]
                  have HYE := HYT
                  rw [if_pos (show xo = 0 ∨ number < xo from .inl ho0)] at HYE
                  have HS4 : Hid (TI w ⟨kind, (m : Int), no, seen, at_, many, text⟩ (.slice (some ⟨b, off, none⟩) len cap) l u9 zs C ⟨xc, xb, xn, xk, xi, number, xg + t⟩ ((w2.setCell ⟨C, 6, none⟩ (.int .i64 (xg + t))).setCell ⟨C, 5, none⟩ (.int .i64 number))) := HS3.out.out H0.out _
                  clear ho0
                  go_wp2_with (at_builtin; refine append_lst _ rfl (.tmp 132) (.tmp 134) rfl (w.heap.size + 1) (v := u9) (u := .slice (some ⟨_, 0, none⟩) 1 1) (b := [⟨xc, xb, xn, xk, xi, number, xg + t⟩]) rfl rfl (HS4.out.p.own.below ((Below.refl _ _).alloc (Nat.le_refl _) _)) (lst_one' _ ⟨xc, xb, xn, xk, xi, number, xg + t⟩ (by simp)) ?ca2 ?cb2 ?_)
                  case ca2 => have := HZ.out; simp; omega
                  case cb2 => have := HS4.out.p.size; simp at this ⊢; omega
                  intro v8 w8 ho hg
                  have H8 : Hid (PI w ⟨kind, (m : Int), no, seen, at_, many, text⟩ (.slice (some ⟨b, off, none⟩) len cap) l v8 (zs ++ [⟨xc, xb, xn, xk, xi, number, xg + t⟩]) w8) := (HS4.out.p.after ((Below.refl _ _).alloc (Nat.le_refl _) _)).grown H0.out hg ho
                  clear ho hg c0 c1 c2 c3 c4 c5 c6 a0 a1 a2 a3 a4 a5 a6 f5 f6 hCw hCw'
                  go_wp2
                  go_roundw
                  case rel => exact ⟨k + 1, by omega, by go_num, by rw [HCN.out]; simp, by rw [HN.out]; rw [HYE.out]; exact H8⟩
                  case measure => simp [intOf]; omega
                · have ho0' : (xo == 0) = false := by simp [ho0]
                  by_cases hog : number < xo
                  · have HYE := HYT
                    rw [if_pos (show xo = 0 ∨ number < xo from .inr hog)] at HYE
                    have HS4 : Hid (TI w ⟨kind, (m : Int), no, seen, at_, many, text⟩ (.slice (some ⟨b, off, none⟩) len cap) l u9 zs C ⟨xc, xb, xn, xk, xi, number, xg + t⟩ ((w2.setCell ⟨C, 6, none⟩ (.int .i64 (xg + t))).setCell ⟨C, 5, none⟩ (.int .i64 number))) := HS3.out.out H0.out _
                    clear ho0
                    go_wp2_with (at_builtin; refine append_lst _ rfl (.tmp 132) (.tmp 134) rfl (w.heap.size + 1) (v := u9) (u := .slice (some ⟨_, 0, none⟩) 1 1) (b := [⟨xc, xb, xn, xk, xi, number, xg + t⟩]) rfl rfl (HS4.out.p.own.below ((Below.refl _ _).alloc (Nat.le_refl _) _)) (lst_one' _ ⟨xc, xb, xn, xk, xi, number, xg + t⟩ (by simp)) ?ca3 ?cb3 ?_)
                    case ca3 => have := HZ.out; simp; omega
                    case cb3 => have := HS4.out.p.size; simp at this ⊢; omega
                    intro v8 w8 ho hg
                    have H8 : Hid (PI w ⟨kind, (m : Int), no, seen, at_, many, text⟩ (.slice (some ⟨b, off, none⟩) len cap) l v8 (zs ++ [⟨xc, xb, xn, xk, xi, number, xg + t⟩]) w8) := (HS4.out.p.after ((Below.refl _ _).alloc (Nat.le_refl _) _)).grown H0.out hg ho
                    clear ho hg c0 c1 c2 c3 c4 c5 c6 a0 a1 a2 a3 a4 a5 a6 f5 f6 hCw hCw'
                    go_wp2
                    go_roundw
                    case rel => exact ⟨k + 1, by omega, by go_num, by rw [HCN.out]; simp, by rw [HN.out]; rw [HYE.out]; exact H8⟩
                    case measure => simp [intOf]; omega
                  · have HYE := HYT
                    rw [if_neg (show ¬ (xo = 0 ∨ number < xo) from fun e => e.elim ho0 hog)] at HYE
                    clear ho0
                    go_wp2_with (at_builtin; refine append_lst _ rfl (.tmp 132) (.tmp 134) rfl (w.heap.size + 1) (v := u9) (u := .slice (some ⟨_, 0, none⟩) 1 1) (b := [⟨xc, xb, xn, xk, xi, xo, xg + t⟩]) rfl rfl (HS3.out.p.own.below ((Below.refl _ _).alloc (Nat.le_refl _) _)) (lst_one' _ ⟨xc, xb, xn, xk, xi, xo, xg + t⟩ (by simp)) ?ca4 ?cb4 ?_)
                    case ca4 => have := HZ.out; simp; omega
                    case cb4 => have := HS3.out.p.size; simp at this ⊢; omega
                    intro v8 w8 ho hg
                    have H8 : Hid (PI w ⟨kind, (m : Int), no, seen, at_, many, text⟩ (.slice (some ⟨b, off, none⟩) len cap) l v8 (zs ++ [⟨xc, xb, xn, xk, xi, xo, xg + t⟩]) w8) := (HS3.out.p.after ((Below.refl _ _).alloc (Nat.le_refl _) _)).grown H0.out hg ho
                    clear ho hg c0 c1 c2 c3 c4 c5 c6 a0 a1 a2 a3 a4 a5 a6 f5 f6 hCw hCw'
                    go_wp2
                    go_roundw
                    case rel => exact ⟨k + 1, by omega, by go_num, by rw [HCN.out]; simp, by rw [HN.out]; rw [HYE.out]; exact H8⟩
                    case measure => simp [intOf]; omega
          · have HYE : Hid ((if true = true then (if at_ ≤ n ∧ n < at_ + many then mark q number ⟨xc, xb, xn, xk, xi, xo, xg⟩ else ⟨xc, xb, xn, xk, xi, xo, xg⟩) else ⟨xc, xb, xn, xk, xi, xo, xg⟩) = ⟨xc, xb, xn, xk, xi, xo, xg⟩) := by show _ = _; rw [if_pos rfl, if_neg (by omega)]
            go_wp2_with (at_builtin; refine append_lst _ rfl (.tmp 132) (.tmp 134) rfl (w.heap.size + 1) (v := u9) (u := .slice (some ⟨_, 0, none⟩) 1 1) (b := [⟨xc, xb, xn, xk, xi, xo, xg⟩]) rfl rfl (HS2.out.p.own.below ((Below.refl _ _).alloc (Nat.le_refl _) _)) (lst_one' _ ⟨xc, xb, xn, xk, xi, xo, xg⟩ (by simp)) ?ca5 ?cb5 ?_)
            case ca5 => have := HZ.out; simp; omega
            case cb5 => have := HS2.out.p.size; simp at this ⊢; omega
            intro v8 w8 ho hg
            have H8 : Hid (PI w ⟨kind, (q : Int), no, seen, at_, many, text⟩ (.slice (some ⟨b, off, none⟩) len cap) l v8 (zs ++ [⟨xc, xb, xn, xk, xi, xo, xg⟩]) w8) := (HS2.out.p.after ((Below.refl _ _).alloc (Nat.le_refl _) _)).grown H0.out hg ho
            clear ho hg c0 c1 c2 c3 c4 c5 c6 a0 a1 a2 a3 a4 a5 a6 f5 f6 hCw hCw'
            go_wp2
            go_roundw
            case rel => exact ⟨k + 1, by omega, by go_num, by rw [HCN.out]; simp, by rw [HN.out]; rw [HYE.out]; exact H8⟩
            case measure => simp [intOf]; omega
        · have HYE : Hid ((if true = true then (if at_ ≤ n ∧ n < at_ + many then mark q number ⟨xc, xb, xn, xk, xi, xo, xg⟩ else ⟨xc, xb, xn, xk, xi, xo, xg⟩) else ⟨xc, xb, xn, xk, xi, xo, xg⟩) = ⟨xc, xb, xn, xk, xi, xo, xg⟩) := by show _ = _; rw [if_pos rfl, if_neg (by omega)]
          go_wp2_with (at_builtin; refine append_lst _ rfl (.tmp 132) (.tmp 134) rfl (w.heap.size + 1) (v := u9) (u := .slice (some ⟨_, 0, none⟩) 1 1) (b := [⟨xc, xb, xn, xk, xi, xo, xg⟩]) rfl rfl (HS2.out.p.own.below ((Below.refl _ _).alloc (Nat.le_refl _) _)) (lst_one' _ ⟨xc, xb, xn, xk, xi, xo, xg⟩ (by simp)) ?ca6 ?cb6 ?_)
          case ca6 => have := HZ.out; simp; omega
          case cb6 => have := HS2.out.p.size; simp at this ⊢; omega
          intro v8 w8 ho hg
          have H8 : Hid (PI w ⟨kind, (q : Int), no, seen, at_, many, text⟩ (.slice (some ⟨b, off, none⟩) len cap) l v8 (zs ++ [⟨xc, xb, xn, xk, xi, xo, xg⟩]) w8) := (HS2.out.p.after ((Below.refl _ _).alloc (Nat.le_refl _) _)).grown H0.out hg ho
          clear ho hg c0 c1 c2 c3 c4 c5 c6 a0 a1 a2 a3 a4 a5 a6 f5 f6 hCw hCw'
          go_wp2
          go_roundw
          case rel => exact ⟨k + 1, by omega, by go_num, by rw [HCN.out]; simp, by rw [HN.out]; rw [HYE.out]; exact H8⟩
          case measure => simp [intOf]; omega
    · obtain rfl : k = len := by omega
      go_wp2
      go_ret2
      exact ⟨_, rfl, by rw [HD.out]; exact HP.out.own.mono (by omega), HP.out.m.below⟩

theorem mark_non {by_ : Int} {x : Ch} (t : Int) (ht : t = 2 ^ by_.toNat) : mark by_ openN x = ⟨x.c, x.by_, x.no, x.k, x.inn, x.out, x.gone + t⟩ := by
  rw [mark, markOut, ht, if_neg (fun e => e.1 rfl)]

set_option maxRecDepth 20000 in
set_option maxHeartbeats 3200000 in
theorem refDo_take_open (b off len cap : Nat) (l : List Ch) (d : Dd) (w : World) (hl : l.length = len) (hm : len ≤ 1000) (hr : Row w b off l) (hcap : len ≤ cap) (ht : Tame l) (hk : d.kind ≠ 1) (hc : doC l d openN = 0) :
    Calls Tryz.prog 104 #[.slice (some ⟨b, off, none⟩) len cap, ddV d, .int .i64 1073741824] w fun e w' => ∃ v', e = .returned (.tuple #[v', .int .i64 0]) ∧ Own w' w.heap.size v' (doL l d openN) ∧ Below w.heap.size w w' := by
  have H0 : Hid (Lst w (.slice (some ⟨b, off, none⟩) len cap) l) := ⟨_, _, _, rfl, hl, hcap, .inr ⟨b, off, rfl, hr⟩⟩
  have HI : Hid (MInv w w.heap.size d (.slice (some ⟨b, off, none⟩) len cap) l (w.alloc (dObj d))) := minv_start (d := d) H0.out
  have HR : Hid (Row w b off l) := hr
  have HL : Hid (l.length = len) := hl
  have HT : Hid (Tame l) := ht
  obtain ⟨q1, q2, q3, q4⟩ := doC_zero hc
  have HM : Hid (mayC l d = 0) := by
    show mayC l d = 0
    unfold doC at hc
    by_cases hm : mayC l d = 0
    · exact hm
    · rw [if_pos hm] at hc; exact hc
  obtain ⟨_, hw, _, _, _, _, p1, p2, p3, p4, _, _⟩ := check_parts q1
  have HD : Hid (doL l d openN = tkL d openN l len) := by
    show doL l d openN = _
    rw [doL, if_neg hk, tkL, ← hl, List.take_length]
  have hwb : 0 ≤ d.by_ ∧ d.by_ ≤ 3 := by simpa [wrB] using hw
  have hk' : (d.kind == 1) = false := by simp [hk]
  obtain ⟨kind, by_, no, seen, at_, many, text⟩ := d
  simp only at q2 q3 p1 p2 p3 p4 HD hwb hk'
  obtain ⟨hb0, hb3⟩ := hwb
  obtain ⟨q, rfl⟩ := Int.eq_ofNat_of_zero_le hb0
  clear hr hl ht hc hk hw
  go_enter Tryz.func104, Tryz.ntmps104
  go_wp2_with fail
  refine (mayDo_any l ⟨kind, (q : Int), no, seen, at_, many, text⟩ _ _ HI.out.lst (by rw [HL.out]; exact hm) HT.out).mono ?_
  rintro e w1 ⟨rfl, hb1⟩
  rw [HM.out]
  have HI1 : Hid (PI w ⟨kind, (q : Int), no, seen, at_, many, text⟩ (.slice (some ⟨b, off, none⟩) len cap) l (.slice none 0 0) [] w1) := ⟨HI.out.after hb1, own_nil _ _⟩
  clear hb1 HI HM
  obtain ⟨_, c0, c1, c2, c3, c4, c5, c6⟩ := HI1.out.m.at_
  simp only [Nat.zero_add] at c0 c1 c2 c3 c4 c5 c6
  go_wp2
  clear c0 c1 c2 c3 c4 c5 c6
  go_loopw [9, 11, 12] (fun u n i wr => ∃ k : Nat, k ≤ len ∧ i = .int .i64 k ∧ n = .int .i64 (cnt (l.take k) seen q) ∧ Hid (PI w ⟨kind, (q : Int), no, seen, at_, many, text⟩ (.slice (some ⟨b, off, none⟩) len cap) l u (tkL ⟨kind, (q : Int), no, seen, at_, many, text⟩ openN l k) wr)) (fun _ _ i _ => len - (intOf i).toNat)
  case atStart => exact ⟨0, Nat.zero_le _, rfl, rfl, HI1⟩
  case round =>
    obtain ⟨k, hk, rfl, rfl, HP⟩ := hrel
    clear HI1
    by_cases hlt : k < len
    · have hkl : k < l.length := by rw [HL.out]; exact hlt
      obtain ⟨t1, t2, t3, t4⟩ := tame_get HT.out k hkl
      have hcb := cnt_bd (l.take k) seen q
      have hle : (l.take k).length ≤ k := List.length_take_le _ _
      have HCN : Hid (cnt (l.take (k + 1)) seen q = cnt (l.take k) seen q + if seesC seen q l[k] = true then 1 else 0) := by show _ = _; rw [take_snoc l k hkl]; exact cnt_snoc _ _ _ _
      have HN : Hid (_ = _) := tkL_step ⟨kind, (q : Int), no, seen, at_, many, text⟩ openN hkl
      have HZ : Hid ((tkL ⟨kind, (q : Int), no, seen, at_, many, text⟩ openN l k).length ≤ 1000) := by have := tkL_len ⟨kind, (q : Int), no, seen, at_, many, text⟩ openN l k; rw [HL.out] at this; show _ ≤ _; omega
      have HMK : Hid (∀ t : Int, t = 2 ^ (q : Int).toNat → mark q openN l[k] = _) := fun t => mark_non (x := l[k]) t
      obtain ⟨h0, h1, h2, h3, h4, h5, h6⟩ := (HR.out.below HP.out.m.below).at_ k hkl
      obtain ⟨_, c0, c1, c2, c3, c4, c5, c6⟩ := HP.out.m.at_
      simp only [Nat.zero_add] at c0 c1 c2 c3 c4 c5 c6
      simp only at HN
      generalize l[k] = x at h0 h1 h2 h3 h4 h5 h6 HN HCN HMK t1 t2 t3 t4
      generalize cnt (l.take k) seen q = n at *
      generalize tkL ⟨kind, (q : Int), no, seen, at_, many, text⟩ openN l k = zs at *
      obtain ⟨xc, xb, xn, xk, xi, xo, xg⟩ := x
      simp only at h0 h1 h2 h3 h4 h5 h6 t1 t3 t4 HMK
      have HS : Hid (TI w ⟨kind, (q : Int), no, seen, at_, many, text⟩ (.slice (some ⟨b, off, none⟩) len cap) l u9 zs wr.heap.size ⟨xc, xb, xn, xk, xi, xo, xg⟩ (wr.alloc (.cells #[.int .u8 xc, .int .i64 xb, .int .i64 xn, .int .i64 xk, .int .i64 xi, .int .i64 xo, .int .i64 xg] 71))) := ti_start ⟨xc, xb, xn, xk, xi, xo, xg⟩ HP.out
      obtain ⟨hcb0, hcb1⟩ := hcb
      have hnk : n ≤ 1000 := by omega
      clear hle hcb1
      go_wp2_with fail
      refine (refSees_any ⟨xc, xb, xn, xk, xi, xo, xg⟩ _ _ _ t1 (by simp only; omega) (by simp only; omega)).mono ?_
      rintro e w2 ⟨rfl, hb2⟩
      have HS2 : Hid (TI w ⟨kind, (q : Int), no, seen, at_, many, text⟩ (.slice (some ⟨b, off, none⟩) len cap) l u9 zs wr.heap.size ⟨xc, xb, xn, xk, xi, xo, xg⟩ w2) := HS.out.after hb2
      generalize wr.heap.size = C at *
      clear h0 h1 h2 h3 h4 h5 h6 c0 c1 c2 c3 c4 c5 c6 hb2 HS
      obtain ⟨_, c0, c1, c2, c3, c4, c5, c6⟩ := HS2.out.p.m.at_
      obtain ⟨a0, a1, a2, a3, a4, a5, a6⟩ := HS2.out.at_
      have f5 := HS2.out.free 5 (by omega)
      have f6 := HS2.out.free 6 (by omega)
      simp only [Nat.zero_add] at c0 c1 c2 c3 c4 c5 c6 a0 a1 a2 a3 a4 a5 a6
      have hCw : ¬ C = w.heap.size := by have := HS2.out.lo; omega
      have hCw' : ¬ w.heap.size = C := by have := HS2.out.lo; omega
      cases hs : seesC seen q ⟨xc, xb, xn, xk, xi, xo, xg⟩
      · rw [hs] at HN HCN
        go_wp2_with (at_builtin; refine append_lst _ rfl (.tmp 132) (.tmp 134) rfl (w.heap.size + 1) (v := u9) (u := .slice (some ⟨_, 0, none⟩) 1 1) (b := [⟨xc, xb, xn, xk, xi, xo, xg⟩]) rfl rfl (HS2.out.p.own.below ((Below.refl _ _).alloc (Nat.le_refl _) _)) (lst_one' _ ⟨xc, xb, xn, xk, xi, xo, xg⟩ (by simp)) ?ca1 ?cb1 ?_)
        case ca1 => have := HZ.out; simp; omega
        case cb1 => have := HS2.out.p.size; simp at this ⊢; omega
        intro v8 w8 ho hg
        have H8 : Hid (PI w ⟨kind, (q : Int), no, seen, at_, many, text⟩ (.slice (some ⟨b, off, none⟩) len cap) l v8 (zs ++ [⟨xc, xb, xn, xk, xi, xo, xg⟩]) w8) := (HS2.out.p.after ((Below.refl _ _).alloc (Nat.le_refl _) _)).grown H0.out hg ho
        clear ho hg c0 c1 c2 c3 c4 c5 c6 a0 a1 a2 a3 a4 a5 a6 f5 f6 hCw hCw'
        go_wp2
        go_roundw
        case rel => exact ⟨k + 1, by omega, by go_num, by rw [HCN.out]; simp, by rw [HN.out]; exact H8⟩
        case measure => simp [intOf]; omega
      · rw [hs] at HN HCN
        by_cases hA : at_ ≤ n
        · by_cases hB : n < at_ + many
          · have HY : Hid (∀ t : Int, t = 2 ^ (q : Int).toNat → (if true = true then (if at_ ≤ n ∧ n < at_ + many then mark q openN ⟨xc, xb, xn, xk, xi, xo, xg⟩ else ⟨xc, xb, xn, xk, xi, xo, xg⟩) else ⟨xc, xb, xn, xk, xi, xo, xg⟩) = ⟨xc, xb, xn, xk, xi, xo, xg + t⟩) := fun t e => by rw [if_pos rfl, if_pos ⟨hA, hB⟩]; exact HMK.out t e
            go_wp2
            go_loop [14, 15] (fun bit j => ∃ (m : Nat) (t : Int), m ≤ q ∧ j = .int .i64 m ∧ bit = .int .i64 t ∧ Hid (t = 2 ^ m)) (fun _ j => q - (intOf j).toNat)
            case atStart => exact ⟨0, 1, Nat.zero_le _, rfl, rfl, rfl⟩
            case round =>
              obtain ⟨m, t, hmq, rfl, rfl, HTM⟩ := hrel
              have htb : 1 ≤ t ∧ t ≤ 8 := by rw [HTM.out]; exact pow_small (by omega)
              obtain ⟨ht1, ht8⟩ := htb
              by_cases hmlt : m < q
              · go_wp2
                go_round
                case rel => exact ⟨m + 1, t * 2, by omega, by go_num, rfl, by show _ = _; rw [pow_step, HTM.out]⟩
                case measure => simp [intOf]; omega
              · obtain rfl : m = q := by omega
                have HYT : Hid _ := HY.out t (by rw [HTM.out]; rfl)
                have HS3 : Hid (TI w ⟨kind, (m : Int), no, seen, at_, many, text⟩ (.slice (some ⟨b, off, none⟩) len cap) l u9 zs C ⟨xc, xb, xn, xk, xi, xo, xg + t⟩ (w2.setCell ⟨C, 6, none⟩ (.int .i64 (xg + t)))) := HS2.out.gone H0.out _
                clear HY HMK
                have HYE := HYT
                go_wp2_with (at_builtin; refine append_lst _ rfl (.tmp 132) (.tmp 134) rfl (w.heap.size + 1) (v := u9) (u := .slice (some ⟨_, 0, none⟩) 1 1) (b := [⟨xc, xb, xn, xk, xi, xo, xg + t⟩]) rfl rfl (HS3.out.p.own.below ((Below.refl _ _).alloc (Nat.le_refl _) _)) (lst_one' _ ⟨xc, xb, xn, xk, xi, xo, xg + t⟩ (by simp)) ?ca4 ?cb4 ?_)
                case ca4 => have := HZ.out; simp; omega
                case cb4 => have := HS3.out.p.size; simp at this ⊢; omega
                intro v8 w8 ho hg
                have H8 : Hid (PI w ⟨kind, (m : Int), no, seen, at_, many, text⟩ (.slice (some ⟨b, off, none⟩) len cap) l v8 (zs ++ [⟨xc, xb, xn, xk, xi, xo, xg + t⟩]) w8) := (HS3.out.p.after ((Below.refl _ _).alloc (Nat.le_refl _) _)).grown H0.out hg ho
                clear ho hg c0 c1 c2 c3 c4 c5 c6 a0 a1 a2 a3 a4 a5 a6 f5 f6 hCw hCw'
                go_wp2
                go_roundw
                case rel => exact ⟨k + 1, by omega, by go_num, by rw [HCN.out]; simp, by rw [HN.out]; rw [HYE.out]; exact H8⟩
                case measure => simp [intOf]; omega
          · have HYE : Hid ((if true = true then (if at_ ≤ n ∧ n < at_ + many then mark q openN ⟨xc, xb, xn, xk, xi, xo, xg⟩ else ⟨xc, xb, xn, xk, xi, xo, xg⟩) else ⟨xc, xb, xn, xk, xi, xo, xg⟩) = ⟨xc, xb, xn, xk, xi, xo, xg⟩) := by show _ = _; rw [if_pos rfl, if_neg (by omega)]
            go_wp2_with (at_builtin; refine append_lst _ rfl (.tmp 132) (.tmp 134) rfl (w.heap.size + 1) (v := u9) (u := .slice (some ⟨_, 0, none⟩) 1 1) (b := [⟨xc, xb, xn, xk, xi, xo, xg⟩]) rfl rfl (HS2.out.p.own.below ((Below.refl _ _).alloc (Nat.le_refl _) _)) (lst_one' _ ⟨xc, xb, xn, xk, xi, xo, xg⟩ (by simp)) ?ca5 ?cb5 ?_)
            case ca5 => have := HZ.out; simp; omega
            case cb5 => have := HS2.out.p.size; simp at this ⊢; omega
            intro v8 w8 ho hg
            have H8 : Hid (PI w ⟨kind, (q : Int), no, seen, at_, many, text⟩ (.slice (some ⟨b, off, none⟩) len cap) l v8 (zs ++ [⟨xc, xb, xn, xk, xi, xo, xg⟩]) w8) := (HS2.out.p.after ((Below.refl _ _).alloc (Nat.le_refl _) _)).grown H0.out hg ho
            clear ho hg c0 c1 c2 c3 c4 c5 c6 a0 a1 a2 a3 a4 a5 a6 f5 f6 hCw hCw'
            go_wp2
            go_roundw
            case rel => exact ⟨k + 1, by omega, by go_num, by rw [HCN.out]; simp, by rw [HN.out]; rw [HYE.out]; exact H8⟩
            case measure => simp [intOf]; omega
        · have HYE : Hid ((if true = true then (if at_ ≤ n ∧ n < at_ + many then mark q openN ⟨xc, xb, xn, xk, xi, xo, xg⟩ else ⟨xc, xb, xn, xk, xi, xo, xg⟩) else ⟨xc, xb, xn, xk, xi, xo, xg⟩) = ⟨xc, xb, xn, xk, xi, xo, xg⟩) := by show _ = _; rw [if_pos rfl, if_neg (by omega)]
          go_wp2_with (at_builtin; refine append_lst _ rfl (.tmp 132) (.tmp 134) rfl (w.heap.size + 1) (v := u9) (u := .slice (some ⟨_, 0, none⟩) 1 1) (b := [⟨xc, xb, xn, xk, xi, xo, xg⟩]) rfl rfl (HS2.out.p.own.below ((Below.refl _ _).alloc (Nat.le_refl _) _)) (lst_one' _ ⟨xc, xb, xn, xk, xi, xo, xg⟩ (by simp)) ?ca6 ?cb6 ?_)
          case ca6 => have := HZ.out; simp; omega
          case cb6 => have := HS2.out.p.size; simp at this ⊢; omega
          intro v8 w8 ho hg
          have H8 : Hid (PI w ⟨kind, (q : Int), no, seen, at_, many, text⟩ (.slice (some ⟨b, off, none⟩) len cap) l v8 (zs ++ [⟨xc, xb, xn, xk, xi, xo, xg⟩]) w8) := (HS2.out.p.after ((Below.refl _ _).alloc (Nat.le_refl _) _)).grown H0.out hg ho
          clear ho hg c0 c1 c2 c3 c4 c5 c6 a0 a1 a2 a3 a4 a5 a6 f5 f6 hCw hCw'
          go_wp2
          go_roundw
          case rel => exact ⟨k + 1, by omega, by go_num, by rw [HCN.out]; simp, by rw [HN.out]; rw [HYE.out]; exact H8⟩
          case measure => simp [intOf]; omega
    · obtain rfl : k = len := by omega
      go_wp2
      go_ret2
      exact ⟨_, rfl, by rw [HD.out]; exact HP.out.own.mono (by omega), HP.out.m.below⟩

end Go.Proofs.YtfpemdbiplfkgacGreat
