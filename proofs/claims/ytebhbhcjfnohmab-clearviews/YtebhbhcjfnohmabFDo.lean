/-
  The contracts of fold.Do and fold.Text.
-/
import Derived.Test.YtebhbhcjfnohmabFPutW
import Derived.Test.YtebhbhcjfnohmabFTakeW
namespace Go.Proofs.Ytebhbhcjfnohmab
open Go.RowKit

/-- What Do answers: the list, if it has no code. -/
def doR (l : List Ch) (d : Dd) (number : Int) : List Ch := if doC l d number = 0 then doL l d number else []

theorem doC_may {l : List Ch} {d : Dd} {number : Int} (h : mayC l d ≠ 0) : doC l d number = mayC l d := by rw [doC, if_pos h]

theorem ret_do {v : Value} {c c' : Int} (h : c = c') : Ending.returned (.tuple #[v, .int .i64 c]) = .returned (.tuple #[v, .int .i64 c']) := by rw [h]

set_option maxRecDepth 20000 in
set_option maxHeartbeats 800000 in
theorem do_any (l : List Ch) (d : Dd) (number : Int) (v : Value) (w : World) (h : Lst w v l) (hl : l.length ≤ 1000) (hf : FitsL l) :
    Calls Try.prog 48 #[v, ddV d, .int .i64 number] w fun e w' => ∃ v', e = .returned (.tuple #[v', .int .i64 (doC l d number)]) ∧ Own w' w.heap.size v' (doR l d number) ∧ Below w.heap.size w w' := by
  have HI : Hid (MInv w w.heap.size d v l (w.alloc (dObj d))) := minv_start (d := d) h
  by_cases hm : mayC l d = 0
  · by_cases hn : number < 1
    · have HC : Hid (doC l d number = 1) := by show doC l d number = 1; rw [doC, if_neg (fun e => e hm), if_pos hn]
      have HR : Hid (doR l d number = []) := by show doR l d number = []; rw [doR, if_neg (by rw [HC.out]; decide)]
      obtain ⟨kind, by_, no, seen, at_, many, text⟩ := d
      clear h
      go_enter Try.func48, Try.ntmps48
      go_wp2_with fail
      refine (may_any l ⟨kind, by_, no, seen, at_, many, text⟩ v _ HI.out.lst hl).mono ?_
      rintro e w1 ⟨rfl, hb⟩
      rw [hm]
      have HI1 : Hid _ := HI.out.after hb
      clear hb HI
      go_wp2
      go_ret2
      exact ⟨.slice none 0 0, ret_do HC.out.symm, by rw [HR.out]; exact own_nil _ _, HI1.out.below⟩
    · have HC : Hid (doC l d number = 0) := by show doC l d number = 0; rw [doC, if_neg (fun e => e hm), if_neg hn]
      have HR : Hid (doR l d number = doL l d number) := by show doR l d number = _; rw [doR, if_pos HC.out]
      obtain ⟨q1, q2, q3, _⟩ := doC_zero HC.out
      have p3 := (check_parts q1).2.2.2.2.2.2.2.2.1
      by_cases hk : d.kind = 1
      · obtain ⟨kind, by_, no, seen, at_, many, text⟩ := d
        obtain rfl : kind = 1 := hk
        simp only at q2 q3 p3
        clear h
        go_enter Try.func48, Try.ntmps48
        go_wp2_with fail
        refine (may_any l ⟨1, by_, no, seen, at_, many, text⟩ v _ HI.out.lst hl).mono ?_
        rintro e w1 ⟨rfl, hb⟩
        rw [hm]
        have HI1 : Hid _ := HI.out.after hb
        clear hb HI
        obtain ⟨_, c0, c1, c2, c3, c4, c5, c6⟩ := HI1.out.at_
        simp only [Nat.zero_add] at c0 c1 c2 c3 c4 c5 c6
        go_wp2_with fail
        clear c0 c1 c2 c3 c4 c5 c6
        refine (put_any l ⟨1, by_, no, seen, at_, many, text⟩ number v _ HI1.out.lst hl q1 rfl (by simp only; omega)).mono ?_
        rintro e w2 ⟨v', rfl, hL, hb⟩
        have HL : Hid (Own w2 w.heap.size v' _) := hL.mono HI1.out.below.size
        have HB : Hid (Below w.heap.size w w2) := below_after HI1.out.below hb
        clear hL hb HI1
        go_wp2
        go_ret2
        exact ⟨v', ret_do HC.out.symm, by rw [HR.out]; exact HL.out, HB.out⟩
      · have hk' : (d.kind == 1) = false := by simp [hk]
        obtain ⟨kind, by_, no, seen, at_, many, text⟩ := d
        simp only at q2 q3 p3 hk'
        have HK : Hid (kind ≠ 1) := hk
        clear h hk
        go_enter Try.func48, Try.ntmps48
        go_wp2_with fail
        refine (may_any l ⟨kind, by_, no, seen, at_, many, text⟩ v _ HI.out.lst hl).mono ?_
        rintro e w1 ⟨rfl, hb⟩
        rw [hm]
        have HI1 : Hid _ := HI.out.after hb
        clear hb HI
        obtain ⟨_, c0, c1, c2, c3, c4, c5, c6⟩ := HI1.out.at_
        simp only [Nat.zero_add] at c0 c1 c2 c3 c4 c5 c6
        go_wp2_with fail
        clear c0 c1 c2 c3 c4 c5 c6
        refine (take_any l ⟨kind, by_, no, seen, at_, many, text⟩ number v _ HI1.out.lst hl q1 HK.out q2 hf).mono ?_
        rintro e w2 ⟨v', rfl, hL, hb⟩
        have HL : Hid (Own w2 w.heap.size v' _) := hL.mono HI1.out.below.size
        have HB : Hid (Below w.heap.size w w2) := below_after HI1.out.below hb
        clear hL hb HI1
        go_wp2
        go_ret2
        exact ⟨v', ret_do HC.out.symm, by rw [HR.out]; exact HL.out, HB.out⟩
  · have HC : Hid (doC l d number = mayC l d) := doC_may hm
    have HR : Hid (doR l d number = []) := by show doR l d number = []; rw [doR, if_neg (by rw [HC.out]; exact hm)]
    have hne : (mayC l d != 0) = true := by simp [hm]
    obtain ⟨kind, by_, no, seen, at_, many, text⟩ := d
    clear h hm
    go_enter Try.func48, Try.ntmps48
    go_wp2_with fail
    refine (may_any l ⟨kind, by_, no, seen, at_, many, text⟩ v _ HI.out.lst hl).mono ?_
    rintro e w1 ⟨rfl, hb⟩
    have HI1 : Hid _ := HI.out.after hb
    clear hb HI
    generalize mayC l ⟨kind, by_, no, seen, at_, many, text⟩ = c at *
    go_wp2
    go_ret2
    exact ⟨.slice none 0 0, ret_do HC.out.symm, by rw [HR.out]; exact own_nil _ _, HI1.out.below⟩

/-- What Text says of a byte: it was taken away by what has a number; it is there. -/
def goneB (x : Ch) : Bool := decide (x.out ≠ 0) && decide (x.out ≠ openN)
def textB (x : Ch) : Bool := decide (x.inn ≠ openN) && !goneB x
def textL (l : List Ch) : List Int := (l.filter textB).map (·.c)

theorem textL_snoc (l : List Ch) (x : Ch) : textL (l ++ [x]) = textL l ++ if textB x = true then [x.c] else [] := by
  unfold textL
  rw [List.filter_append]
  by_cases h : textB x = true <;> simp [h]

theorem textL_le (l : List Ch) : (textL l).length ≤ l.length := by
  unfold textL
  have := List.length_filter_le textB l
  simpa using this

theorem textL_plain {n : Int} {l : List Ch} (h : Plain n l) (hn : n < openN) : textL l = l.map (·.c) := by
  unfold textL
  rw [List.filter_eq_self.2]
  intro x hx
  obtain ⟨h1, h2, _⟩ := h x hx
  simp [textB, goneB, h2]
  omega

theorem ret_str {a b : ByteArray} (h : a = b) : Ending.returned (.string a) = .returned (.string b) := by rw [h]

set_option maxRecDepth 20000 in
set_option maxHeartbeats 400000 in
theorem text_empty (a : Option Addr) (cap : Nat) (w : World) :
    Calls Try.prog 33 #[.slice a 0 cap] w fun e w' => e = .returned (.string ⟨#[]⟩) ∧ Below w.heap.size w w' := by
  have hs : (convert 61 9 (.slice none 0 0)).run Try.prog w = .ok (.string (strOfNums [])) w := own_string (base := w.heap.size) (zs := []) (World.ownsRow_nil _ _ _ _)
  go_enter Try.func33, Try.ntmps33
  go_wp2
  refine wp_loop_rounds 1 ?_
  rw [rounds_succ]
  go_wp2
  go_ret
  exact ⟨rfl, Below.refl _ _⟩

set_option maxRecDepth 20000 in
set_option maxHeartbeats 400000 in
theorem goneIn_any (x : Ch) (w : World) :
    Calls Try.prog 59 #[chV x] w fun e w' => e = .returned (.bool (goneB x)) ∧ Below w.heap.size w w' := by
  obtain ⟨c, b, no, k, i, o, g⟩ := x
  by_cases h1 : o = 0
  · have h1' : (o != 0) = false := by simp [h1]
    have H1 : Hid (o = 0) := h1
    clear h1
    go_enter Try.func59, Try.ntmps59
    go_wp2
    go_ret
    exact ⟨ret_b (by simp [goneB, H1.out]), (Below.refl _ _).alloc (Nat.le_refl _) _⟩
  · have h1' : (o != 0) = true := by simp [h1]
    have H1 : Hid (o ≠ 0) := h1
    clear h1
    by_cases h2 : o = openN
    · have h2' : (o != 1073741824) = false := by simp [h2]
      have H2 : Hid (o = openN) := h2
      clear h2
      go_enter Try.func59, Try.ntmps59
      go_wp2
      go_ret
      exact ⟨ret_b (by simp [goneB, H2.out]), (Below.refl _ _).alloc (Nat.le_refl _) _⟩
    · have h2' : (o != 1073741824) = true := by simpa using h2
      have H2 : Hid (o ≠ openN) := h2
      clear h2
      go_enter Try.func59, Try.ntmps59
      go_wp2
      go_ret
      exact ⟨ret_b (by have h1 := H1.out; have h2 := H2.out; simp [goneB, h1, h2]), (Below.refl _ _).alloc (Nat.le_refl _) _⟩

set_option maxRecDepth 20000 in
set_option maxHeartbeats 800000 in
theorem text_some (b off len cap : Nat) (l : List Ch) (w : World) (hl : l.length = len) (hm : len ≤ 100000) (hr : Row w b off l) :
    Calls Try.prog 33 #[.slice (some ⟨b, off, none⟩) len cap] w fun e w' => e = .returned (.string (strOfNums (textL l))) ∧ Below w.heap.size w w' := by
  have HR : Hid (Row w b off l) := hr
  have HL : Hid (l.length = len) := hl
  have hb := hr.lt
  clear hr hl
  obtain ⟨i0, hi, hz0, hz1, hz2⟩ := info_parts Try.infoByte
  go_enter Try.func33, Try.ntmps33
  go_wp2
  go_loopw [3, 8] (fun v i wr => ∃ k : Nat, k ≤ len ∧ i = .int .i64 k ∧ Hid (wr.ownsRow w.heap.size 5 1 v (textL (l.take k)).length (cells8 (textL (l.take k)))) ∧ Hid (Below w.heap.size w wr)) (fun _ i _ => len - (intOf i).toNat)
  case atStart => exact ⟨0, Nat.zero_le _, rfl, World.ownsRow_nil _ _ _ _, Below.refl _ _⟩
  case round =>
    obtain ⟨k, hk, rfl, HO, HB⟩ := hrel
    by_cases hlt : k < len
    · have hkl : k < l.length := by rw [HL.out]; exact hlt
      have hd := textL_le (l.take k)
      have hle : (l.take k).length ≤ k := List.length_take_le _ _
      have HN : Hid (textL (l.take (k + 1)) = textL (l.take k) ++ if textB l[k] = true then [l[k].c] else []) := by show _ = _; rw [take_snoc l k hkl]; exact textL_snoc _ _
      obtain ⟨h0, h1, h2, h3, h4, h5, h6⟩ := (HR.out.below HB.out).at_ k hkl
      generalize l[k] = x at h0 h1 h2 h3 h4 h5 h6 HN
      generalize textL (l.take k) = zs at *
      have hzs : zs.length ≤ 100000 := by omega
      have HB' : Hid (∀ o, Below w.heap.size w (wr.alloc o)) := fun o => HB.out.alloc HB.out.size _
      clear hd hle
      by_cases hin : x.inn = openN
      · have hin' : (x.inn != 1073741824) = false := by simp [hin]
        have HT : Hid (textB x = false) := by show textB x = false; simp [textB, hin]
        rw [HT.out] at HN
        clear hin
        go_wp2
        go_roundw
        case rel => exact ⟨k + 1, by omega, by go_num, by show World.ownsRow _ _ _ _ _ _ _; rw [HN.out, if_neg (by simp), List.append_nil]; exact HO.out.alloc _, HB'.out _⟩
        case measure => simp [intOf]; omega
      · have hin' : (x.inn != 1073741824) = true := by simp; exact hin
        have HIN : Hid (x.inn ≠ openN) := hin
        clear hin
        go_wp2_with fail
        refine (goneIn_any x _).mono ?_
        rintro e w1 ⟨rfl, hb1⟩
        have HB1 : Hid (Below w.heap.size w w1) := below_after (HB'.out _) hb1
        have HO1 : Hid (w1.ownsRow w.heap.size 5 1 _ zs.length (cells8 zs)) := owns_below (HO.out.alloc (.cells #[.int .u8 x.c, .int .i64 x.by_, .int .i64 x.no, .int .i64 x.k, .int .i64 x.inn, .int .i64 x.out, .int .i64 x.gone] 65)) hb1
        cases hg : goneB x
        · have HT : Hid (textB x = true) := by show textB x = true; simp [textB, HIN.out, hg]
          rw [HT.out] at HN
          obtain ⟨hc, hf⟩ := bcell hb1
          clear hg h0 h1 h2 h3 h4 h5 h6
          go_wp2_with (at_builtin; refine wpList_append_own _ rfl (.tmp 20) (.tmp 23) 61 rfl w.heap.size 5 i0 (.int .u8 0) 1 1 Try.underlying61 hi hz0 hz1 hz2 rfl (by decide) _ _ _ rfl (HO1.out.alloc _) ⟨w1.heap.size, 0, none⟩ 1 1 [.int .u8 x.c] rfl rfl ?c1 ?c2 ?c3 ?c4 ?c5 ?_)
          case c1 =>
            intro j u hj
            match j, hj with
            | 0, hj => simp at hj; subst hj; simp [Addr.add]
          case c2 => intro u hu; simp at hu; subst hu; rfl
          case c3 => unfold maxLen; omega
          case c4 => omega
          case c5 => have := HB1.out.size; simp; omega
          · intro v' w2 hown' hgrow _
            have HO2 : Hid (w2.ownsRow w.heap.size 5 1 v' (zs.length + 1) (cells8 zs ++ [.int .u8 x.c])) := hown'
            have HB2 : Hid (Below w.heap.size w w2) := (HB1.out.alloc HB1.out.size _).grown hgrow (by have := HB1.out.size; simp; omega) (fun j hj => (World.ownsRow.lt HO1.out j hj).1)
            clear hown' hgrow hc hf hb1
            go_wp2
            go_roundw
            case rel => exact ⟨k + 1, by omega, by go_num, by
                have e := HO2.out
                show World.ownsRow _ _ _ _ _ _ _
                rw [HN.out, if_pos trivial, List.length_append, cells8, List.map_append]
                exact e, HB2⟩
            case measure => simp [intOf]; omega
        · have HT : Hid (textB x = false) := by show textB x = false; simp [textB, hg]
          rw [HT.out] at HN
          clear hg h0 h1 h2 h3 h4 h5 h6 hb1
          go_wp2
          go_roundw
          case rel => exact ⟨k + 1, by omega, by go_num, by show World.ownsRow _ _ _ _ _ _ _; rw [HN.out, if_neg (by simp), List.append_nil]; exact HO1.out, HB1⟩
          case measure => simp [intOf]; omega
    · obtain rfl : k = len := by omega
      have HE : Hid (l.take k = l) := by show _ = _; rw [← HL.out, List.take_length]
      have hs := own_string HO.out
      go_wp2
      go_ret
      exact ⟨ret_str (by rw [HE.out]), HB.out⟩

theorem text_lst {w : World} {v : Value} {l : List Ch} (h : Lst w v l) (hl : l.length ≤ 1000) :
    Calls Try.prog 33 #[v] w fun e w' => e = .returned (.string (strOfNums (textL l))) ∧ Below w.heap.size w w' := by
  obtain ⟨a, len, cap, rfl, h1, h2, h3⟩ := h
  rcases h3 with rfl | ⟨b, off, rfl, hr⟩
  · obtain rfl : l = [] := List.length_eq_zero_iff.1 h1
    exact text_empty a cap w
  · exact text_some b off len cap l w h1 (by omega) hr

end Go.Proofs.Ytebhbhcjfnohmab
