/-
  The contracts of package story: Of, Len, then, Text, By, Where; SameInts of two that are the same.
-/
import Derived.Test.YtcbnnfeelhlapadGreatDoorStMem
import Derived.Test.YtcbnnfeelhlapadGreatDoorShelf
import Derived.Test.YtcbnnfeelhlapadGreatDoorDPlain
import Derived.Lib.AtoiAllCases
import Derived.Lib.AtoiErrMem
import Derived.Test.YtcbnnfeelhlapadGreatDoorDLeaf
import Derived.Lib.ItoaLen
import Derived.Deep.RegionWith
import Derived.Laws.ResultCell
import Derived.BigRegion
import Derived.RegionTactic
import Derived.ChangeAlike
namespace Go.Proofs.YtcbnnfeelhlapadGreatDoor
set_option maxRecDepth 20000
open Go Go.RowKit
def inS (b : Bk) (n : Int) : Bool := decide (0 ≤ n ∧ n ≤ b.ds.length)
def thS (b : Bk) (n : Int) : List Ch := if 0 ≤ n ∧ n ≤ b.ds.length then thenL b.chars n else []
theorem thS_le (b : Bk) (n : Int) : (thS b n).length ≤ b.chars.length := by
 unfold thS
 split
 ·exact thenL_le _ _
 ·exact Nat.zero_le _
theorem stC_start (w : World) (n : Nat) (lv : Value) : StC (w.alloc (.cells #[.int .i64 n, lv] 220)) w.heap.size n lv := by
 refine ⟨by simp, ?_, ?_⟩ <;> simp [go_sem]
set_option maxHeartbeats 800000 in
theorem of_dk {base : Nat} {S : Nat → Prop} {w0 w : World} {D G : Nat} {pw : Nat → Nat} {t : Twn} (h : DkAny base w0 S D G pw t w) :
 Calls Tryz.prog 140 #[.pointer (some ⟨G, 0, none⟩)] w fun e w' => ∃ P, e = .returned (.pointer (some ⟨P, 0, none⟩)) ∧ StTo w' w.heap.size P t.b ∧ Below w.heap.size w w' := by
 have HA : Hid (DkAny base w0 S D G pw t w) := h
 clear h
 go_enter Tryz.func140, Tryz.ntmps140
 go_wp2_with fail
 refine HA.out.len.mono ?_
 rintro e w1 ⟨rfl, hw1⟩
 rw [hw1]
 clear hw1 w1
 go_wp2_with fail
 refine HA.out.chars.mono ?_
 rintro e w2 ⟨v2, rfl, ho, hb⟩
 have HO : Hid (Own w2 w.heap.size v2 t.b.chars) := ho
 have HB : Hid (Below w.heap.size w w2) := hb
 obtain ⟨a2, c2, rfl, -⟩ := ho.lst.len
 clear ho hb
 go_wp2
 go_ret
 refine ⟨w2.heap.size, rfl, ⟨_, HB.out.size, stC_start w2 _ _, HO.out.below (below1 _ _)⟩, HB.out.alloc HB.out.size _⟩
theorem ret_vb {v : Value} {x y : Bool} (h : x = y) : Ending.returned (.tuple #[v, .bool x]) = .returned (.tuple #[v, .bool y]) := by rw [h]
section
variable {w : World} {lo P : Nat} {b : Bk}
theorem lst_newC (w : World) (x : Ch) : Lst (w.alloc (.cells #[.int .u8 x.c, .int .i64 x.by_, .int .i64 x.no, .int .i64 x.k, .int .i64 x.inn, .int .i64 x.out, .int .i64 x.gone] 127)) (.slice (some ⟨w.heap.size, 0, none⟩) 1 1) [x] := by
 refine ⟨_, 1, 1, rfl, rfl, Nat.le_refl _, .inr ⟨_, 0, rfl, by simp, ?_⟩⟩
 intro i hi
 obtain rfl : i = 0 := by simpa using hi
 unfold At
 simp [go_sem]
theorem below_grownC {w wr w2 : World} {v : Value} {l : List Ch} (hb : Below w.heap.size w wr) (ho : Own wr w.heap.size v l) (hg : wr.grownBy w2 v.ownBlock) : Below w.heap.size w w2 :=
 hb.grown hg (by have := hb.size; omega) (fun j hj => (World.ownsRow.lt ho j hj).1)
structure ThI (w : World) (v : Value) (l : List Ch) (wk : World) : Prop where
 below : Below w.heap.size w wk
 own : Own wk w.heap.size v l
theorem ThI.after {w wk w' : World} {v : Value} {l : List Ch} (h : ThI w v l wk) (hb : Below wk.heap.size wk w') : ThI w v l w' := ⟨bla h.below hb, h.own.below hb⟩
set_option maxHeartbeats 3200000 in
theorem then_st (h : StTo w lo P b) (n : Int) :
 Calls Tryz.prog 186 #[.pointer (some ⟨P, 0, none⟩), .int .i64 n] w fun e w' => ∃ v, e = .returned (.tuple #[v, .bool (inS b n)]) ∧ Own w' w.heap.size v (thS b n) ∧ Below w.heap.size w w' := by
 obtain ⟨lv, h⟩ := h
 have c0 := h.cells.deeds
 have c1 := h.cells.list
 have hlt := h.cells.lt
 have HL : Hid (Lst w lv b.chars) := h.own.lst
 have hcl := small_chars (b := b)
 obtain ⟨a, cap, rfl, hcap⟩ := h.own.lst.len
 by_cases hn : 0 ≤ n ∧ n ≤ b.ds.length
 ·have HIN : Hid (inS b n = true) := by show inS b n = true; unfold inS; exact decide_eq_true hn
  have HTH : Hid (thS b n = thenL b.chars n) := by show thS b n = _; unfold thS; rw [if_pos hn]
  obtain ⟨hn0, hn1⟩ := hn
  clear h
  generalize b.chars = l at *
  go_enter Tryz.func186, Tryz.ntmps186
  go_wp2
  go_loopw [6, 24] (fun v i wr => ∃ k : Nat, k ≤ l.length ∧ i = .int .i64 k ∧ Hid (ThI w v (thenL (l.take k) n) wr)) (fun _ i _ => l.length - (intOf i).toNat)
  case atStart => exact ⟨0, Nat.zero_le _, rfl, Below.refl _ _, own_nil _ _⟩
  case round =>
   obtain ⟨k, hk, rfl, HI⟩ := hrel
   clear c0 c1
   by_cases hkl : k < l.length
   ·have hki : (k : Int) < (l.length : Int) := by omega
    have HN : Hid (thenL (l.take (k + 1)) n = thenL (l.take k) n ++ if seesC n (-1) l[k] = true then [l[k]] else []) := by
     show thenL _ _ = _
     rw [take_snoc l k hkl]
     exact thenL_snoc _ _ _
    have HZ : Hid ((thenL (l.take k) n).length ≤ 200) := by
     show _ ≤ _
     have := thenL_le (l.take k) n
     rw [List.length_take] at this
     omega
    obtain ⟨bb, off, rfl, hr⟩ : ∃ b off, a = some ⟨b, off, none⟩ ∧ Row wr b off l := by
     obtain ⟨b1, o1, e1, _, r1⟩ := (HL.out.below HI.out.below).row (by omega)
     exact ⟨b1, o1, e1, r1⟩
    have hbl := hr.lt
    obtain ⟨h0, h1, h2, h3, h4, h5, h6⟩ := hr.at_ k hkl
    generalize l[k] = x at *
    generalize thenL (l.take k) n = zs at *
    clear hr
    go_wp2_with fail
    refine (sees_any x _ _ _).mono ?_
    rintro e w1 ⟨rfl, hb1⟩
    have HI0 : Hid (ThI w u6 zs (wr.alloc (.cells #[.int .u8 x.c, .int .i64 x.by_, .int .i64 x.no, .int .i64 x.k, .int .i64 x.inn, .int .i64 x.out, .int .i64 x.gone] 127))) := HI.out.after (below1 _ _)
    have HI1 : Hid (ThI w u6 zs w1) := HI0.out.after hb1
    have HN' : Hid (thenL (l.take (k + 1)) n = zs ++ if seesB x.by_ x.inn x.out x.gone n (-1) = true then [x] else []) := HN
    have HA1 : Hid (At w1 wr.heap.size 0 x) := by
     obtain ⟨hc, hf⟩ := bcell hb1
     show At _ _ _ _
     unfold At
     simp only [hc _ _ (show wr.heap.size < (wr.alloc _).heap.size by simp)]
     simp [go_sem]
    have hs1 : wr.heap.size < w1.heap.size := by have := hb1.size; simp at this; omega
    clear h0 h1 h2 h3 h4 h5 h6 HN HI HI0 hb1
    cases hs : seesB x.by_ x.inn x.out x.gone n (-1)
    ·rw [hs] at HN'
     clear HA1 hs1
     go_wp2
     go_roundw
     case rel => exact ⟨k + 1, by omega, by go_num, by show ThI _ _ _ _; rw [HN'.out]; simpa using HI1.out⟩
     case measure => simp [intOf]; omega
    ·rw [hs] at HN'
     obtain ⟨h0, h1, h2, h3, h4, h5, h6⟩ := HA1.out
     simp only [Nat.zero_add] at h1 h2 h3 h4 h5 h6
     go_wp2_with (at_builtin; refine append_lst _ (by rfl) (.tmp 31) (.tmp 33) (by rfl) w.heap.size (v := u6) (u := .slice (some ⟨w1.heap.size, 0, none⟩) 1 1) (a := zs) (b := [x]) (by rfl) (by rfl) (HI1.out.after (below1 _ _)).own (lst_newC w1 x) (by have := HZ.out; show _ + 1 ≤ 100000; omega) (HI1.out.after (below1 _ _)).below.size ?_)
     intro v' w2 ho hg
     have H2 : Hid (ThI w v' (thenL (l.take (k + 1)) n) w2) := by
      show ThI _ _ _ _
      rw [HN'.out]
      exact ⟨below_grownC (HI1.out.after (below1 _ _)).below (HI1.out.after (below1 _ _)).own hg, by simpa using ho⟩
     clear ho hg h0 h1 h2 h3 h4 h5 h6 hs1 HA1 HI1
     go_wp2
     go_roundw
     case rel => exact ⟨k + 1, by omega, by go_num, H2.out⟩
     case measure => simp [intOf]; omega
   ·obtain rfl : k = l.length := by omega
    have HE : Hid (thenL (l.take l.length) n = thenL l n) := by show thenL _ _ = _; rw [List.take_length]
    go_wp2
    go_ret2
    refine ⟨_, ret_vb HIN.out.symm, ?_, HI.out.below⟩
    rw [HTH.out, ← HE.out]
    exact HI.out.own
 ·have HIN : Hid (inS b n = false) := by show inS b n = false; unfold inS; exact decide_eq_false hn
  have HTH : Hid (thS b n = []) := by show thS b n = _; unfold thS; rw [if_neg hn]
  clear h
  by_cases h0 : n < 0
  ·go_enter Tryz.func186, Tryz.ntmps186
   go_wp2
   go_ret2
   refine ⟨.slice none 0 0, ret_vb HIN.out.symm, ?_, Below.refl _ _⟩
   rw [HTH.out]
   exact own_nil _ _
  ·have h1 : (b.ds.length : Int) < n := by
    have : ¬ n ≤ (b.ds.length : Int) := fun e => hn ⟨by omega, e⟩
    omega
   go_enter Tryz.func186, Tryz.ntmps186
   go_wp2
   go_ret2
   refine ⟨.slice none 0 0, ret_vb HIN.out.symm, ?_, Below.refl _ _⟩
   rw [HTH.out]
   exact own_nil _ _
end
end Go.Proofs.YtcbnnfeelhlapadGreatDoor

/-
  What a world must hold for the library's Itoa, Atoi and SplitN (the table of powers, the two errors, MaxLen), that it stays, and the three contracts.
-/
namespace Go.Proofs.YtcbnnfeelhlapadGreatDoor
open Go.RowKit
theorem var_on {W W' : World} {g : Nat} {n : String} {cs : Array Value} (hg : Tryz.prog.globalNamed n = some g) (h : W.var? Tryz.prog n = some cs) (hb : Below W.heap.size W W') : W'.var? Tryz.prog n = some cs := by
 unfold World.var? at h ⊢
 rw [hg] at h ⊢
 simp only [Option.bind_some] at h ⊢
 have hlt : g < W.heap.size := by
  rcases Nat.lt_or_ge g W.heap.size with h' | h'
  ·exact h'
  ·rw [Array.getElem?_eq_none h'] at h; cases h
 rw [hb.block g (by omega)]
 exact h
theorem cell_on {w w' : World} {a : Nat} {o : Nat} {v : Value} (h : w.cell? ⟨a, o, none⟩ = some v) (hb : Below w.heap.size w w') : w'.cell? ⟨a, o, none⟩ = some v := by
 have hlt : a < w.heap.size := by
  rcases Nat.lt_or_ge a w.heap.size with h' | h'
  ·exact h'
  ·simp [World.cell?, Array.getElem?_eq_none h'] at h
 rw [hb.cell (p := ⟨a, o, none⟩) hlt]
 exact h
structure Ready (w : World) : Prop where
 tab : Lib.TabIs Tryz.prog w "internal/strconv.uint64pow10" .u64 Lib.pow10Tab
 syn : ∃ t p, w.var? Tryz.prog "strconv.ErrSyntax" = some #[.iface t p]
 rng : ∃ t p, w.var? Tryz.prog "strconv.ErrRange" = some #[.iface t p]
 mx : ∃ m, w.cell? ⟨0, 0, none⟩ = some (.int .i64 m)
theorem Ready.below {w w' : World} (h : Ready w) (hb : Below w.heap.size w w') : Ready w' where
 tab := var_on (g := 5) (by kernel_rfl) h.tab hb
 syn := let ⟨t, p, e⟩ := h.syn; ⟨t, p, var_on (g := 1) (by kernel_rfl) e hb⟩
 rng := let ⟨t, p, e⟩ := h.rng; ⟨t, p, var_on (g := 2) (by kernel_rfl) e hb⟩
 mx := let ⟨m, e⟩ := h.mx; ⟨m, cell_on e hb⟩
def inI (n : Int) : Prop := -9223372036854775808 ≤ n ∧ n ≤ 9223372036854775807
def strI (n : Int) : ByteArray := ⟨(Lib.itoa n).toArray⟩
theorem itoa_any (n : Int) (hn : inI n) (w : World) (hw : Ready w) :
 Calls Tryz.prog 53 #[.int .i64 n] w fun e w' => e = .returned (.string (strI n)) ∧ Below w.heap.size w w' := by
 refine (Tryz.strconv_Itoa n hn.1 hn.2 w hw.tab).mono ?_
 rintro e w' ⟨rfl, k, os, rfl⟩
 refine ⟨rfl, rfl, rfl, rfl, ?_, fun j hj => ?_⟩
 ·show w.heap.size ≤ (w.heap ++ os).size
  rw [Array.size_append]; omega
 ·show (w.heap ++ os)[j]? = w.heap[j]?
  exact Array.getElem?_append_left hj
def numAll (s : ByteArray) : Option Int := match Lib.atoiAll s.data.toList with | .ok v => some v | _ => none
theorem numAll_in {s : ByteArray} {v : Int} (h : numAll s = some v) : inI v := by
 unfold numAll at h
 cases ha : Lib.atoiAll s.data.toList with
 | ok u => rw [ha] at h; obtain rfl := Option.some.inj h; exact Lib.atoiAll_bounds ha
 | «syntax» => rw [ha] at h; cases h
 | range => rw [ha] at h; cases h
theorem atoi_ok (s : ByteArray) (v : Int) (hs : s.size ≤ 281474976710656) (h : numAll s = some v) (w : World) :
 Calls Tryz.prog 52 #[.string s] w fun e w' => e = .returned (.tuple #[.int .i64 v, .nilIface]) ∧ Below w.heap.size w w' := by
 unfold numAll at h
 cases ha : Lib.atoiAll s.data.toList with
 | ok u =>
  rw [ha] at h; obtain rfl := Option.some.inj h
  refine (Tryz.strconv_Atoi_ok s (by omega) u ha w).mono ?_
  rintro e w' ⟨rfl, rfl | ⟨t, rfl⟩⟩
  ·exact ⟨rfl, Below.refl _ _⟩
  ·exact ⟨rfl, Lib.bytesWorld_below _ _ _⟩
 | «syntax» => rw [ha] at h; cases h
 | range => rw [ha] at h; cases h
theorem atoi_no (s : ByteArray) (hs : s.size ≤ 281474976710656) (h : numAll s = none) (w : World) (hw : Ready w) :
 Calls Tryz.prog 52 #[.string s] w fun e w' => ∃ v t q, e = .returned (.tuple #[.int .i64 v, .iface t q]) ∧ inI v ∧ Below w.heap.size w w' := by
 unfold numAll at h
 cases ha : Lib.atoiAll s.data.toList with
 | ok u => rw [ha] at h; cases h
 | «syntax» =>
  obtain ⟨t, p, e⟩ := hw.syn
  refine (Tryz.strconv_Atoi_syntax_var s hs ha t p w e).mono ?_
  rintro e w' ⟨N, rfl, _, _, hb⟩
  exact ⟨_, _, _, rfl, by unfold inI; omega, hb⟩
 | range =>
  obtain ⟨t, p, e⟩ := hw.rng
  refine (Tryz.strconv_Atoi_range_var s hs ha t p w e).mono ?_
  rintro e w' ⟨N, rfl, _, _, hb⟩
  exact ⟨_, _, _, rfl, Lib.atoiSat_bounds _, hb⟩
end Go.Proofs.YtcbnnfeelhlapadGreatDoor

/-
  The contracts of told and Line (package deed), and of the document's num and LineOf.
-/
namespace Go.Proofs.YtcbnnfeelhlapadGreatDoor
set_option maxRecDepth 20000
open Go.RowKit
def toldB (zs : List Int) : ByteArray := zs.foldl (fun acc z => acc ++ (⟨#[32]⟩ ++ strI z)) ⟨#[]⟩
theorem told_snoc (zs : List Int) (z : Int) : toldB (zs ++ [z]) = toldB zs ++ (⟨#[32]⟩ ++ strI z) := by
 unfold toldB
 rw [List.foldl_append]
 rfl
theorem ret_strD {a b : ByteArray} (h : a = b) : Ending.returned (.string a) = .returned (.string b) := by rw [h]
theorem strI_size {n : Int} (h : inI n) : (strI n).size ≤ 21 := by
 show ((Lib.itoa n).toArray).size ≤ 21
 rw [List.size_toArray]
 exact Lib.itoa_length_le n h.1 h.2
theorem told_fold : ∀ (zs : List Int) (acc : ByteArray), (∀ z ∈ zs, inI z) → (zs.foldl (fun acc z => acc ++ (⟨#[32]⟩ ++ strI z)) acc).size ≤ acc.size + 22 * zs.length
 | [], acc, _ => by simp
 | z :: l, acc, h => by
  have h1 := told_fold l (acc ++ (⟨#[32]⟩ ++ strI z)) (fun x hx => h x (by simp [hx]))
  have h2 := strI_size (h z (by simp))
  rw [ByteArray.size_append, ByteArray.size_append] at h1
  have : (⟨#[32]⟩ : ByteArray).size = 1 := rfl
  rw [List.foldl_cons, List.length_cons]
  omega
theorem told_size (zs : List Int) (h : ∀ z ∈ zs, inI z) : (toldB zs).size ≤ 22 * zs.length := by
 have := told_fold zs ⟨#[]⟩ h
 have e : (⟨#[]⟩ : ByteArray).size = 0 := rfl
 unfold toldB
 omega
structure Ints (w : World) (b off : Nat) (zs : List Int) : Prop where
 lt : b < w.heap.size
 cell : ∀ (i : Nat) (h : i < zs.length), w.cell? ⟨b, off + i, none⟩ = some (.int .i64 (zs[i]'h))
theorem Ints.below {w w' : World} {b off : Nat} {zs : List Int} (h : Ints w b off zs) (hb : Below w.heap.size w w') : Ints w' b off zs :=
 ⟨by have := hb.size; have := h.lt; omega, fun i hi => cell_on (h.cell i hi) hb⟩
theorem take_snocI (l : List Int) (k : Nat) (h : k < l.length) : l.take (k + 1) = l.take k ++ [l[k]] := by
 rw [List.take_add_one, List.getElem?_eq_getElem h]; rfl
set_option maxHeartbeats 400000 in
theorem toldD_any (b off n cap : Nat) (zs : List Int) (w : World) (hw : Ready w) (hn : zs.length = n) (hm : n ≤ 5) (hz : ∀ z ∈ zs, inI z) (hr : Ints w b off zs) :
 Calls Tryz.prog 184 #[.slice (some ⟨b, off, none⟩) n cap] w fun e w' => e = .returned (.string (toldB zs)) ∧ Below w.heap.size w w' := by
 have HR : Hid (Ints w b off zs) := hr
 have HL : Hid (zs.length = n) := hn
 have HZ : Hid _ := hz
 have HW : Hid _ := hw
 have hb := hr.lt
 have HT : Hid (toldB (zs.take n) = toldB zs) := by show toldB (zs.take n) = toldB zs; rw [← hn, List.take_length]
 clear hr hn hz hw
 go_enter Tryz.func184, Tryz.ntmps184
 go_wp2
 go_loopw [3, 8] (fun t i wr => ∃ k : Nat, k ≤ n ∧ i = .int .i64 k ∧ t = .string (toldB (zs.take k)) ∧ Below w.heap.size w wr) (fun _ i _ => n - (intOf i).toNat)
 case atStart => exact ⟨0, Nat.zero_le _, rfl, rfl, Below.refl _ _⟩
 case round =>
  obtain ⟨k, hk, rfl, rfl, hbel⟩ := hrel
  by_cases hlt : k < n
  ·have hkl : k < zs.length := by rw [HL.out]; exact hlt
   have HN : Hid (toldB (zs.take (k + 1)) = toldB (zs.take k) ++ (⟨#[32]⟩ ++ strI zs[k])) := by rw [take_snocI zs k hkl]; exact told_snoc _ _
   have HI : Hid (inI zs[k]) := HZ.out _ (List.getElem_mem _)
   have hs1 : (strI zs[k]).size ≤ 21 := strI_size HI.out
   have hs2 : (toldB (zs.take k)).size ≤ 22 * 5 := by
    have h := told_size (zs.take k) (fun z hz => HZ.out z (List.mem_of_mem_take hz))
    have := List.length_take_le k zs
    omega
   have h0 := (HR.out.below hbel).cell k hkl
   generalize zs[k] = z at h0 HN HI hs1
   go_wp2_with fail
   refine (itoa_any z HI.out _ (HW.out.below hbel)).mono ?_
   rintro e w1 ⟨rfl, hb1⟩
   have hb2 : Below w.heap.size w w1 := bla hbel hb1
   clear h0 hb1 hbel
   go_wp2
   go_roundw
   case rel => exact ⟨k + 1, by omega, by go_num, by rw [HN.out], hb2⟩
   case measure => simp [intOf]; omega
  ·go_wp2
   go_ret
   obtain rfl : k = n := by omega
   exact ⟨ret_strD HT.out, hbel⟩
structure At7 (w : World) (B : Nat) (d : Dd) : Prop where
 lt : B < w.heap.size
 c0 : w.cell? ⟨B, 0, none⟩ = some (.int .i64 d.kind)
 c1 : w.cell? ⟨B, 1, none⟩ = some (.int .i64 d.by_)
 c2 : w.cell? ⟨B, 2, none⟩ = some (.int .i64 d.no)
 c3 : w.cell? ⟨B, 3, none⟩ = some (.int .i64 d.seen)
 c4 : w.cell? ⟨B, 4, none⟩ = some (.int .i64 d.at_)
 c5 : w.cell? ⟨B, 5, none⟩ = some (.int .i64 d.many)
 c6 : w.cell? ⟨B, 6, none⟩ = some (.string d.text)
abbrev ddObj (d : Dd) : Obj := .cells #[.int .i64 d.kind, .int .i64 d.by_, .int .i64 d.no, .int .i64 d.seen, .int .i64 d.at_, .int .i64 d.many, .string d.text] 124
theorem at7_start (w : World) (d : Dd) : At7 (w.alloc (ddObj d)) w.heap.size d := by
 refine ⟨by simp, ?_, ?_, ?_, ?_, ?_, ?_, ?_⟩ <;> simp [go_sem]
theorem At7.below {w w' : World} {B : Nat} {d : Dd} (h : At7 w B d) (hb : Below w.heap.size w w') : At7 w' B d :=
 ⟨by have := hb.size; have := h.lt; omega, cell_on h.c0 hb, cell_on h.c1 hb, cell_on h.c2 hb, cell_on h.c3 hb, cell_on h.c4 hb, cell_on h.c5 hb, cell_on h.c6 hb⟩
theorem At7.alloc {w : World} {B : Nat} {d : Dd} (h : At7 w B d) (o : Obj) : At7 (w.alloc o) B d := h.below ((Below.refl _ _).alloc (Nat.le_refl _) _)
structure LInv (w : World) (B1 B2 : Nat) (d : Dd) (zs : List Int) (wk : World) : Prop where
 below : Below w.heap.size w wk
 ready : Ready wk
 at_ : At7 wk B1 d
 ints : Ints wk B2 0 zs
theorem LInv.after {w wk w' : World} {B1 B2 : Nat} {d : Dd} {zs : List Int} (h : LInv w B1 B2 d zs wk) (hb : Below wk.heap.size wk w') : LInv w B1 B2 d zs w' :=
 ⟨bla h.below hb, h.ready.below hb, h.at_.below hb, h.ints.below hb⟩
theorem LInv.drew {w wk : World} {B1 B2 : Nat} {d : Dd} {zs : List Int} (h : LInv w B1 B2 d zs wk) : LInv w B1 B2 d zs wk.drew := h.after (Below.refl _ _).drew
theorem told_q {w wk : World} {B1 B2 : Nat} {d : Dd} {zs : List Int} (h : LInv w B1 B2 d zs wk) (n cap : Nat) (hn : zs.length = n) (hm : n ≤ 5) (hz : ∀ z ∈ zs, inI z) :
 Calls Tryz.prog 184 #[.slice (some ⟨B2, 0, none⟩) n cap] wk fun e w' => e = .returned (.string (toldB zs)) ∧ LInv w B1 B2 d zs w' :=
 (toldD_any B2 0 n cap zs wk h.ready hn hm hz h.ints).mono fun _ _ ⟨he, hb⟩ => ⟨he, h.after hb⟩
theorem ints_four (w : World) (a b c d e : Int) : Ints (w.alloc (.cells #[.int .i64 a, .int .i64 b, .int .i64 c, .int .i64 d, .int .i64 e] 217)) w.heap.size 0 [a, b, c, d] := by
 refine ⟨by simp, fun i hi => ?_⟩
 have h4 : i < 4 := hi
 rcases (show i = 0 ∨ i = 1 ∨ i = 2 ∨ i = 3 by omega) with rfl | rfl | rfl | rfl <;> simp [go_sem]
theorem ints_five (w : World) (a b c d e : Int) : Ints (w.alloc (.cells #[.int .i64 a, .int .i64 b, .int .i64 c, .int .i64 d, .int .i64 e] 217)) w.heap.size 0 [a, b, c, d, e] := by
 refine ⟨by simp, fun i hi => ?_⟩
 have h4 : i < 5 := hi
 rcases (show i = 0 ∨ i = 1 ∨ i = 2 ∨ i = 3 ∨ i = 4 by omega) with rfl | rfl | rfl | rfl | rfl <;> simp [go_sem]
theorem line_start {w w1 : World} {d : Dd} {zs : List Int} (hw : Ready w) (hb : Below (w.alloc (ddObj d)).heap.size (w.alloc (ddObj d)) w1) (o : Obj) (hi : Ints (w1.alloc o) w1.heap.size 0 zs) : LInv w w.heap.size w1.heap.size d zs (w1.alloc o) :=
 have h1 : Below w.heap.size w w1 := bla ((Below.refl _ _).alloc (Nat.le_refl _) _) hb
 have h2 : Below w1.heap.size w1 (w1.alloc o) := (Below.refl _ _).alloc (Nat.le_refl _) _
 ⟨bla h1 h2, (hw.below h1).below h2, ((at7_start w d).below hb).below h2, hi⟩
theorem check_ok {d : Dd} (h : checkC d = 0) : (d.kind = 1 ∨ d.kind = 2) ∧ placedB d = true := by
 by_cases hk : d.kind = 1 ∨ d.kind = 2
 ·cases hp : placedB d
  ·rw [checkC, if_neg (by omega), if_pos hp] at h; cases h
  ·exact ⟨hk, rfl⟩
 ·rw [checkC, if_pos (by omega)] at h; cases h
theorem inI_of {d : Dd} (h : checkC d = 0) : inI d.by_ ∧ inI d.no ∧ inI d.seen ∧ inI d.at_ := by
 have hp := (check_ok h).2
 simp [placedB, withinB, wrB] at hp
 unfold inI
 omega
theorem put_ok {d : Dd} (h : checkC d = 0) (hk : d.kind = 1) : d.many = 0 ∧ printedB d.text = true := by
 have hp := (check_ok h).2
 rw [checkC, if_neg (by omega), if_neg (by simp [hp]), if_pos hk, putC] at h
 by_cases hm : d.many = 0
 ·rw [if_neg (by omega)] at h
  cases hs : printedB d.text
  ·rw [hs] at h; cases h
  ·exact ⟨hm, rfl⟩
 ·rw [if_pos hm] at h; cases h
theorem take_ok {d : Dd} (h : checkC d = 0) (hk : d.kind ≠ 1) : d.kind = 2 ∧ d.text.size = 0 ∧ 1 ≤ d.many ∧ d.many ≤ 200 := by
 obtain ⟨hk', hp⟩ := check_ok h
 rw [checkC, if_neg (by omega), if_neg (by simp [hp]), if_neg hk, takeC] at h
 by_cases hm : d.text.size = 0
 ·rw [if_neg (by omega)] at h
  cases hs : withinB d.many 1 200
  ·rw [hs] at h; cases h
  ·simp [withinB] at hs; exact ⟨by omega, hm, hs⟩
 ·rw [if_pos hm] at h; cases h
theorem printed_size {s : ByteArray} (h : printedB s = true) : 1 ≤ s.size ∧ s.size ≤ 20 := by
 simp [printedB] at h; exact h.1
theorem four_in {a b c d : Int} (h : inI a ∧ inI b ∧ inI c ∧ inI d) : ∀ z ∈ [a, b, c, d], inI z := by
 intro z hz
 simp at hz
 rcases hz with rfl | rfl | rfl | rfl
 ·exact h.1
 ·exact h.2.1
 ·exact h.2.2.1
 ·exact h.2.2.2
theorem five_in {a b c d e : Int} (h : inI a ∧ inI b ∧ inI c ∧ inI d) (h' : inI e) : ∀ z ∈ [a, b, c, d, e], inI z := by
 intro z hz
 simp at hz
 rcases hz with rfl | rfl | rfl | rfl | rfl
 ·exact h.1
 ·exact h.2.1
 ·exact h.2.2.1
 ·exact h.2.2.2
 ·exact h'
def lineB (d : Dd) : ByteArray := if d.kind = 1 then (⟨#[112, 117, 116]⟩ ++ toldB [d.by_, d.no, d.seen, d.at_]) ++ ⟨#[32]⟩ ++ d.text else ⟨#[116, 97, 107, 101]⟩ ++ toldB [d.by_, d.no, d.seen, d.at_, d.many]
def lineS (d : Dd) : ByteArray := if checkC d = 0 then lineB d else ⟨#[]⟩
theorem ret_line {d : Dd} {a : ByteArray} {c : Int} (h1 : a = lineS d) (h2 : c = checkC d) : Ending.returned (.tuple #[.string a, .int .i64 c]) = .returned (.tuple #[.string (lineS d), .int .i64 (checkC d)]) := by rw [h1, h2]
set_option maxHeartbeats 400000 in
theorem line_no (d : Dd) (w : World) (h : checkC d ≠ 0) :
 Calls Tryz.prog 136 #[ddV d] w fun e w' => e = .returned (.tuple #[.string (lineS d), .int .i64 (checkC d)]) ∧ Below w.heap.size w w' := by
 have HS : Hid (lineS d = ⟨#[]⟩) := by show lineS d = _; rw [lineS, if_neg h]
 have hne : (checkC d != 0) = true := by simp [h]
 clear h
 obtain ⟨kind, by_, no, seen, at_, many, text⟩ := d
 go_enter Tryz.func136, Tryz.ntmps136
 go_wp2_with fail
 refine (check_any ⟨kind, by_, no, seen, at_, many, text⟩ _).mono ?_
 rintro e w1 ⟨rfl, hb⟩
 go_wp2
 go_ret2
 exact ⟨ret_line HS.out.symm rfl, bla ((Below.refl _ _).alloc (Nat.le_refl _) _) hb⟩
set_option maxHeartbeats 400000 in
theorem line_put (d : Dd) (w : World) (hw : Ready w) (h : checkC d = 0) (hk : d.kind = 1) :
 Calls Tryz.prog 136 #[ddV d] w fun e w' => e = .returned (.tuple #[.string (lineS d), .int .i64 (checkC d)]) ∧ Below w.heap.size w w' := by
 have HS : Hid (lineS d = (⟨#[112, 117, 116]⟩ ++ toldB [d.by_, d.no, d.seen, d.at_]) ++ ⟨#[32]⟩ ++ d.text) := by show lineS d = _; rw [lineS, if_pos h, lineB, if_pos hk]
 have HC : Hid (checkC d = 0) := h
 have HW : Hid (Ready w) := hw
 obtain ⟨kind, by_, no, seen, at_, many, text⟩ := d
 obtain rfl : kind = 1 := hk
 have hI := inI_of h
 have HI : Hid _ := four_in hI
 have hts := (printed_size (put_ok h rfl).2).2
 have hto := told_size [by_, no, seen, at_] HI.out
 simp only [List.length_cons, List.length_nil, Nat.reduceAdd, Nat.reduceMul] at hto hts
 clear h hw hI
 go_enter Tryz.func136, Tryz.ntmps136
 go_wp2_with fail
 refine (check_any ⟨_, by_, no, seen, at_, many, text⟩ _).mono ?_
 rintro e w1 ⟨rfl, hb⟩
 rw [HC.out]
 have HA : Hid (At7 w1 w.heap.size ⟨1, by_, no, seen, at_, many, text⟩) := (at7_start w ⟨1, by_, no, seen, at_, many, text⟩).below hb
 obtain ⟨hlt, a0, a1, a2, a3, a4, a5, a6⟩ := HA.out
 have b0 : ∀ o, (w1.alloc o).cell? ⟨w.heap.size, 0, none⟩ = some (.int .i64 1) := fun o => (HA.out.alloc o).c0
 have HL : Hid _ := line_start (d := ⟨1, by_, no, seen, at_, many, text⟩) HW.out hb (.cells #[.int .i64 by_, .int .i64 no, .int .i64 seen, .int .i64 at_, .int .i64 many] 217) (ints_four w1 by_ no seen at_ many)
 go_wp2
 clear a0 a1 a2 a3 a4 a5 a6 b0 hb hlt HA
 refine wp_region_quiet (C := fun wk => LInv w w.heap.size w1.heap.size ⟨1, by_, no, seen, at_, many, text⟩ [by_, no, seen, at_] wk) (by kernel_rfl) (by kernel_rfl) (HL.out.drew) ?_
 refine wpQuiet_step (fun K hK => ?_)
 go_simp
 refine ⟨_, fun _ _ => rfl, hK _ ?_⟩
 clear hK K
 refine wpQuiet_step (fun K hK => ?_)
 go_simp
 refine ⟨_, fun wk hwk => told_q hwk 4 5 rfl (by decide) HI.out, hK _ ?_⟩
 clear hK K
 refine wpQuiet_step (fun K hK => ?_)
 go_simp
 refine ⟨.string (⟨#[112, 117, 116]⟩ ++ toldB [by_, no, seen, at_]), fun wk _ => ?_, hK _ ?_⟩
 ·rw [if_neg (by omega)]
  exact ⟨rfl, rfl⟩
 clear hK K
 refine wpQuiet_step (fun K hK => ?_)
 go_simp
 refine ⟨.string (⟨#[112, 117, 116]⟩ ++ toldB [by_, no, seen, at_] ++ ⟨#[32]⟩), fun wk _ => ?_, hK _ ?_⟩
 ·rw [if_neg (by omega)]
  exact ⟨rfl, rfl⟩
 clear hK K
 refine wpQuiet_step (fun K hK => ?_)
 go_simp
 refine ⟨_, fun _ _ => rfl, hK _ ?_⟩
 clear hK K
 refine wpQuiet_step (fun K hK => ?_)
 go_simp
 refine ⟨.string text, fun wk hwk => ?_, hK _ ?_⟩
 ·obtain ⟨_, c0, c1, c2, c3, c4, c5, c6⟩ := hwk.at_
  go_simp
 clear hK K
 refine wpQuiet_step (fun K hK => ?_)
 go_simp
 refine ⟨.string (⟨#[112, 117, 116]⟩ ++ toldB [by_, no, seen, at_] ++ ⟨#[32]⟩ ++ text), fun wk _ => ?_, hK _ ?_⟩
 ·rw [if_neg (by omega)]
  exact ⟨rfl, rfl⟩
 clear hK K
 refine wpQuiet_step (fun K hK => ?_)
 go_simp
 refine ⟨_, fun _ _ => rfl, hK _ ?_⟩
 clear hK K
 refine wpQuiet_step (fun K hK => ?_)
 go_simp
 refine ⟨_, fun _ _ => rfl, hK _ ?_⟩
 clear hK K
 refine wpQuiet_nil ?_
 intro w2 hw2
 have HB2 : Hid (Below w.heap.size w w2) := hw2.below
 clear hw2
 go_wp2
 go_ret2
 exact ⟨ret_line HS.out.symm HC.out.symm, HB2.out⟩
set_option maxHeartbeats 400000 in
theorem line_take (d : Dd) (w : World) (hw : Ready w) (h : checkC d = 0) (hk : d.kind ≠ 1) :
 Calls Tryz.prog 136 #[ddV d] w fun e w' => e = .returned (.tuple #[.string (lineS d), .int .i64 (checkC d)]) ∧ Below w.heap.size w w' := by
 have HS : Hid (lineS d = ⟨#[116, 97, 107, 101]⟩ ++ toldB [d.by_, d.no, d.seen, d.at_, d.many]) := by show lineS d = _; rw [lineS, if_pos h, lineB, if_neg hk]
 have HC : Hid (checkC d = 0) := h
 have HW : Hid (Ready w) := hw
 obtain ⟨hk2, _, hm1, hm2⟩ := take_ok h hk
 obtain ⟨kind, by_, no, seen, at_, many, text⟩ := d
 obtain rfl : kind = 2 := hk2
 have hI := inI_of h
 have HI : Hid _ := five_in hI (e := many) (by unfold inI; simp only at hm1 hm2; omega)
 have hto := told_size [by_, no, seen, at_, many] HI.out
 simp only [List.length_cons, List.length_nil, Nat.reduceAdd, Nat.reduceMul] at hto
 clear h hw hI hk hm1 hm2
 go_enter Tryz.func136, Tryz.ntmps136
 go_wp2_with fail
 refine (check_any ⟨_, by_, no, seen, at_, many, text⟩ _).mono ?_
 rintro e w1 ⟨rfl, hb⟩
 rw [HC.out]
 have HA : Hid (At7 w1 w.heap.size ⟨2, by_, no, seen, at_, many, text⟩) := (at7_start w ⟨2, by_, no, seen, at_, many, text⟩).below hb
 obtain ⟨hlt, a0, a1, a2, a3, a4, a5, a6⟩ := HA.out
 have b0 : ∀ o, (w1.alloc o).cell? ⟨w.heap.size, 0, none⟩ = some (.int .i64 2) := fun o => (HA.out.alloc o).c0
 have HL : Hid _ := line_start (d := ⟨2, by_, no, seen, at_, many, text⟩) HW.out hb (.cells #[.int .i64 by_, .int .i64 no, .int .i64 seen, .int .i64 at_, .int .i64 many] 217) (ints_five w1 by_ no seen at_ many)
 go_wp2_with fail
 clear a0 a1 a2 a3 a4 a5 a6 b0 hb hlt HA
 refine (told_q HL.out 5 5 rfl (by decide) HI.out).mono ?_
 rintro e w2 ⟨rfl, hl2⟩
 have HB2 : Hid (Below w.heap.size w w2) := hl2.below
 clear HL hl2
 go_wp2
 go_ret2
 exact ⟨ret_line HS.out.symm HC.out.symm, HB2.out⟩
theorem line_any (d : Dd) (w : World) (hw : Ready w) :
 Calls Tryz.prog 136 #[ddV d] w fun e w' => e = .returned (.tuple #[.string (lineS d), .int .i64 (checkC d)]) ∧ Below w.heap.size w w' := by
 by_cases h : checkC d = 0
 ·by_cases hk : d.kind = 1
  ·exact line_put d w hw h hk
  ·exact line_take d w hw h hk
 ·exact line_no d w h
end Go.Proofs.YtcbnnfeelhlapadGreatDoor

/-
  The contract of read (package deed): the numbers of words, or none.
-/
namespace Go.Proofs.YtcbnnfeelhlapadGreatDoor
open Go.RowKit
def num1 (s : ByteArray) : Option Int := match numAll s with | some v => if strI v = s then some v else none | none => none
def readL : List ByteArray → Option (List Int)
 | [] => some []
 | s :: r => match num1 s with | none => none | some z => (readL r).map (z :: ·)
theorem readL_snoc : ∀ (l : List ByteArray) (s : ByteArray) (zs : List Int) (z : Int), readL l = some zs → num1 s = some z → readL (l ++ [s]) = some (zs ++ [z])
 | [], s, zs, z, h, hz => by cases h; simp [readL, hz]
 | x :: r, s, zs, z, h, hz => by
  rw [readL] at h
  cases hx : num1 x with
  | none => rw [hx] at h; cases h
  | some u =>
   rw [hx] at h
   cases hr : readL r with
   | none => rw [hr] at h; cases h
   | some us =>
    rw [hr] at h
    obtain rfl := Option.some.inj h
    have := readL_snoc r s us z hr hz
    simp [readL, hx, this]
theorem readL_no : ∀ (l : List ByteArray) (k : Nat) (h : k < l.length), num1 l[k] = none → readL l = none
 | x :: r, 0, _, h => by simp [readL, show num1 x = none from h]
 | x :: r, k + 1, hk, h => by
  have := readL_no r k (by simpa using hk) h
  rw [readL]
  cases num1 x with
  | none => rfl
  | some u => simp [this]
theorem readL_len : ∀ (l : List ByteArray) (zs : List Int), readL l = some zs → zs.length = l.length
 | [], zs, h => by cases h; rfl
 | x :: r, zs, h => by
  rw [readL] at h
  cases hx : num1 x with
  | none => rw [hx] at h; cases h
  | some u =>
   rw [hx] at h
   cases hr : readL r with
   | none => rw [hr] at h; cases h
   | some us =>
    rw [hr] at h
    obtain rfl := Option.some.inj h
    simp [readL_len r us hr]
structure Five (w : World) (B : Nat) (zs : List Int) : Prop where
 lt : B < w.heap.size
 c : ∀ i, i < 5 → w.cell? ⟨B, i, none⟩ = some (.int .i64 (zs.getD i 0))
 f : ∀ i, w.frozen? ⟨B, i, none⟩ = false
theorem frozen_on {w w' : World} {a o : Nat} (h : a < w.heap.size) (hb : Below w.heap.size w w') : w'.frozen? ⟨a, o, none⟩ = w.frozen? ⟨a, o, none⟩ := hb.frozen (p := ⟨a, o, none⟩) h
theorem Five.below {w w' : World} {B : Nat} {zs : List Int} (h : Five w B zs) (hb : Below w.heap.size w w') : Five w' B zs :=
 ⟨by have := hb.size; have := h.lt; omega, fun i hi => cell_on (h.c i hi) hb, fun i => (frozen_on h.lt hb).trans (h.f i)⟩
structure Strs (w : World) (b off : Nat) (ws : List ByteArray) : Prop where
 lt : b < w.heap.size
 cell : ∀ (i : Nat) (h : i < ws.length), w.cell? ⟨b, off + i, none⟩ = some (.string (ws[i]'h))
theorem Strs.below {w w' : World} {b off : Nat} {zs : List ByteArray} (h : Strs w b off zs) (hb : Below w.heap.size w w') : Strs w' b off zs :=
 ⟨by have := hb.size; have := h.lt; omega, fun i hi => cell_on (h.cell i hi) hb⟩
theorem take_snocB (l : List ByteArray) (k : Nat) (h : k < l.length) : l.take (k + 1) = l.take k ++ [l[k]] := by
 rw [List.take_add_one, List.getElem?_eq_getElem h]; rfl
end Go.Proofs.YtcbnnfeelhlapadGreatDoor

/-
  The contract of worded (package deed): the deed of six words.
-/
namespace Go.Proofs.YtcbnnfeelhlapadGreatDoor
open Go.RowKit
end Go.Proofs.YtcbnnfeelhlapadGreatDoor

/-
  The contract of Parse (package deed).
-/
namespace Go.Proofs.YtcbnnfeelhlapadGreatDoor
open Go.RowKit
abbrev spS : ByteArray := ⟨#[32]⟩
end Go.Proofs.YtcbnnfeelhlapadGreatDoor
