/-
  The law's own example of a desk, as mathematics. No walk.
-/
import Derived.Test.YtcbnnfeelhlapadGreatDoorKMath
import Derived.Test.YtcbnnfeelhlapadGreatDoorFLate
import Derived.Test.YtcbnnfeelhlapadGreatDoorKLX
namespace Go.Proofs.YtcbnnfeelhlapadGreatDoor
open Go Go.RowKit
def sendF : Nat → Twn → Int → Twn × Bool
 | 0, t, _ => (t, false)
 | n + 1, t, v => match t.ws v with
  | none => (t, true)
  | some w => if (sendT t v w).1 = 0 then sendF n (sendT t v w).2 v else ((sendT t v w).2, true)
def hearF : Nat → Twn → Int → Twn × Bool
 | 0, t, _ => (t, false)
 | n + 1, t, v => match t.ws v with
  | none => (t, true)
  | some w => if (hearT t v w).1 = 0 then hearF n (hearT t v w).2 v else ((hearT t v w).2, true)
theorem sendF_eq : ∀ (n : Nat) (t : Twn) (v : Int), (sendF n t v).2 = true → sendAll t v = (sendF n t v).1
 | 0, _, _, h => by cases h
 | n + 1, t, v, h => by
  cases hw : t.ws v with
  | none => rw [sendAll_none hw]; simp only [sendF, hw]
  | some w =>
   rw [sendAll_some hw]
   simp only [sendF, hw] at h ⊢
   by_cases hc : (sendT t v w).1 = 0
   ·rw [if_pos hc] at h ⊢
    rw [if_pos hc]
    exact sendF_eq n _ v h
   ·rw [if_neg hc, if_neg hc]
theorem hearF_eq : ∀ (n : Nat) (t : Twn) (v : Int), (hearF n t v).2 = true → hearAll t v = (hearF n t v).1
 | 0, _, _, h => by cases h
 | n + 1, t, v, h => by
  cases hw : t.ws v with
  | none => rw [hearAll_none hw]; simp only [hearF, hw]
  | some w =>
   rw [hearAll_some hw]
   simp only [hearF, hw] at h ⊢
   by_cases hc : (hearT t v w).1 = 0
   ·rw [if_pos hc] at h ⊢
    rw [if_pos hc]
    exact hearF_eq n _ v h
   ·rw [if_neg hc, if_neg hc]
def kbS (t : Twn) : Twn := (sendF 4 (sendF 4 (sendF 4 (sendF 4 t 0).1 1).1 2).1 3).1
def kbH (t : Twn) : Twn := (hearF 6 (hearF 6 (hearF 6 (hearF 6 t 0).1 1).1 2).1 3).1
theorem kb_settle {t : Twn} (h0 : (sendF 4 t 0).2 = true) (h1 : (sendF 4 (sendF 4 t 0).1 1).2 = true) (h2 : (sendF 4 (sendF 4 (sendF 4 t 0).1 1).1 2).2 = true) (h3 : (sendF 4 (sendF 4 (sendF 4 (sendF 4 t 0).1 1).1 2).1 3).2 = true)
 (g0 : (hearF 6 (kbS t) 0).2 = true) (g1 : (hearF 6 (hearF 6 (kbS t) 0).1 1).2 = true) (g2 : (hearF 6 (hearF 6 (hearF 6 (kbS t) 0).1 1).1 2).2 = true) (g3 : (hearF 6 (hearF 6 (hearF 6 (hearF 6 (kbS t) 0).1 1).1 2).1 3).2 = true) : settleT t = kbH (kbS t) := by
 have e1 : sendTo 4 t = kbS t := by
  show sendAll (sendAll (sendAll (sendAll t 0) 1) 2) 3 = _
  rw [sendF_eq 4 t 0 h0, sendF_eq 4 _ 1 h1, sendF_eq 4 _ 2 h2, sendF_eq 4 _ 3 h3]
  rfl
 rw [settleT, e1]
 show hearAll (hearAll (hearAll (hearAll (kbS t) 0) 1) 2) 3 = _
 rw [hearF_eq 6 _ 0 g0, hearF_eq 6 _ 1 g1, hearF_eq 6 _ 2 g2, hearF_eq 6 _ 3 g3]
 rfl
theorem kbD (u : Nat) (h : u < 10) : Lib.itoa (u : Int) = [UInt8.ofNat (48 + u)] := by
 rw [Lib.itoa, if_neg (by omega), Int.toNat_natCast, Lib.decDigits, dif_pos h]
theorem kb0 : Lib.itoa 0 = [48] := kbD 0 (by decide)
theorem kb1 : Lib.itoa 1 = [49] := kbD 1 (by decide)
theorem kb2 : Lib.itoa 2 = [50] := kbD 2 (by decide)
theorem kb3 : Lib.itoa 3 = [51] := kbD 3 (by decide)
theorem kbN (n : Int) (h0 : 0 ≤ n) (h1 : n ≤ 1000) {l : List UInt8} (h : Lib.itoa n = l) : num1 (bl l) = some n := by
 have := num_back n h0 h1
 unfold strI at this
 rw [h] at this
 exact this
theorem kbn0 : num1 (bl [48]) = some 0 := kbN 0 (by decide) (by decide) kb0
theorem kbn1 : num1 (bl [49]) = some 1 := kbN 1 (by decide) (by decide) kb1
theorem kbn3 : num1 (bl [51]) = some 3 := kbN 3 (by decide) (by decide) kb3
theorem kb_line {t : Twn} {s k : List UInt8} {r : List (List UInt8)} {zs : List Int} (hp : putOf s = none) (hw : wordsOf s = k :: r) (hr : readL (r.map bl) = some zs) : lineK t s = cmdK t k zs := by
 unfold lineK
 rw [hp, hw]
 show wordsK t (k :: r) = _
 rw [wordsK, hr]
theorem kb_step {t : Twn} {x : Tst} (h : (tDo t x).1 = 0) : stepK t x = (okW, (tDo t x).2) := by
 unfold stepK
 rw [if_pos h]
def kbL : List (List UInt8) := [[106, 111, 105, 110, 32, 48], [106, 111, 105, 110, 32, 49], [112, 117, 116, 32, 48, 32, 48, 32, 97, 32, 98], [112, 117, 116, 32, 49, 32, 48, 32, 99], [115, 101, 116, 116, 108, 101], [116, 101, 120, 116, 32, 49], [116, 97, 107, 101, 32, 48, 32, 48, 32, 49], [111, 112, 101, 110, 32, 48], [115, 101, 110, 100, 32, 48], [108, 111, 103], [116, 104, 101, 110, 32, 51], [108, 101, 97, 115, 116], [120]]
def kbT1 : Twn := (tDo twn0 ⟨1, 0, 0, 0, ⟨#[]⟩⟩).2
theorem kbC1 : (tDo twn0 ⟨1, 0, 0, 0, ⟨#[]⟩⟩).1 = 0 := by decide +kernel
theorem kbR1 : lineK twn0 [106, 111, 105, 110, 32, 48] = (okW, kbT1) := by
 rw [kb_line (k := [106, 111, 105, 110]) (r := [[48]]) (zs := [0]) (by rfl) (by rfl) (by
  show readL [bl [48]] = some [0]
  simp [readL, kbn0])]
 exact kb_step kbC1
def kbT2 : Twn := (tDo kbT1 ⟨1, 1, 0, 0, ⟨#[]⟩⟩).2
theorem kbC2 : (tDo kbT1 ⟨1, 1, 0, 0, ⟨#[]⟩⟩).1 = 0 := by decide +kernel
theorem kbR2 : lineK kbT1 [106, 111, 105, 110, 32, 49] = (okW, kbT2) := by
 rw [kb_line (k := [106, 111, 105, 110]) (r := [[49]]) (zs := [1]) (by rfl) (by rfl) (by
  show readL [bl [49]] = some [1]
  simp [readL, kbn1])]
 exact kb_step kbC2
def kbT3 : Twn := (tDo kbT2 ⟨2, 0, 0, 0, bl [97, 32, 98]⟩).2
theorem kbC3 : (tDo kbT2 ⟨2, 0, 0, 0, bl [97, 32, 98]⟩).1 = 0 := by decide +kernel
theorem kbR3 : lineK kbT2 [112, 117, 116, 32, 48, 32, 48, 32, 97, 32, 98] = (okW, kbT3) := by
 have hp : putOf [112, 117, 116, 32, 48, 32, 48, 32, 97, 32, 98] = some (0, 0, [97, 32, 98]) := by
  have hc : cutK 3 [112, 117, 116, 32, 48, 32, 48, 32, 97, 32, 98] = [[112, 117, 116], [48], [48], [97, 32, 98]] := by decide +kernel
  rw [putOf_cut, hc]
  unfold putFour
  dsimp only
  rw [if_pos rfl, readL_two, kbn0]
 unfold lineK
 rw [hp]
 exact kb_step kbC3
def kbT4 : Twn := (tDo kbT3 ⟨2, 1, 0, 0, bl [99]⟩).2
theorem kbC4 : (tDo kbT3 ⟨2, 1, 0, 0, bl [99]⟩).1 = 0 := by decide +kernel
theorem kbR4 : lineK kbT3 [112, 117, 116, 32, 49, 32, 48, 32, 99] = (okW, kbT4) := by
 have hp : putOf [112, 117, 116, 32, 49, 32, 48, 32, 99] = some (1, 0, [99]) := by
  have hc : cutK 3 [112, 117, 116, 32, 49, 32, 48, 32, 99] = [[112, 117, 116], [49], [48], [99]] := by decide +kernel
  rw [putOf_cut, hc]
  unfold putFour
  dsimp only
  rw [if_pos rfl, readL_two, kbn0, kbn1]
 unfold lineK
 rw [hp]
 exact kb_step kbC4
def kbT5 : Twn := kbH (kbS kbT4)
theorem kbE5 : settleT kbT4 = kbT5 := kb_settle (by decide +kernel) (by decide +kernel) (by decide +kernel) (by decide +kernel) (by decide +kernel) (by decide +kernel) (by decide +kernel) (by decide +kernel)
theorem kbR5 : lineK kbT4 [115, 101, 116, 116, 108, 101] = (okW, kbT5) := by
 rw [kb_line (k := [115, 101, 116, 116, 108, 101]) (r := []) (zs := []) (by rfl) (by rfl) (by rfl), ← kbE5]
 rfl
theorem kbQ6 : lineK kbT5 [116, 101, 120, 116, 32, 49] = (seenW kbT5 1, kbT5) := by
 rw [kb_line (k := [116, 101, 120, 116]) (r := [[49]]) (zs := [1]) (by rfl) (by rfl) (by
  show readL [bl [49]] = some [1]
  simp [readL, kbn1])]
 rfl
theorem kbV6 : seenW kbT5 1 = [116, 101, 120, 116, 32, 99, 97, 32, 98, 10] := by decide +kernel
theorem kbR6 : lineK kbT5 [116, 101, 120, 116, 32, 49] = ([116, 101, 120, 116, 32, 99, 97, 32, 98, 10], kbT5) := by rw [kbQ6, kbV6]
def kbT7 : Twn := (tDo kbT5 ⟨3, 0, 0, 1, ⟨#[]⟩⟩).2
theorem kbC7 : (tDo kbT5 ⟨3, 0, 0, 1, ⟨#[]⟩⟩).1 = 0 := by decide +kernel
theorem kbR7 : lineK kbT5 [116, 97, 107, 101, 32, 48, 32, 48, 32, 49] = (okW, kbT7) := by
 rw [kb_line (k := [116, 97, 107, 101]) (r := [[48], [48], [49]]) (zs := [0, 0, 1]) (by rfl) (by rfl) (by
  show readL [bl [48], bl [48], bl [49]] = some [0, 0, 1]
  simp [readL, kbn0, kbn1])]
 exact kb_step kbC7
theorem kbQ8 : lineK kbT7 [111, 112, 101, 110, 32, 48] = (openW kbT7 0, kbT7) := by
 rw [kb_line (k := [111, 112, 101, 110]) (r := [[48]]) (zs := [0]) (by rfl) (by rfl) (by
  show readL [bl [48]] = some [0]
  simp [readL, kbn0])]
 rfl
theorem kbw1 : lineW ⟨1, 0, 1, 0, 0, 0, ⟨#[97, 32, 98]⟩⟩ = [112, 117, 116, 32, 48, 32, 49, 32, 48, 32, 48, 32, 97, 32, 98, 10] := by
 have hc : checkC ⟨1, 0, 1, 0, 0, 0, ⟨#[97, 32, 98]⟩⟩ = 0 := by decide +kernel
 rw [lineW, lineS, if_pos hc, line_put_list (by rfl)]
 simp only [putL, kb0, kb1]
 rfl
theorem kbw2 : lineW ⟨1, 1, 1, 0, 0, 0, ⟨#[99]⟩⟩ = [112, 117, 116, 32, 49, 32, 49, 32, 48, 32, 48, 32, 99, 10] := by
 have hc : checkC ⟨1, 1, 1, 0, 0, 0, ⟨#[99]⟩⟩ = 0 := by decide +kernel
 rw [lineW, lineS, if_pos hc, line_put_list (by rfl)]
 simp only [putL, kb0, kb1]
 rfl
theorem kbw3' : lineW ⟨2, 0, 2, 2, 0, 1, ⟨#[]⟩⟩ = [116, 97, 107, 101, 32, 48, 32, 50, 32, 50, 32, 48, 32, 49, 10] := by
 have hc : checkC ⟨2, 0, 2, 2, 0, 1, ⟨#[]⟩⟩ = 0 := by decide +kernel
 rw [lineW, lineS, if_pos hc, line_take_list (by decide)]
 simp only [takeLD, kb0, kb1, kb2]
 rfl
theorem kbw3 : linesW [⟨2, 0, 2, 2, 0, 1, ⟨#[]⟩⟩] ++ endW = [116, 97, 107, 101, 32, 48, 32, 50, 32, 50, 32, 48, 32, 49, 10, 101, 110, 100, 10] := by
 show (lineW _ ++ []) ++ endW = _
 rw [kbw3']
 rfl
theorem kbV8 : openW kbT7 0 = [116, 97, 107, 101, 32, 48, 32, 50, 32, 50, 32, 48, 32, 49, 10, 101, 110, 100, 10] := by
 have h : kbT7.ws 0 = some ((kbT7.ws 0).getD ⟨0, 0, 0, [], [], 0⟩) := by kernel_rfl
 have ho : ((kbT7.ws 0).getD ⟨0, 0, 0, [], [], 0⟩).opens = [⟨2, 0, 2, 2, 0, 1, ⟨#[]⟩⟩] := by kernel_rfl
 unfold openW
 rw [h]
 show linesW _ ++ endW = _
 rw [ho]
 exact kbw3
theorem kbR8 : lineK kbT7 [111, 112, 101, 110, 32, 48] = ([116, 97, 107, 101, 32, 48, 32, 50, 32, 50, 32, 48, 32, 49, 10, 101, 110, 100, 10], kbT7) := by rw [kbQ8, kbV8]
def kbT9 : Twn := (tDo kbT7 ⟨4, 0, 0, 0, ⟨#[]⟩⟩).2
theorem kbC9 : (tDo kbT7 ⟨4, 0, 0, 0, ⟨#[]⟩⟩).1 = 0 := by decide +kernel
theorem kbR9 : lineK kbT7 [115, 101, 110, 100, 32, 48] = (okW, kbT9) := by
 rw [kb_line (k := [115, 101, 110, 100]) (r := [[48]]) (zs := [0]) (by rfl) (by rfl) (by
  show readL [bl [48]] = some [0]
  simp [readL, kbn0])]
 exact kb_step kbC9
theorem kbQ10 : lineK kbT9 [108, 111, 103] = (linesW kbT9.b.ds ++ endW, kbT9) := by
 rw [kb_line (k := [108, 111, 103]) (r := []) (zs := []) (by rfl) (by rfl) (by rfl)]
 rfl
theorem kbV10 : linesW kbT9.b.ds ++ endW = [112, 117, 116, 32, 48, 32, 49, 32, 48, 32, 48, 32, 97, 32, 98, 10, 112, 117, 116, 32, 49, 32, 49, 32, 48, 32, 48, 32, 99, 10, 116, 97, 107, 101, 32, 48, 32, 50, 32, 50, 32, 48, 32, 49, 10, 101, 110, 100, 10] := by
 have ho : kbT9.b.ds = [⟨1, 0, 1, 0, 0, 0, ⟨#[97, 32, 98]⟩⟩, ⟨1, 1, 1, 0, 0, 0, ⟨#[99]⟩⟩, ⟨2, 0, 2, 2, 0, 1, ⟨#[]⟩⟩] := by kernel_rfl
 rw [ho]
 show lineW _ ++ (lineW _ ++ (lineW _ ++ [])) ++ endW = _
 rw [kbw1, kbw2, kbw3']
 rfl
theorem kbR10 : lineK kbT9 [108, 111, 103] = ([112, 117, 116, 32, 48, 32, 49, 32, 48, 32, 48, 32, 97, 32, 98, 10, 112, 117, 116, 32, 49, 32, 49, 32, 48, 32, 48, 32, 99, 10, 116, 97, 107, 101, 32, 48, 32, 50, 32, 50, 32, 48, 32, 49, 10, 101, 110, 100, 10], kbT9) := by rw [kbQ10, kbV10]
theorem kbQ11 : lineK kbT9 [116, 104, 101, 110, 32, 51] = (thenW kbT9 3, kbT9) := by
 rw [kb_line (k := [116, 104, 101, 110]) (r := [[51]]) (zs := [3]) (by rfl) (by rfl) (by
  show readL [bl [51]] = some [3]
  simp [readL, kbn3])]
 rfl
theorem kbV11 : thenW kbT9 3 = [116, 101, 120, 116, 32, 97, 32, 98, 10, 98, 121, 32, 48, 32, 48, 32, 48, 10] := by
 have h1 : inS kbT9.b 3 = true := by decide +kernel
 have h2 : (thS kbT9.b 3).map (·.c) = [97, 32, 98] := by decide +kernel
 have h3 : (thS kbT9.b 3).map (·.by_) = [0, 0, 0] := by decide +kernel
 unfold thenW
 rw [if_pos h1, h2, h3, byW, numsW, numsW, numsW, numsW, kb0]
 rfl
theorem kbR11 : lineK kbT9 [116, 104, 101, 110, 32, 51] = ([116, 101, 120, 116, 32, 97, 32, 98, 10, 98, 121, 32, 48, 32, 48, 32, 48, 10], kbT9) := by rw [kbQ11, kbV11]
theorem kbQ12 : lineK kbT9 [108, 101, 97, 115, 116] = (leastWd (leastL kbT9.b) kbT9.b.len, kbT9) := by
 rw [kb_line (k := [108, 101, 97, 115, 116]) (r := []) (zs := []) (by rfl) (by rfl) (by rfl)]
 rfl
theorem kbV12 : leastWd (leastL kbT9.b) kbT9.b.len = [108, 101, 97, 115, 116, 32, 50, 32, 51, 10] := by
 have h1 : leastL kbT9.b = 2 := by decide +kernel
 have h2 : kbT9.b.len = 3 := by decide +kernel
 rw [h1, h2, leastWd, kb2, kb3]
 rfl
theorem kbR12 : lineK kbT9 [108, 101, 97, 115, 116] = ([108, 101, 97, 115, 116, 32, 50, 32, 51, 10], kbT9) := by rw [kbQ12, kbV12]
theorem kbQ13 : lineK kbT9 [120] = (whatW, kbT9) := by
 rw [kb_line (k := [120]) (r := []) (zs := []) (by rfl) (by rfl) (by rfl)]
 rfl
theorem kbV13 : whatW = [119, 104, 97, 116, 10] := rfl
theorem kbR13 : lineK kbT9 [120] = ([119, 104, 97, 116, 10], kbT9) := by rw [kbQ13, kbV13]
theorem doK_one {t u : Twn} {s o : List UInt8} {r : List (List UInt8)} (h : lineK t s = (o, u)) : doK t (s :: r) = (o ++ (doK u r).1, (doK u r).2) := by
 show ((lineK t s).1 ++ (doK (lineK t s).2 r).1, (doK (lineK t s).2 r).2) = _
 rw [h]
def kbO : List UInt8 := [111, 107, 10, 111, 107, 10, 111, 107, 10, 111, 107, 10, 111, 107, 10, 116, 101, 120, 116, 32, 99, 97, 32, 98, 10, 111, 107, 10, 116, 97, 107, 101, 32, 48, 32, 50, 32, 50, 32, 48, 32, 49, 10, 101, 110, 100, 10, 111, 107, 10, 112, 117, 116, 32, 48, 32, 49, 32, 48, 32, 48, 32, 97, 32, 98, 10, 112, 117, 116, 32, 49, 32, 49, 32, 48, 32, 48, 32, 99, 10, 116, 97, 107, 101, 32, 48, 32, 50, 32, 50, 32, 48, 32, 49, 10, 101, 110, 100, 10, 116, 101, 120, 116, 32, 97, 32, 98, 10, 98, 121, 32, 48, 32, 48, 32, 48, 10, 108, 101, 97, 115, 116, 32, 50, 32, 51, 10, 119, 104, 97, 116, 10]
theorem kb_told : (doK twn0 kbL).1 = kbO := by
 unfold kbL
 rw [doK_one kbR1, doK_one kbR2, doK_one kbR3, doK_one kbR4, doK_one kbR5, doK_one kbR6, doK_one kbR7, doK_one kbR8, doK_one kbR9, doK_one kbR10, doK_one kbR11, doK_one kbR12, doK_one kbR13]
 rfl
theorem kb_fault : faultK kbL = (0, 0) := by decide +kernel
end Go.Proofs.YtcbnnfeelhlapadGreatDoor

/-
  Desks as things of a law: New and Do; slow; the law's own example (deskBegun).
-/
namespace Go.Proofs.YtcbnnfeelhlapadGreatDoor
set_option maxRecDepth 20000
open Go Go.RowKit
def outK (t : Twn) (L : List (List UInt8)) : List UInt8 × Twn := if (faultK L).1 = 0 then doK t L else ([], t)
theorem fault_code (L : List (List UInt8)) : (faultK L).1 = 0 → faultK L = (0, 0) := by
 intro h
 unfold faultK at h ⊢
 by_cases hb : 150 < L.length
 ·rw [if_pos hb] at h; cases h
 ·rw [if_neg hb] at h ⊢
  have : ∀ (l : List (List UInt8)) (i : Nat), (faultFrom i l).1 = 0 → faultFrom i l = (0, 0) := by
   intro l
   induction l with
   | nil => intro i _; rfl
   | cons s r ih =>
    intro i h
    rw [faultFrom] at h ⊢
    by_cases hs : hasNl s = true
    ·rw [if_pos hs] at h; cases h
    ·rw [if_neg hs] at h ⊢; exact ih _ h
  exact this L 0 h
def Th.ft (base B : Nat) (c i : Int) : Th base := Th.blk base B (fun w => TwoC w B c i ∧ B < w.heap.size) (fun w w' hz hb h => by
 have hc : ∀ o, w'.cell? ⟨B, o, none⟩ = w.cell? ⟨B, o, none⟩ := fun o => World.cell?_of_block (a := ⟨B, o, none⟩) hb
 have hf : ∀ o, w'.frozen? ⟨B, o, none⟩ = w.frozen? ⟨B, o, none⟩ := fun o => World.frozen?_of_block (a := ⟨B, o, none⟩) hb
 exact ⟨⟨by rw [hc]; exact h.1.c0, by rw [hc]; exact h.1.c1, by rw [hf]; exact h.1.f0, by rw [hf]; exact h.1.f1⟩, Nat.lt_of_lt_of_le h.2 hz⟩)
section
variable {W wk w' : World} {cs : Nat → Th W.heap.size}
def Jn (W : World) (cs : Nat → Th W.heap.size) (wk : World) : Prop := Hq W.heap.size cs W (fun _ => False) wk
theorem Jn.below (h : Jn W cs wk) : Below W.heap.size W wk := (Hq.kept h).below (fun _ e => e.elim) (Nat.le_refl _)
theorem Jn.after (h : Jn W cs wk) (hb : Below wk.heap.size wk w') : Jn W cs w' := Hq.after h hb
theorem jn_start (W : World) : Jn W (fun _ => Th.no _) W := Hq.start W
theorem Jn.new (h : Jn W cs wk) (i : Nat) (hi : i ≠ 0) :
 Calls Tryz.prog 7 #[] wk fun e w' => ∃ R, e = .returned (.pointer (some ⟨R, 0, none⟩)) ∧ ∃ D G pw, Jn W (updT cs i (Th.kd W.heap.size R D G pw twn0)) w' := by
 refine (new_kd wk).mono ?_
 rintro e w1 ⟨rfl, rfl⟩
 have hb : Below wk.heap.size wk (kdW wk) := bla (bla (below1 _ _) (below1 _ _)) (below1 _ _)
 exact ⟨_, rfl, _, _, _, Hq.lay h hb hi _ (kd_start wk h.below.size)⟩
theorem Jn.fault (h : Jn W cs wk) (i : Nat) (hi : i ≠ 0) (c a : Int) : Jn W (updT cs i (Th.ft W.heap.size wk.heap.size c a)) (wk.alloc (.cells #[.int .i64 c, .int .i64 a] 31)) :=
 Hq.lay h (below1 _ _) hi _ ⟨⟨Nat.le_refl _, by simp⟩, twoC_start wk c a, by simp⟩
theorem Jn.code {B : Nat} {c a : Int} {i : Nat} (h : Jn W cs wk) (hi : i ≠ 0) (hc : cs i = Th.ft W.heap.size B c a) : wk.cell? ⟨B, 0, none⟩ = some (.int .i64 c) ∧ B < wk.heap.size := by
 obtain ⟨T, h1, _⟩ := Hq.get h hi
 rw [hc] at h1
 exact ⟨h1.2.1.c0, h1.2.2⟩
theorem Jn.done {R D G : Nat} {pw : Nat → Nat} {t : Twn} {i : Nat} (h : Jn W cs wk) (hi : i ≠ 0) (hc : cs i = Th.kd W.heap.size R D G pw t) (hR : Ready W) {v : Value} {ls : List ByteArray} (hl : StrLst W v ls) (hz : ∀ s ∈ ls, s.size ≤ 10000) :
 Calls Tryz.prog 9 #[.pointer (some ⟨R, 0, none⟩), v] wk fun e w' => e = .returned (.tuple #[.string (bl (outK t (ls.map (·.data.toList))).1), ftV (faultK (ls.map (·.data.toList))).1 (faultK (ls.map (·.data.toList))).2]) ∧ (outK t (ls.map (·.data.toList))).1.length ≤ 30000 * ls.length ∧ ∃ pw', Jn W (updT cs i (Th.kd W.heap.size R D G pw' (outK t (ls.map (·.data.toList))).2)) w' := by
 by_cases hf : (faultK (ls.map (·.data.toList))).1 = 0
 ·have hf2 := fault_code _ hf
  unfold outK
  rw [if_pos hf, hf2]
  obtain ⟨T, h1, h2, h3⟩ := Hq.turn h hi
  rw [hc] at h1
  have hb := h.below
  have hrdy : Rdy W.heap.size wk := ⟨W, rfl, hR, hb⟩
  refine (do_kd h1 hrdy (fun wk' hk => hl.below ?_) hz hf2).mono ?_
  ·exact hb.trans (hk.below (fun k e => (h2 k e).1) hb.size)
  ·rintro e w1 ⟨e1, e2, pw', e3⟩
   exact ⟨e1, e2, pw', h3 _ _ e3.2 e3.1⟩
 ·unfold outK
  rw [if_neg hf]
  refine (do_kd_no (hl.below h.below) (c := (faultK (ls.map (·.data.toList))).1) (i := (faultK (ls.map (·.data.toList))).2) rfl hf).mono ?_
  rintro e w1 ⟨e1, e2⟩
  refine ⟨e1, Nat.zero_le _, pw, Hq.imp (Hq.after h e2) (fun j _ T _ hp => ?_)⟩
  by_cases e : j = i
  ·subst e; rw [updT_same, ← hc]; exact hp
  ·rw [updT_other _ _ e]; exact hp
end
def SlowIs (ls : List ByteArray) (w : World) (e : Ending) (w' : World) : Prop := ∃ g, e = .returned (.bool g) ∧ (g = false → ∀ s ∈ ls, s.size ≤ 10000) ∧ w' = w
def sumB : List ByteArray → Nat
 | [] => 0
 | s :: r => s.size + sumB r
theorem sumB_app : ∀ a b : List ByteArray, sumB (a ++ b) = sumB a + sumB b
 | [], b => by simp [sumB]
 | s :: a, b => by rw [List.cons_append, sumB, sumB_app a b, sumB]; omega
theorem sumB_le : ∀ (l : List ByteArray) (s : ByteArray), s ∈ l → s.size ≤ sumB l
 | x :: r, s, h => by
  rcases List.mem_cons.1 h with rfl | h
  ·rw [sumB]; omega
  ·have := sumB_le r s h; rw [sumB]; omega
set_option maxHeartbeats 1600000 in
theorem slow_any {w : World} {v : Value} {ls : List ByteArray} (h : StrLst w v ls) (hn : ls.length ≤ 1000) (hz : ∀ s ∈ ls, s.size ≤ 140737488355328) :
 Calls Tryz.prog 6 #[v] w fun e w' => SlowIs ls w e w' := by
 have HV : Hid (StrLst w v ls) := h
 have HZ : Hid (∀ s ∈ ls, s.size ≤ 140737488355328) := hz
 obtain ⟨a, cap, rfl, _⟩ := h.len
 clear h hz
 go_enter Tryz.func6, Tryz.ntmps6
 go_wp2_with fail
 go_loop [3, 4] (fun n i => ∃ k m : Nat, k ≤ ls.length ∧ m ≤ 9000 ∧ n = .int .i64 m ∧ i = .int .i64 k ∧ Hid (m = sumB (ls.take k))) (fun _ i => ls.length - (intOf i).toNat)
 case atStart => exact ⟨0, 0, Nat.zero_le _, Nat.zero_le _, rfl, rfl, rfl⟩
 case round =>
  obtain ⟨k, m, hk, hm, rfl, rfl, HM⟩ := hrel
  by_cases hlt : k < ls.length
  ·have hki : (k : Int) < (ls.length : Int) := by omega
   obtain ⟨bb, off, rfl, hst⟩ := HV.out.row (by omega)
   have c0 := hst.cell k hlt
   have hbl := hst.lt
   have hsz : ls[k].size ≤ 140737488355328 := HZ.out _ (List.getElem_mem hlt)
   have HX : Hid (m + ls[k].size = sumB (ls.take (k + 1))) := by
    show _ = _
    rw [List.take_succ_eq_append_getElem hlt, sumB_app, ← HM.out]
    simp [sumB]
   generalize ls[k] = s at *
   clear hst
   by_cases hg : 9000 < m + s.size
   ·have hgi : (9000 : Int) < (m : Int) + (s.size : Int) := by omega
    go_wp2
    go_ret
    exact ⟨true, rfl, fun e => (by cases e), rfl⟩
   ·have hgi : ¬ (9000 : Int) < (m : Int) + (s.size : Int) := by omega
    go_wp2
    go_round
    case rel => exact ⟨k + 1, m + s.size, by omega, by omega, by go_num, by go_num, HX.out⟩
    case measure => simp [intOf]; omega
  ·obtain rfl : k = ls.length := by omega
   go_wp2
   go_ret
   refine ⟨false, rfl, fun _ s hs => ?_, rfl⟩
   have h1 := HM.out
   rw [List.take_length] at h1
   have := sumB_le ls s hs
   omega
theorem strs_new (w : World) (ws : List ByteArray) {n : Nat} (hn : ws.length = n) : StrLst (w.alloc (.cells (ws.map Value.string).toArray 9)) (.slice (some ⟨w.heap.size, 0, none⟩) n n) ws := by
 refine ⟨_, n, n, rfl, hn, Nat.le_refl _, .inr ⟨_, 0, rfl, by simp, fun i hi => ?_⟩⟩
 rw [Lib.cell_of_heap (heap_alloc_new w (.cells (ws.map Value.string).toArray 9))]
 simp [hi]
def kbS13 : List ByteArray := kbL.map bl
theorem kbS_data : kbS13.map (·.data.toList) = kbL := by rfl
set_option maxHeartbeats 3200000 in
theorem kbegun_any (w : World) (hw : Ready w) : Calls Tryz.prog 5 #[] w fun e w' => e = .returned (.bool true) ∧ Below w.heap.size w w' := by
 have HW : Hid (Ready w) := hw
 have HN : Hid (Calls Tryz.prog 7 #[] w fun e w' => e = .returned (.pointer (some ⟨w.heap.size + 2, 0, none⟩)) ∧ w' = kdW w) := new_kd w
 have HB : Hid (Below w.heap.size w (kdW w)) := bla (bla (below1 _ _) (below1 _ _)) (below1 _ _)
 have HK : Hid (KdAt w.heap.size (w.heap.size + 2) (w.heap.size + 1) w.heap.size (fun _ => 0) [] twn0 (kdW w) (fun k => w.heap.size ≤ k ∧ k < (kdW w).heap.size)) := kd_start w (Nat.le_refl _)
 clear hw
 go_enter Tryz.func5, Tryz.ntmps5
 go_wp2_with fail
 refine HN.out.mono ?_
 rintro e w1 ⟨rfl, rfl⟩
 have HS : Hid (StrLst ((kdW w).alloc (.cells (kbS13.map Value.string).toArray 9)) (.slice (some ⟨(kdW w).heap.size, 0, none⟩) 13 13) kbS13) := strs_new _ _ rfl
 generalize kdW w = w1 at *
 clear HN
 have hb1 := HB.out
 have HK2 : Hid (KdAt w.heap.size (w.heap.size + 2) (w.heap.size + 1) w.heap.size (fun _ => 0) [] twn0 (w1.alloc (.cells (kbS13.map Value.string).toArray 9)) (fun k => w.heap.size ≤ k ∧ k < w1.heap.size)) := HK.out.below (below1 _ _)
 have HB2 : Hid (Below w.heap.size w (w1.alloc (.cells (kbS13.map Value.string).toArray 9))) := bla HB.out (below1 _ _)
 clear HK hb1
 have HD : Hid (Calls Tryz.prog 9 #[.pointer (some ⟨w.heap.size + 2, 0, none⟩), .slice (some ⟨w1.heap.size, 0, none⟩) 13 13] (w1.alloc (.cells (kbS13.map Value.string).toArray 9)) fun e w' => e = .returned (.tuple #[.string (bl kbO), ftV 0 0]) ∧ Below w.heap.size w w') := by
  have := do_kd HK2.out ⟨w, rfl, HW.out, HB2.out⟩ (v := .slice (some ⟨w1.heap.size, 0, none⟩) 13 13) (ls := kbS13) (fun wk hk => ?_) (by decide +kernel) (by rw [kbS_data]; exact kb_fault)
  ·rw [kbS_data, kb_told] at this
   exact this.mono fun e w' ⟨e1, _, _, _, e2⟩ => ⟨e1, HB2.out.trans (e2.below (fun k e => e.1) HB2.out.size)⟩
  ·obtain ⟨a, len, cap, hv, h1, h2, h3⟩ := HS.out
   refine ⟨a, len, cap, hv, h1, h2, ?_⟩
   rcases h3 with h3 | ⟨b, off, rfl, hr⟩
   ·exact .inl h3
   ·refine .inr ⟨b, off, rfl, Nat.lt_of_lt_of_le hr.lt hk.size, fun i hi => ?_⟩
    simp only [Value.slice.injEq, Option.some.injEq, Addr.mk.injEq] at hv
    obtain ⟨⟨rfl, _⟩, _⟩ := hv
    rw [World.cell?_of_block (a := ⟨w1.heap.size, off + i, none⟩) (hk.block _ hr.lt (fun e => by have e2 : w1.heap.size < w1.heap.size := e.2; omega))]
    exact hr.cell i hi
 clear HK2 HS HB2
 go_wp2_with fail
 refine HD.out.mono ?_
 rintro e w2 ⟨rfl, hb⟩
 have HB3 : Hid (Below w.heap.size w (w2.alloc (.cells #[.int .i64 0, .int .i64 0] 31))) := bla hb (below1 _ _)
 obtain ⟨so, hso⟩ : ∃ so, bl kbO = so := ⟨_, rfl⟩
 have HBQ : Hid ((so.toList == kbO) = true) := by show _ = _; rw [ba_beq_list, ← hso]; exact decide_eq_true rfl
 rw [hso]
 clear hb HD hso
 go_wp2
 go_ret
 refine ⟨?_, HB3.out⟩
 show Ending.returned (.bool (so.toList == kbO)) = _
 rw [HBQ.out]
end Go.Proofs.YtcbnnfeelhlapadGreatDoor
