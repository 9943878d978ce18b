/-
  Plain mathematics of a deed's line: it is read as the deed; a line that is a deed is its line; what its bytes are. No walk.
-/
import Derived.Test.YtnnfddemhhpfoaaDoorDCut
namespace Go.Proofs.YtnnfddemhhpfoaaDoor

theorem data_app (a b : ByteArray) : (a ++ b).data.toList = a.data.toList ++ b.data.toList := by simp

theorem strI_list (n : Int) : (strI n).data.toList = Lib.itoa n := by simp [strI]
theorem strI_bl (n : Int) : strI n = bl (Lib.itoa n) := rfl

theorem told4_list (a b c d : Int) : (toldB [a, b, c, d]).data.toList = 32 :: (Lib.itoa a ++ 32 :: (Lib.itoa b ++ 32 :: (Lib.itoa c ++ 32 :: Lib.itoa d))) := by
  simp only [toldB, List.foldl_cons, List.foldl_nil, data_app, strI_list]
  simp

theorem told5_list (a b c d e : Int) : (toldB [a, b, c, d, e]).data.toList = 32 :: (Lib.itoa a ++ 32 :: (Lib.itoa b ++ 32 :: (Lib.itoa c ++ 32 :: (Lib.itoa d ++ 32 :: Lib.itoa e)))) := by
  simp only [toldB, List.foldl_cons, List.foldl_nil, data_app, strI_list]
  simp

def putL (d : Dd) : List (List UInt8) := [[112, 117, 116], Lib.itoa d.by_, Lib.itoa d.no, Lib.itoa d.seen, Lib.itoa d.at_, d.text.data.toList]
def takeL (d : Dd) : List (List UInt8) := [[116, 97, 107, 101], Lib.itoa d.by_, Lib.itoa d.no, Lib.itoa d.seen, Lib.itoa d.at_, Lib.itoa d.many]

theorem line_put_list {d : Dd} (h : d.kind = 1) : (lineB d).data.toList = joinL (putL d) := by
  rw [lineB, if_pos h]
  simp only [data_app, told4_list, putL, joinL]
  simp

theorem line_take_list {d : Dd} (h : d.kind ≠ 1) : (lineB d).data.toList = joinL (takeL d) := by
  rw [lineB, if_neg h]
  simp only [data_app, told5_list, takeL, joinL]

theorem put_free (d : Dd) : ∀ x ∈ [[112, 117, 116], Lib.itoa d.by_, Lib.itoa d.no, Lib.itoa d.seen, Lib.itoa d.at_], ∀ b ∈ x, b ≠ (32 : UInt8) := by
  intro x hx
  simp only [List.mem_cons, List.not_mem_nil, or_false] at hx
  rcases hx with rfl | rfl | rfl | rfl | rfl
  · decide
  · exact itoa_free _
  · exact itoa_free _
  · exact itoa_free _
  · exact itoa_free _

theorem take_free (d : Dd) : ∀ x ∈ [[116, 97, 107, 101], Lib.itoa d.by_, Lib.itoa d.no, Lib.itoa d.seen, Lib.itoa d.at_], ∀ b ∈ x, b ≠ (32 : UInt8) := by
  intro x hx
  simp only [List.mem_cons, List.not_mem_nil, or_false] at hx
  rcases hx with rfl | rfl | rfl | rfl | rfl
  · decide
  · exact itoa_free _
  · exact itoa_free _
  · exact itoa_free _
  · exact itoa_free _

theorem small_of {d : Dd} (h : checkC d = 0) : (0 ≤ d.by_ ∧ d.by_ ≤ 1000) ∧ (0 ≤ d.no ∧ d.no ≤ 1000) ∧ (0 ≤ d.seen ∧ d.seen ≤ 1000) ∧ (0 ≤ d.at_ ∧ d.at_ ≤ 1000) := by
  have hp := (check_ok h).2
  simp [placedB, withinB, wrB] at hp
  omega

theorem readL_cons {s : ByteArray} {z : Int} {r : List ByteArray} {zs : List Int} (h : num1 s = some z) (hr : readL r = some zs) : readL (s :: r) = some (z :: zs) := by
  rw [readL, h, hr]; rfl

theorem dd_ext {d e : Dd} (h0 : d.kind = e.kind) (h1 : d.by_ = e.by_) (h2 : d.no = e.no) (h3 : d.seen = e.seen) (h4 : d.at_ = e.at_) (h5 : d.many = e.many) (h6 : d.text = e.text) : d = e := by
  cases d; cases e; simp_all

/-- THERE AND BACK: the line of a deed is read as it. -/
theorem line_back {d : Dd} (h : checkC d = 0) : parseD (lineS d) = some d := by
  obtain ⟨⟨b0, b1⟩, ⟨n0, n1⟩, ⟨s0, s1⟩, a0, a1⟩ := small_of h
  have hl : lineS d = lineB d := by rw [lineS, if_pos h]
  rw [parse_words, hl, wordsL]
  by_cases hk : d.kind = 1
  · obtain ⟨hm, _⟩ := put_ok h hk
    rw [line_put_list hk]
    have := cutK_of [[112, 117, 116], Lib.itoa d.by_, Lib.itoa d.no, Lib.itoa d.seen, Lib.itoa d.at_] d.text.data.toList (put_free d)
    have e : cutK 5 (joinL (putL d)) = putL d := this
    rw [e]
    show wordD putS (strI d.by_) (strI d.no) (strI d.seen) (strI d.at_) (bl d.text.data.toList) = some d
    rw [wordD, if_pos rfl, readL_cons (num_back _ b0 b1) (readL_cons (num_back _ n0 n1) (readL_cons (num_back _ s0 s1) (readL_cons (num_back _ a0 a1) rfl))), bl_data]
    show some _ = some _
    congr 1
    exact dd_ext hk.symm rfl rfl rfl rfl hm.symm rfl
  · obtain ⟨hk2, ht, m0, m1⟩ := take_ok h hk
    rw [line_take_list hk]
    have := cutK_of [[116, 97, 107, 101], Lib.itoa d.by_, Lib.itoa d.no, Lib.itoa d.seen, Lib.itoa d.at_] (Lib.itoa d.many) (take_free d)
    have e : cutK 5 (joinL (takeL d)) = takeL d := this
    rw [e]
    show wordD takeS (strI d.by_) (strI d.no) (strI d.seen) (strI d.at_) (strI d.many) = some d
    rw [wordD, if_neg (by decide), if_pos rfl, readL_cons (num_back _ b0 b1) (readL_cons (num_back _ n0 n1) (readL_cons (num_back _ s0 s1) (readL_cons (num_back _ a0 a1) (readL_cons (num_back _ (by omega) (by omega)) rfl))))]
    show some _ = some _
    congr 1
    exact dd_ext hk2.symm rfl rfl rfl rfl rfl (ba_empty ht).symm

theorem num1_str {s : ByteArray} {z : Int} (h : num1 s = some z) : strI z = s := by
  unfold num1 at h
  cases hn : numAll s with
  | none => rw [hn] at h; cases h
  | some v =>
    rw [hn] at h
    have h' : (if strI v = s then some v else none) = some z := h
    by_cases hs : strI v = s
    · rw [if_pos hs] at h'; obtain rfl := Option.some.inj h'; exact hs
    · rw [if_neg hs] at h'; cases h'

theorem readL_inv {s : ByteArray} {r : List ByteArray} {zs : List Int} (h : readL (s :: r) = some zs) : ∃ z us, zs = z :: us ∧ num1 s = some z ∧ readL r = some us := by
  rw [readL] at h
  cases hx : num1 s with
  | none => rw [hx] at h; cases h
  | some u =>
    rw [hx] at h
    cases hr : readL r with
    | none => rw [hr] at h; cases h
    | some us => rw [hr] at h; exact ⟨u, us, (Option.some.inj h).symm, rfl, rfl⟩

theorem num1_list {l : List UInt8} {z : Int} (h : num1 (bl l) = some z) : Lib.itoa z = l := bl_inj (num1_str h)

theorem ofSix_some {l : List (List UInt8)} {d : Dd} (h : ofSix (l.map bl) = some d) : ∃ w0 w1 w2 w3 w4 w5, l = [w0, w1, w2, w3, w4, w5] ∧ wordD (bl w0) (bl w1) (bl w2) (bl w3) (bl w4) (bl w5) = some d := by
  by_cases h6 : l.length = 6
  · obtain ⟨w0, w1, w2, w3, w4, w5, rfl⟩ := list_six h6
    exact ⟨w0, w1, w2, w3, w4, w5, rfl, h⟩
  · rw [ofSix_no (by simpa using h6)] at h; cases h

/-- A line that is a deed is its line. -/
theorem parse_back {s : ByteArray} {d : Dd} (h : parseD s = some d) (hc : checkC d = 0) : lineS d = s := by
  rw [parse_words] at h
  obtain ⟨w0, w1, w2, w3, w4, w5, hw, hd⟩ := ofSix_some h
  have hj : joinL [w0, w1, w2, w3, w4, w5] = s.data.toList := by rw [← hw, wordsL, cutK_join]
  have hl : lineS d = lineB d := by rw [lineS, if_pos hc]
  rw [wordD] at hd
  by_cases hp : bl w0 = putS
  · rw [if_pos hp] at hd
    cases hr : readL [bl w1, bl w2, bl w3, bl w4] with
    | none => rw [hr] at hd; cases hd
    | some zs =>
      rw [hr] at hd
      obtain rfl := Option.some.inj hd
      obtain ⟨z1, u1, rfl, e1, hr1⟩ := readL_inv hr
      obtain ⟨z2, u2, rfl, e2, hr2⟩ := readL_inv hr1
      obtain ⟨z3, u3, rfl, e3, hr3⟩ := readL_inv hr2
      obtain ⟨z4, u4, rfl, e4, hr4⟩ := readL_inv hr3
      have e0 : w0 = [112, 117, 116] := bl_inj hp
      rw [hl]
      refine ba_ext ?_
      rw [line_put_list rfl, ← hj, e0, ← num1_list e1, ← num1_list e2, ← num1_list e3, ← num1_list e4]
      simp [putL, putD]
  · rw [if_neg hp] at hd
    by_cases ht : bl w0 = takeS
    · rw [if_pos ht] at hd
      cases hr : readL [bl w1, bl w2, bl w3, bl w4, bl w5] with
      | none => rw [hr] at hd; cases hd
      | some zs =>
        rw [hr] at hd
        obtain rfl := Option.some.inj hd
        obtain ⟨z1, u1, rfl, e1, hr1⟩ := readL_inv hr
        obtain ⟨z2, u2, rfl, e2, hr2⟩ := readL_inv hr1
        obtain ⟨z3, u3, rfl, e3, hr3⟩ := readL_inv hr2
        obtain ⟨z4, u4, rfl, e4, hr4⟩ := readL_inv hr3
        obtain ⟨z5, u5, rfl, e5, hr5⟩ := readL_inv hr4
        have e0 : w0 = [116, 97, 107, 101] := bl_inj ht
        rw [hl]
        refine ba_ext ?_
        rw [line_take_list (by simp [takeD]), ← hj, e0, ← num1_list e1, ← num1_list e2, ← num1_list e3, ← num1_list e4, ← num1_list e5]
        simp [takeL, takeD]
    · rw [if_neg ht] at hd; cases hd

/-- Its bytes. -/
theorem line_bytes {d : Dd} (h : checkC d = 0) : ∀ b ∈ (lineS d).data.toList, 32 ≤ b.toNat ∧ b.toNat ≤ 126 := by
  have hi : ∀ n, ∀ b ∈ Lib.itoa n, 32 ≤ b.toNat ∧ b.toNat ≤ 126 := fun n b hb => by have := itoa_ok n b hb; omega
  have h32 : ∀ b : UInt8, b = 32 → 32 ≤ b.toNat ∧ b.toNat ≤ 126 := by rintro b rfl; decide
  have hl : lineS d = lineB d := by rw [lineS, if_pos h]
  rw [hl]
  by_cases hk : d.kind = 1
  · obtain ⟨_, hp⟩ := put_ok h hk
    have ht : ∀ b ∈ d.text.data.toList, 32 ≤ b.toNat ∧ b.toNat ≤ 126 := by
      simp only [printedB, Bool.and_eq_true, List.all_eq_true] at hp
      intro b hb
      have := hp.2 b hb
      simpa [okChar] using this
    rw [line_put_list hk]
    intro b hb
    simp only [putL, joinL, List.mem_append, List.mem_cons, List.not_mem_nil, or_false] at hb
    rcases hb with (rfl | rfl | rfl) | hb | hb | hb | hb | hb | hb | hb | hb | hb | hb
    · decide
    · decide
    · decide
    · exact h32 b hb
    · exact hi _ b hb
    · exact h32 b hb
    · exact hi _ b hb
    · exact h32 b hb
    · exact hi _ b hb
    · exact h32 b hb
    · exact hi _ b hb
    · exact h32 b hb
    · exact ht b hb
  · rw [line_take_list hk]
    intro b hb
    simp only [takeL, joinL, List.mem_append, List.mem_cons, List.not_mem_nil, or_false] at hb
    rcases hb with (rfl | rfl | rfl | rfl) | hb | hb | hb | hb | hb | hb | hb | hb | hb | hb
    · decide
    · decide
    · decide
    · decide
    · exact h32 b hb
    · exact hi _ b hb
    · exact h32 b hb
    · exact hi _ b hb
    · exact h32 b hb
    · exact hi _ b hb
    · exact h32 b hb
    · exact hi _ b hb
    · exact h32 b hb
    · exact hi _ b hb

theorem line_size {d : Dd} (h : checkC d = 0) : 8 ≤ (lineS d).size := by
  have hl : lineS d = lineB d := by rw [lineS, if_pos h]
  rw [hl, ← size_list]
  by_cases hk : d.kind = 1
  · rw [line_put_list hk]
    simp only [putL, joinL, List.length_append, List.length_cons, List.length_nil]
    omega
  · rw [line_take_list hk]
    simp only [takeL, joinL, List.length_append, List.length_cons, List.length_nil]
    omega

theorem line_head_put {d : Dd} (h : checkC d = 0) (hk : d.kind = 1) : (((lineS d).extract 0 4).toList == [112, 117, 116, 32]) = true ∧ (((lineS d).extract 0 5).toList == [116, 97, 107, 101, 32]) = false := by
  have hl : lineS d = lineB d := by rw [lineS, if_pos h]
  rw [hl, ByteArray.toList_eq, ByteArray.toList_eq, Lib.extract_from_zero, Lib.extract_from_zero, line_put_list hk]
  simp [putL, joinL]

theorem line_head_take {d : Dd} (h : checkC d = 0) (hk : d.kind ≠ 1) : (((lineS d).extract 0 4).toList == [112, 117, 116, 32]) = false ∧ (((lineS d).extract 0 5).toList == [116, 97, 107, 101, 32]) = true := by
  have hl : lineS d = lineB d := by rw [lineS, if_pos h]
  rw [hl, ByteArray.toList_eq, ByteArray.toList_eq, Lib.extract_from_zero, Lib.extract_from_zero, line_take_list hk]
  simp [takeL, joinL]

theorem line_size_le {d : Dd} (h : checkC d = 0) : (lineS d).size ≤ 200 := by
  have hI := inI_of h
  have hl : lineS d = lineB d := by rw [lineS, if_pos h]
  rw [hl, lineB]
  by_cases hk : d.kind = 1
  · rw [if_pos hk, ByteArray.size_append, ByteArray.size_append, ByteArray.size_append]
    have h1 := told_size [d.by_, d.no, d.seen, d.at_] (four_in hI)
    have h2 := (printed_size (put_ok h hk).2).2
    have e1 : (⟨#[112, 117, 116]⟩ : ByteArray).size = 3 := rfl
    have e2 : (⟨#[32]⟩ : ByteArray).size = 1 := rfl
    simp only [List.length_cons, List.length_nil] at h1
    omega
  · rw [if_neg hk, ByteArray.size_append]
    obtain ⟨_, _, m0, m1⟩ := take_ok h hk
    have h1 := told_size [d.by_, d.no, d.seen, d.at_, d.many] (five_in hI (by unfold inI; omega))
    have e1 : (⟨#[116, 97, 107, 101]⟩ : ByteArray).size = 4 := rfl
    simp only [List.length_cons, List.length_nil] at h1
    omega

theorem lineS_size (d : Dd) : (lineS d).size ≤ 200 := by
  by_cases h : checkC d = 0
  · exact line_size_le h
  · rw [lineS, if_neg h]
    exact Nat.zero_le _

end Go.Proofs.YtnnfddemhhpfoaaDoor
