/-
  The contracts of chars.Count and chars.View: loops over a list of bytes.
-/
import Derived.Test.YtebhbhcjfnohmabLeaf
namespace Go.Proofs.Ytebhbhcjfnohmab
open Go.RowKit

def seesC (seen by_ : Int) (x : Ch) : Bool := seesB x.by_ x.inn x.out x.gone seen by_
def cnt (l : List Ch) (seen by_ : Int) : Int := ((l.filter (seesC seen by_)).length : Int)

/-- The seven cells of a byte at a place of a block. -/
def At (w : World) (b o : Nat) (x : Ch) : Prop :=
  w.cell? ⟨b, o, none⟩ = some (.int .u8 x.c) ∧ w.cell? ⟨b, o + 1, none⟩ = some (.int .i64 x.by_) ∧ w.cell? ⟨b, o + 2, none⟩ = some (.int .i64 x.no) ∧
  w.cell? ⟨b, o + 3, none⟩ = some (.int .i64 x.k) ∧ w.cell? ⟨b, o + 4, none⟩ = some (.int .i64 x.inn) ∧ w.cell? ⟨b, o + 5, none⟩ = some (.int .i64 x.out) ∧
  w.cell? ⟨b, o + 6, none⟩ = some (.int .i64 x.gone)

/-- A list of bytes that lies in memory from a place on. -/
structure Row (w : World) (b off : Nat) (l : List Ch) : Prop where
  lt : b < w.heap.size
  at_ : ∀ i (h : i < l.length), At w b (off + i * 7) l[i]

theorem Row.below {w wr : World} {b off : Nat} {l : List Ch} (h : Row w b off l) (hb : Below w.heap.size w wr) : Row wr b off l := by
  refine ⟨Nat.lt_of_lt_of_le h.lt hb.size, fun i hi => ?_⟩
  have hc := (bcell hb).1
  have hx := h.at_ i hi
  unfold At at hx ⊢
  simp only [hc _ _ h.lt]
  exact hx

theorem take_snoc {α : Type} (l : List α) (k : Nat) (h : k < l.length) : l.take (k + 1) = l.take k ++ [l[k]] :=
  List.take_succ_eq_append_getElem h

theorem cnt_snoc (l : List Ch) (x : Ch) (seen by_ : Int) : cnt (l ++ [x]) seen by_ = cnt l seen by_ + if seesC seen by_ x = true then 1 else 0 := by
  unfold cnt
  rw [List.filter_append]
  by_cases h : seesC seen by_ x = true <;> simp [h]

theorem cnt_bd (l : List Ch) (seen by_ : Int) : 0 ≤ cnt l seen by_ ∧ cnt l seen by_ ≤ l.length := by
  unfold cnt
  have := List.length_filter_le (seesC seen by_) l
  omega

set_option maxRecDepth 20000 in
set_option maxHeartbeats 400000 in
theorem count_some (b off len cap : Nat) (l : List Ch) (seen by_ : Int) (w : World) (hl : l.length = len) (hm : len ≤ 281474976710656) (hr : Row w b off l) :
    Calls Try.prog 46 #[.slice (some ⟨b, off, none⟩) len cap, .int .i64 seen, .int .i64 by_] w fun e w' => e = .returned (.int .i64 (cnt l seen by_)) ∧ Below w.heap.size w w' := by
  have HR : Hid (Row w b off l) := hr
  have HL : Hid (l.length = len) := hl
  have hb := hr.lt
  clear hr hl
  go_enter Try.func46, Try.ntmps46
  go_wp2
  go_loopw [7, 12] (fun n i wr => ∃ k : Nat, k ≤ len ∧ i = .int .i64 k ∧ n = .int .i64 (cnt (l.take k) seen by_) ∧ Below w.heap.size w wr) (fun _ i _ => len - (intOf i).toNat)
  case atStart => exact ⟨0, Nat.zero_le _, rfl, rfl, Below.refl _ _⟩
  case round =>
    obtain ⟨k, hk, rfl, rfl, hbel⟩ := hrel
    by_cases hlt : k < len
    · have hkl : k < l.length := by rw [HL.out]; exact hlt
      have hd := cnt_bd (l.take k) seen by_
      have hle : (l.take k).length ≤ k := List.length_take_le _ _
      have HN : Hid (cnt (l.take (k + 1)) seen by_ = cnt (l.take k) seen by_ + if seesC seen by_ l[k] = true then 1 else 0) := by rw [take_snoc l k hkl]; exact cnt_snoc _ _ _ _
      obtain ⟨h0, h1, h2, h3, h4, h5, h6⟩ := (HR.out.below hbel).at_ k hkl
      generalize l[k] = x at h0 h1 h2 h3 h4 h5 h6 HN
      generalize cnt (l.take k) seen by_ = n at *
      go_wp2_with fail
      refine (sees_any x _ _ _).mono ?_
      rintro e w1 ⟨rfl, hb1⟩
      have hb2 : Below w.heap.size w w1 := below_after (hbel.alloc (by have := hbel.size; omega) _) hb1
      have HN' : Hid (cnt (l.take (k + 1)) seen by_ = n + if seesB x.by_ x.inn x.out x.gone seen by_ = true then 1 else 0) := HN
      clear h0 h1 h2 h3 h4 h5 h6 hb1 HN
      cases hs : seesB x.by_ x.inn x.out x.gone seen by_
      all_goals
        rw [hs] at HN'
        go_wp2
        go_roundw
        case rel => exact ⟨k + 1, by omega, by go_num, by rw [HN'.out]; simp, hb2⟩
        case measure => simp [intOf]; omega
    · go_wp2
      go_ret
      obtain rfl : k = len := by omega
      exact ⟨ret_int (by rw [← HL.out, List.take_length]), hbel⟩

theorem Try.infoByte : (Try.prog.info? 5).map (fun i => (i.zero, i.size, i.bytes)) = some (some (.int .u8 0), 1, 1) := by kernel_rfl

def vw (l : List Ch) (seen by_ : Int) : List Int := (l.filter (seesC seen by_)).map (·.c)
def cells8 (zs : List Int) : List Value := zs.map (Value.int .u8)

theorem vw_snoc (l : List Ch) (x : Ch) (seen by_ : Int) : vw (l ++ [x]) seen by_ = vw l seen by_ ++ if seesC seen by_ x = true then [x.c] else [] := by
  unfold vw
  rw [List.filter_append]
  by_cases h : seesC seen by_ x = true <;> simp [h]

theorem vw_le (l : List Ch) (seen by_ : Int) : (vw l seen by_).length ≤ l.length := by
  unfold vw
  have := List.length_filter_le (seesC seen by_) l
  simpa using this

theorem owns_below {w w' : World} {base : Nat} {e : TypeId} {size : Nat} {v : Value} {n : Nat} {xs : List Value} (h : w.ownsRow base e size v n xs) (hb : Below w.heap.size w w') : w'.ownsRow base e size v n xs :=
  h.kept (row := none) ⟨hb.os, hb.tape, hb.output, hb.size, fun k hk _ => hb.block k hk⟩ (by cases h' : v.ownBlock <;> simp)

theorem rel_view {w wr w1 w2 : World} {o o' : Obj} {v : Value} {n : Nat} {xs : List Value} (hbel : Below w.heap.size w wr) (hb1 : Below (wr.alloc o).heap.size (wr.alloc o) w1)
    (hown : w1.ownsRow w.heap.size 5 1 v n xs) (hg : (w1.alloc o').grownBy w2 v.ownBlock) : Below w.heap.size w w2 := by
  have h1 : Below w.heap.size w w1 := below_after (hbel.alloc (by have := hbel.size; omega) _) hb1
  have h2 : Below w.heap.size w (w1.alloc o') := h1.alloc (by have := h1.size; omega) _
  exact h2.grown hg (by have := h2.size; omega) (fun k hk => (hown.lt k hk).1)

set_option maxRecDepth 20000 in
set_option maxHeartbeats 400000 in
theorem view_some (b off len cap : Nat) (l : List Ch) (seen by_ : Int) (w : World) (hl : l.length = len) (hm : len ≤ 1099511627776) (hr : Row w b off l) :
    Calls Try.prog 40 #[.slice (some ⟨b, off, none⟩) len cap, .int .i64 seen, .int .i64 by_] w fun e w' =>
      ∃ v, e = .returned v ∧ w'.ownsRow w.heap.size 5 1 v (vw l seen by_).length (cells8 (vw l seen by_)) ∧ Below w.heap.size w w' := by
  have HR : Hid (Row w b off l) := hr
  have HL : Hid (l.length = len) := hl
  have hb := hr.lt
  clear hr hl
  obtain ⟨i0, hi, hz0, hz1, hz2⟩ := info_parts Try.infoByte
  go_enter Try.func40, Try.ntmps40
  go_wp2
  go_loopw [7, 12] (fun v i wr => ∃ k : Nat, k ≤ len ∧ i = .int .i64 k ∧ wr.ownsRow w.heap.size 5 1 v (vw (l.take k) seen by_).length (cells8 (vw (l.take k) seen by_)) ∧ Below w.heap.size w wr) (fun _ i _ => len - (intOf i).toNat)
  case atStart => exact ⟨0, Nat.zero_le _, rfl, World.ownsRow_nil _ _ _ _, Below.refl _ _⟩
  case round =>
    obtain ⟨k, hk, rfl, hown, hbel⟩ := hrel
    by_cases hlt : k < len
    · have hkl : k < l.length := by rw [HL.out]; exact hlt
      have hd := vw_le (l.take k) seen by_
      have hle : (l.take k).length ≤ k := List.length_take_le _ _
      have HN : Hid (vw (l.take (k + 1)) seen by_ = vw (l.take k) seen by_ ++ if seesC seen by_ l[k] = true then [l[k].c] else []) := by rw [take_snoc l k hkl]; exact vw_snoc _ _ _ _
      obtain ⟨h0, h1, h2, h3, h4, h5, h6⟩ := (HR.out.below hbel).at_ k hkl
      generalize l[k] = x at h0 h1 h2 h3 h4 h5 h6 HN
      generalize vw (l.take k) seen by_ = zs at *
      have hzs : zs.length ≤ 1099511627775 := by omega
      clear hd hle
      go_wp2_with fail
      refine (sees_any x _ _ _).mono ?_
      rintro e w1 ⟨rfl, hb1⟩
      have HN' : Hid (vw (l.take (k + 1)) seen by_ = zs ++ if seesB x.by_ x.inn x.out x.gone seen by_ = true then [x.c] else []) := HN
      have hown1 := owns_below (hown.alloc (.cells #[.int .u8 x.c, .int .i64 x.by_, .int .i64 x.no, .int .i64 x.k, .int .i64 x.inn, .int .i64 x.out, .int .i64 x.gone] 65)) hb1
      clear h0 h1 h2 h3 h4 h5 h6 HN hown
      cases hs : seesB x.by_ x.inn x.out x.gone seen by_
      · rw [hs] at HN'
        have hb2 : Below w.heap.size w w1 := below_after (hbel.alloc (by have := hbel.size; omega) _) hb1
        clear hb1 hbel
        go_wp2
        go_roundw
        case rel => exact ⟨k + 1, by omega, by go_num, by rw [HN'.out]; simpa using hown1, hb2⟩
        case measure => simp [intOf]; omega
      · rw [hs] at HN'
        obtain ⟨hc, hf⟩ := bcell hb1
        go_wp2_with (at_builtin; refine wpList_append_own _ rfl (.tmp 20) (.tmp 23) 61 rfl w.heap.size 5 i0 (.int .u8 0) 1 1 Try.underlying61 hi hz0 hz1 hz2 rfl (by decide) _ _ _ rfl (hown1.alloc _) ⟨w1.heap.size, 0, none⟩ 1 1 [.int .u8 x.c] rfl rfl ?c1 ?c2 ?c3 ?c4 ?c5 ?_)
        case c1 =>
          intro j u hj
          match j, hj with
          | 0, hj => simp at hj; subst hj; simp [Addr.add]
        case c2 => intro u hu; simp at hu; subst hu; rfl
        case c3 => unfold maxLen; omega
        case c4 => omega
        case c5 => have := hb1.size; have := hbel.size; simp at *; omega
        · intro v' w2 hown' hgrow _
          have hb2 := rel_view hbel hb1 hown1 hgrow
          clear hgrow hown1 hbel hb1 hc hf
          go_wp2
          go_roundw
          case rel => exact ⟨k + 1, by omega, by go_num, by rw [HN'.out]; simpa [cells8] using hown', hb2⟩
          case measure => simp [intOf]; omega
    · go_wp2
      go_ret
      obtain rfl : k = len := by omega
      exact ⟨_, rfl, by rw [← HL.out, List.take_length] at hown; exact hown, hbel⟩

end Go.Proofs.Ytebhbhcjfnohmab
