/-
  The law DesksLate: WHO COMES LATE HAS ALL.
-/
import Derived.Test.YtnabhdfodckpdacTMath
namespace Go.Proofs.Ytnabhdfodckpdac
open Go Go.RowKit

set_option maxRecDepth 20000 in
set_option maxHeartbeats 6400000 in
theorem desksLate_any (v : Value) (xs : List Tst) (k : Int) (text : ByteArray) (w : World) (h : TLst w v xs) :
    Calls Try.prog 8 #[v, .int .i64 k, .string text] w fun e w' => e = .returned (.bool true) ∧ Below w.heap.size w w' := by
  have HD : Hid (TLst w v xs) := h
  obtain ⟨a, cap, rfl⟩ := h.len
  obtain ⟨jj, hjj, hj4⟩ := mod_fourT k
  clear h
  go_enter Try.func8, Try.ntmps8
  go_wp2_with fail
  refine (tbegun_any _).mono ?_
  rintro e w0 ⟨rfl, hb0⟩
  have HB0 : Hid (Below w.heap.size w w0) := hb0
  clear hb0
  go_wp2_with fail
  refine (greatT_any _ xs _ (HD.out.below HB0.out)).mono ?_
  rintro e w1 ⟨gr, rfl, hgr, rfl⟩
  cases gr
  · have hl := hgr rfl
    clear hgr
    by_cases htx : 100 < text.size
    · go_wp2_with fail
      go_ret
      exact ⟨rfl, HB0.out⟩
    · go_wp2_with fail
      refine (played_any _ xs _ (HD.out.below HB0.out) hl).mono ?_
      rintro e w2 ⟨D, G, pw, t, rfl, hd⟩
      have H2 : Hid (DkAny w1.heap.size w1 (fun _ => False) D G pw t w2) := hd
      clear hd
      go_wp2_with fail
      have HTI : Hid (TwI t) := H2.out.ti
      refine (H2.out.does ⟨1, jj, 0, 0, ⟨#[]⟩⟩).mono ?_
      rintro e w3 ⟨rfl, pw3, hd3, -⟩
      have H3 : Hid (DkAny w1.heap.size w1 (fun _ => False) D G pw3 (tDo t ⟨1, jj, 0, 0, ⟨#[]⟩⟩).2 w3) := hd3
      clear hd3 H2
      by_cases hc : (tDo t ⟨1, jj, 0, 0, ⟨#[]⟩⟩).1 = 0
      · obtain ⟨r, he, ho, hz, hsn, ht⟩ := late_join HTI.out hc
        rw [hc]
        have HE : Hid ((tDo t ⟨1, jj, 0, 0, ⟨#[]⟩⟩).2.ws jj = some r) := he
        have HT : Hid (r.opens = [] ∧ r.sent = 0 ∧ r.seen = (tDo t ⟨1, jj, 0, 0, ⟨#[]⟩⟩).2.b.ds.length ∧ vw r.list r.seen r.me = textL (tDo t ⟨1, jj, 0, 0, ⟨#[]⟩⟩).2.b.chars) := ⟨ho, hz, hsn, ht⟩
        have HTI1 : Hid (TwI (tDo t ⟨1, jj, 0, 0, ⟨#[]⟩⟩).2) := H3.out.ti
        clear he ho hz hsn ht hc HTI
        generalize (tDo t ⟨1, jj, 0, 0, ⟨#[]⟩⟩).2 = t1 at *
        obtain ⟨s, hs⟩ : ∃ s, strOfNums (textL t1.b.chars) = s := ⟨_, rfl⟩
        have HSV : Hid (strOfNums (textL t1.b.chars) = s) := hs
        obtain ⟨n, hn⟩ : ∃ n, (textL t1.b.chars).length = n := ⟨_, rfl⟩
        have hsz : s.size = n := by rw [← hs, ← hn, str_size]
        have hsz2 : s.size ≤ 200 := by rw [hsz, ← hn]; exact text_small _
        have HLS : Hid (∀ (hc : (tDo t1 ⟨2, jj, n, 0, text⟩).1 = 0) (hc2 : (tDo (tDo t1 ⟨2, jj, n, 0, text⟩).2 ⟨4, jj, 0, 0, ⟨#[]⟩⟩).1 = 0), textL (tDo (tDo t1 ⟨2, jj, n, 0, text⟩).2 ⟨4, jj, 0, 0, ⟨#[]⟩⟩).2.b.chars = textL t1.b.chars ++ nums text ∧ text.size ≤ 20 ∧ ∃ r3, (tDo (tDo t1 ⟨2, jj, n, 0, text⟩).2 ⟨4, jj, 0, 0, ⟨#[]⟩⟩).2.ws jj = some r3 ∧ vw r3.list r3.seen r3.me = textL t1.b.chars ++ nums text) := by
          have := late_sends HTI1.out HE.out HT.out.1 HT.out.2.1 HT.out.2.2.1 text
          rw [hn] at this
          exact this
        clear hs hn
        go_wp2_with fail
        refine (H3.out.writer jj).mono ?_
        rintro e w5 ⟨rfl, rfl⟩
        rw [desk_some hj4 HE.out]
        go_wp2_with fail
        refine wp_region_late (fun wk => DkAny w1.heap.size w1 (fun _ => False) D G pw3 t1 wk) (fun i => i == 2 || i == 4 || i == 9 || i == 12 || i == 14 || i == 19 || i == 22 || i == 24) (fun _ => false) (by kernel_rfl) (by kernel_rfl) (by kernel_rfl) (H3.out.after (Below.refl _ _).drew) ?_
        refine wpLate_big (some 39) w rfl (.pointer (some ⟨pw3 jj, 0, none⟩)) rfl (by kernel_rfl) (fun wk hwk => ?_) ?_
        · generalize hA : Act.eval _ = ρ
          have s8 : ρ (.tmp 8) = .pointer (some ⟨pw3 jj, 0, none⟩) := by rw [← hA]; kernel_rfl
          clear hA
          go_simp
        go_big_quiet_op
        refine wpLate_big (some 40) w rfl (.bool false) rfl (by kernel_rfl) (fun wk hwk => ?_) ?_
        · generalize hA : Act.eval _ = ρ
          have s39 : ρ (.tmp 39) = .pointer (some ⟨pw3 jj, 0, none⟩) := by rw [← hA]; kernel_rfl
          have k1 : ρ (.const (.pointer none)) = .pointer none := by rw [← hA]; kernel_rfl
          clear hA
          go_simp
        go_big_quiet_op
        refine wpLate_bigSpine (some 41) w rfl rfl (by kernel_rfl) (fun u => u = .bool false) (fun u wk => DkAny w1.heap.size w1 (fun _ => False) D G pw3 t1 wk) (fun u wk => DkAny w1.heap.size w1 (fun _ => False) D G pw3 t1 wk) (⟨_, rfl⟩) (fun _ _ h => h) (fun _ _ h => h) (fun wk hwk => ?_) (fun u9 hu9 => ?_)
        · generalize hA : Act.eval _ = ρ
          have s40 : ρ (.tmp 40) = .bool false := by rw [← hA]; kernel_rfl
          clear hA
          go_simp
          exact ⟨rfl, hwk⟩
        subst hu9
        go_big_quiet_op
        refine wpLate_big (some 42) w rfl (.pointer (some ⟨pw3 jj, 0, none⟩)) rfl (by kernel_rfl) (fun wk hwk => ?_) ?_
        · generalize hA : Act.eval _ = ρ
          have s8 : ρ (.tmp 8) = .pointer (some ⟨pw3 jj, 0, none⟩) := by rw [← hA]; kernel_rfl
          clear hA
          go_simp
        go_big_quiet_op
        refine wpLate_bigSpine (some 43) w rfl rfl (by kernel_rfl) (fun u => u = .string s) (fun u wk => DkAny w1.heap.size w1 (fun _ => False) D G pw3 t1 wk) (fun u wk => DkAny w1.heap.size w1 (fun _ => False) D G pw3 t1 wk) (⟨_, rfl⟩) (fun _ _ h => h) (fun _ _ h => h) (fun wk hwk => ?_) (fun u9 hu9 => ?_)
        · generalize hA : Act.eval _ = ρ
          have s42 : ρ (.tmp 42) = .pointer (some ⟨pw3 jj, 0, none⟩) := by rw [← hA]; kernel_rfl
          have sf : ρ (.func 17) = .func (.func 17) #[] #[] := by rw [← hA]; kernel_rfl
          clear hA
          go_simp
          refine (hwk.wtext hj4 HE.out).mono ?_
          rintro e w7 ⟨rfl, hb⟩
          exact ⟨_, rfl, by rw [HT.out.2.2.2, HSV.out], hwk.after hb⟩
        subst hu9
        go_big_quiet_op
        refine wpLate_big (some 44) w rfl (.pointer (some ⟨D, 0, none⟩)) rfl (by kernel_rfl) (fun wk hwk => ?_) ?_
        · generalize hA : Act.eval _ = ρ
          have s7 : ρ (.tmp 7) = .pointer (some ⟨D, 0, none⟩) := by rw [← hA]; kernel_rfl
          clear hA
          go_simp
        go_big_quiet_op
        refine wpLate_big (some 45) w rfl (.pointer (some ⟨D, 0, none⟩)) rfl (by kernel_rfl) (fun wk hwk => ?_) ?_
        · generalize hA : Act.eval _ = ρ
          have s44 : ρ (.tmp 44) = .pointer (some ⟨D, 0, none⟩) := by rw [← hA]; kernel_rfl
          clear hA
          go_simp
        go_big_quiet_op
        refine wpLate_big (some 46) w rfl (.pointer (some ⟨D, 0, none⟩)) rfl (by kernel_rfl) (fun wk hwk => ?_) ?_
        · generalize hA : Act.eval _ = ρ
          have s45 : ρ (.tmp 45) = .pointer (some ⟨D, 0, none⟩) := by rw [← hA]; kernel_rfl
          clear hA
          go_simp
        go_big_quiet_op
        refine wpLate_big (some 47) w rfl (.pointer (some ⟨G, 0, none⟩)) rfl (by kernel_rfl) (fun wk hwk => ?_) ?_
        · generalize hA : Act.eval _ = ρ
          have s46 : ρ (.tmp 46) = .pointer (some ⟨D, 0, none⟩) := by rw [← hA]; kernel_rfl
          clear hA
          have g0 := hwk.cells.book
          have hlt := hwk.cells.lt
          go_simp
        go_big_quiet_op
        refine wpLate_bigSpine (some 48) w rfl rfl (by kernel_rfl) (fun u => u = .string s) (fun u wk => DkAny w1.heap.size w1 (fun _ => False) D G pw3 t1 wk) (fun u wk => DkAny w1.heap.size w1 (fun _ => False) D G pw3 t1 wk) (⟨_, rfl⟩) (fun _ _ h => h) (fun _ _ h => h) (fun wk hwk => ?_) (fun u9 hu9 => ?_)
        · generalize hA : Act.eval _ = ρ
          have s47 : ρ (.tmp 47) = .pointer (some ⟨G, 0, none⟩) := by rw [← hA]; kernel_rfl
          have sf : ρ (.func 31) = .func (.func 31) #[] #[] := by rw [← hA]; kernel_rfl
          clear hA
          go_simp
          refine hwk.text.mono ?_
          rintro e w7 ⟨rfl, hb⟩
          exact ⟨_, rfl, by rw [HSV.out], hwk.after hb⟩
        subst hu9
        go_big_quiet_op
        refine wpLate_big (some 49) w rfl (.bool false) rfl (by kernel_rfl) (fun wk hwk => ?_) ?_
        · generalize hA : Act.eval _ = ρ
          have s43 : ρ (.tmp 43) = .string s := by rw [← hA]; kernel_rfl
          have s48 : ρ (.tmp 48) = .string s := by rw [← hA]; kernel_rfl
          clear hA
          go_simp
        go_big_quiet_op
        refine wpLate_big (some 50) w rfl (.bool false) rfl (by kernel_rfl) (fun wk hwk => ?_) ?_
        · generalize hA : Act.eval _ = ρ
          have s41 : ρ (.tmp 41) = .bool false := by rw [← hA]; kernel_rfl
          have k1 : ρ (.const (.bool true)) = .bool true := by rw [← hA]; kernel_rfl
          have s49 : ρ (.tmp 49) = .bool false := by rw [← hA]; kernel_rfl
          clear hA
          go_simp
        go_big_quiet_op
        refine wpLate_bigSpine (some 51) w rfl rfl (by kernel_rfl) (fun u => u = .bool false) (fun u wk => DkAny w1.heap.size w1 (fun _ => False) D G pw3 t1 wk) (fun u wk => DkAny w1.heap.size w1 (fun _ => False) D G pw3 t1 wk) (⟨_, rfl⟩) (fun _ _ h => h) (fun _ _ h => h) (fun wk hwk => ?_) (fun u9 hu9 => ?_)
        · generalize hA : Act.eval _ = ρ
          have s50 : ρ (.tmp 50) = .bool false := by rw [← hA]; kernel_rfl
          clear hA
          go_simp
          exact ⟨rfl, hwk⟩
        subst hu9
        go_big_quiet_op
        refine wpLate_big (some 52) w rfl (.pointer (some ⟨pw3 jj, 0, none⟩)) rfl (by kernel_rfl) (fun wk hwk => ?_) ?_
        · generalize hA : Act.eval _ = ρ
          have s8 : ρ (.tmp 8) = .pointer (some ⟨pw3 jj, 0, none⟩) := by rw [← hA]; kernel_rfl
          clear hA
          go_simp
        go_big_quiet_op
        refine wpLate_bigSpine (some 53) w rfl rfl (by kernel_rfl) (fun u => u = .int .i64 ((r.seen : Int))) (fun u wk => DkAny w1.heap.size w1 (fun _ => False) D G pw3 t1 wk) (fun u wk => DkAny w1.heap.size w1 (fun _ => False) D G pw3 t1 wk) (⟨_, rfl⟩) (fun _ _ h => h) (fun _ _ h => h) (fun wk hwk => ?_) (fun u9 hu9 => ?_)
        · generalize hA : Act.eval _ = ρ
          have s52 : ρ (.tmp 52) = .pointer (some ⟨pw3 jj, 0, none⟩) := by rw [← hA]; kernel_rfl
          have sf : ρ (.func 16) = .func (.func 16) #[] #[] := by rw [← hA]; kernel_rfl
          clear hA
          go_simp
          refine (hwk.wseen hj4 HE.out).mono ?_
          rintro e w7 ⟨rfl, rfl⟩
          exact ⟨_, rfl, rfl, hwk⟩
        subst hu9
        go_big_quiet_op
        refine wpLate_big (some 54) w rfl (.pointer (some ⟨D, 0, none⟩)) rfl (by kernel_rfl) (fun wk hwk => ?_) ?_
        · generalize hA : Act.eval _ = ρ
          have s7 : ρ (.tmp 7) = .pointer (some ⟨D, 0, none⟩) := by rw [← hA]; kernel_rfl
          clear hA
          go_simp
        go_big_quiet_op
        refine wpLate_big (some 55) w rfl (.pointer (some ⟨D, 0, none⟩)) rfl (by kernel_rfl) (fun wk hwk => ?_) ?_
        · generalize hA : Act.eval _ = ρ
          have s54 : ρ (.tmp 54) = .pointer (some ⟨D, 0, none⟩) := by rw [← hA]; kernel_rfl
          clear hA
          go_simp
        go_big_quiet_op
        refine wpLate_big (some 56) w rfl (.pointer (some ⟨D, 0, none⟩)) rfl (by kernel_rfl) (fun wk hwk => ?_) ?_
        · generalize hA : Act.eval _ = ρ
          have s55 : ρ (.tmp 55) = .pointer (some ⟨D, 0, none⟩) := by rw [← hA]; kernel_rfl
          clear hA
          go_simp
        go_big_quiet_op
        refine wpLate_big (some 57) w rfl (.pointer (some ⟨G, 0, none⟩)) rfl (by kernel_rfl) (fun wk hwk => ?_) ?_
        · generalize hA : Act.eval _ = ρ
          have s56 : ρ (.tmp 56) = .pointer (some ⟨D, 0, none⟩) := by rw [← hA]; kernel_rfl
          clear hA
          have g0 := hwk.cells.book
          have hlt := hwk.cells.lt
          go_simp
        go_big_quiet_op
        refine wpLate_bigSpine (some 58) w rfl rfl (by kernel_rfl) (fun u => u = .int .i64 ((r.seen : Int))) (fun u wk => DkAny w1.heap.size w1 (fun _ => False) D G pw3 t1 wk) (fun u wk => DkAny w1.heap.size w1 (fun _ => False) D G pw3 t1 wk) (⟨_, rfl⟩) (fun _ _ h => h) (fun _ _ h => h) (fun wk hwk => ?_) (fun u9 hu9 => ?_)
        · generalize hA : Act.eval _ = ρ
          have s57 : ρ (.tmp 57) = .pointer (some ⟨G, 0, none⟩) := by rw [← hA]; kernel_rfl
          have sf : ρ (.func 21) = .func (.func 21) #[] #[] := by rw [← hA]; kernel_rfl
          clear hA
          go_simp
          refine hwk.len.mono ?_
          rintro e w7 ⟨rfl, rfl⟩
          exact ⟨_, rfl, by rw [HT.out.2.2.1], hwk⟩
        subst hu9
        go_big_quiet_op
        refine wpLate_big (some 59) w rfl (.bool false) rfl (by kernel_rfl) (fun wk hwk => ?_) ?_
        · generalize hA : Act.eval _ = ρ
          have s53 : ρ (.tmp 53) = .int .i64 ((r.seen : Int)) := by rw [← hA]; kernel_rfl
          have s58 : ρ (.tmp 58) = .int .i64 ((r.seen : Int)) := by rw [← hA]; kernel_rfl
          clear hA
          go_simp
        go_big_quiet_op
        refine wpLate_big (some 60) w rfl (.bool false) rfl (by kernel_rfl) (fun wk hwk => ?_) ?_
        · generalize hA : Act.eval _ = ρ
          have s51 : ρ (.tmp 51) = .bool false := by rw [← hA]; kernel_rfl
          have k1 : ρ (.const (.bool true)) = .bool true := by rw [← hA]; kernel_rfl
          have s59 : ρ (.tmp 59) = .bool false := by rw [← hA]; kernel_rfl
          clear hA
          go_simp
        go_big_quiet_op
        refine wpLate_bigSpine (some 61) w rfl rfl (by kernel_rfl) (fun u => u = .bool false) (fun u wk => DkAny w1.heap.size w1 (fun _ => False) D G pw3 t1 wk) (fun u wk => DkAny w1.heap.size w1 (fun _ => False) D G pw3 t1 wk) (⟨_, rfl⟩) (fun _ _ h => h) (fun _ _ h => h) (fun wk hwk => ?_) (fun u9 hu9 => ?_)
        · generalize hA : Act.eval _ = ρ
          have s60 : ρ (.tmp 60) = .bool false := by rw [← hA]; kernel_rfl
          clear hA
          go_simp
          exact ⟨rfl, hwk⟩
        subst hu9
        go_big_quiet_op
        refine wpLate_big (some 62) w rfl (.pointer (some ⟨pw3 jj, 0, none⟩)) rfl (by kernel_rfl) (fun wk hwk => ?_) ?_
        · generalize hA : Act.eval _ = ρ
          have s8 : ρ (.tmp 8) = .pointer (some ⟨pw3 jj, 0, none⟩) := by rw [← hA]; kernel_rfl
          clear hA
          go_simp
        go_big_quiet_op
        refine wpLate_bigSpine (some 63) w rfl rfl (by kernel_rfl) (fun u => ∃ a c, u = .slice a 0 c) (fun u wk => DkAny w1.heap.size w1 (fun _ => False) D G pw3 t1 wk) (fun u wk => DkAny w1.heap.size w1 (fun _ => False) D G pw3 t1 wk) (⟨.slice none 0 0, _, _, rfl⟩) (fun _ _ h => h) (fun _ _ h => h) (fun wk hwk => ?_) (fun u36 hu36 => ?_)
        · generalize hA : Act.eval _ = ρ
          have s62 : ρ (.tmp 62) = .pointer (some ⟨pw3 jj, 0, none⟩) := by rw [← hA]; kernel_rfl
          have sf : ρ (.func 18) = .func (.func 18) #[] #[] := by rw [← hA]; kernel_rfl
          clear hA
          go_simp
          refine (hwk.wopen hj4 HE.out).mono ?_
          rintro e w7 ⟨v7, rfl, ho, hb⟩
          rw [HT.out.1] at ho
          obtain ⟨a, c, rfl⟩ := ho.len
          exact ⟨_, rfl, ⟨a, c, rfl⟩, hwk.after hb⟩
        obtain ⟨sa, sc, rfl⟩ := hu36
        go_big_quiet_op
        refine wpLate_big (some 64) w rfl (.int .i64 (0)) rfl (by kernel_rfl) (fun wk hwk => ?_) ?_
        · generalize hA : Act.eval _ = ρ
          have s63 : ρ (.tmp 63) = .slice sa 0 sc := by rw [← hA]; kernel_rfl
          clear hA
          go_simp
        go_big_quiet_op
        refine wpLate_big (some 65) w rfl (.bool false) rfl (by kernel_rfl) (fun wk hwk => ?_) ?_
        · generalize hA : Act.eval _ = ρ
          have s64 : ρ (.tmp 64) = .int .i64 (0) := by rw [← hA]; kernel_rfl
          have k1 : ρ (.const (.int .i64 (0))) = .int .i64 (0) := by rw [← hA]; kernel_rfl
          clear hA
          go_simp
        go_big_quiet_op
        refine wpLate_big (some 66) w rfl (.bool false) rfl (by kernel_rfl) (fun wk hwk => ?_) ?_
        · generalize hA : Act.eval _ = ρ
          have s61 : ρ (.tmp 61) = .bool false := by rw [← hA]; kernel_rfl
          have k1 : ρ (.const (.bool true)) = .bool true := by rw [← hA]; kernel_rfl
          have s65 : ρ (.tmp 65) = .bool false := by rw [← hA]; kernel_rfl
          clear hA
          go_simp
        go_big_quiet_op
        refine wpLate_nil (fun w9 hw9 => ?_)
        have H9 : Hid (DkAny w1.heap.size w1 (fun _ => False) D G pw3 t1 w9) := hw9
        clear hw9 H3
        go_wp2_with fail
        refine (H9.out.wtext hj4 HE.out).mono ?_
        rintro e w10 ⟨rfl, hb⟩
        rw [HT.out.2.2.2, HSV.out]
        have H10 : Hid (DkAny w1.heap.size w1 (fun _ => False) D G pw3 t1 w10) := H9.out.after hb
        clear hb H9
        go_wp2_with fail
        try rw [hsz]
        refine (H10.out.does ⟨2, jj, n, 0, text⟩).mono ?_
        rintro e w11 ⟨rfl, pw11, hd11, hp11⟩
        rw [hp11 (by show (2 : Int) ≠ 1; decide)] at hd11
        have H11 : Hid (DkAny w1.heap.size w1 (fun _ => False) D G pw3 (tDo t1 ⟨2, jj, n, 0, text⟩).2 w11) := hd11
        clear hd11 hp11 H10
        by_cases hc2 : (tDo t1 ⟨2, jj, n, 0, text⟩).1 = 0
        · have HC2 : Hid ((tDo t1 ⟨2, jj, n, 0, text⟩).1 = 0) := hc2
          rw [hc2]
          clear hc2
          go_wp2_with fail
          refine (H11.out.does ⟨4, jj, 0, 0, ⟨#[]⟩⟩).mono ?_
          rintro e w12 ⟨rfl, pw12, hd12, hp12⟩
          rw [hp12 (by show (4 : Int) ≠ 1; decide)] at hd12
          have H12 : Hid (DkAny w1.heap.size w1 (fun _ => False) D G pw3 (tDo (tDo t1 ⟨2, jj, n, 0, text⟩).2 ⟨4, jj, 0, 0, ⟨#[]⟩⟩).2 w12) := hd12
          clear hd12 hp12 H11
          by_cases hc4 : (tDo (tDo t1 ⟨2, jj, n, 0, text⟩).2 ⟨4, jj, 0, 0, ⟨#[]⟩⟩).1 = 0
          · obtain ⟨q1, q2, r3, q3, q4⟩ := HLS.out HC2.out hc4
            rw [hc4]
            have HT3 : Hid (strOfNums (textL (tDo (tDo t1 ⟨2, jj, n, 0, text⟩).2 ⟨4, jj, 0, 0, ⟨#[]⟩⟩).2.b.chars) = s ++ text) := by show _ = _; rw [q1, strOfNums_app, strOfNums_nums, HSV.out]
            have HV3 : Hid (strOfNums (vw r3.list r3.seen r3.me) = s ++ text) := by show _ = _; rw [q4, strOfNums_app, strOfNums_nums, HSV.out]
            have HE3 : Hid ((tDo (tDo t1 ⟨2, jj, n, 0, text⟩).2 ⟨4, jj, 0, 0, ⟨#[]⟩⟩).2.ws jj = some r3) := q3
            clear q1 q2 q3 q4 hc4 HLS HC2
            generalize (tDo (tDo t1 ⟨2, jj, n, 0, text⟩).2 ⟨4, jj, 0, 0, ⟨#[]⟩⟩).2 = t3 at *
            have H13 : Hid (DkAny w1.heap.size w1 (fun _ => False) D G pw3 t3 w12) := H12.out
            clear H12
            go_wp2_with fail
            refine wp_region_late (fun wk => DkAny w1.heap.size w1 (fun _ => False) D G pw3 t3 wk) (fun i => i == 4 || i == 9 || i == 11 || i == 16) (fun _ => false) (by kernel_rfl) (by kernel_rfl) (by kernel_rfl) (H13.out.after (Below.refl _ _).drew) ?_
            refine wpLate_big (some 84) w rfl (.pointer (some ⟨D, 0, none⟩)) rfl (by kernel_rfl) (fun wk hwk => ?_) ?_
            · generalize hA : Act.eval _ = ρ
              have s7 : ρ (.tmp 7) = .pointer (some ⟨D, 0, none⟩) := by rw [← hA]; kernel_rfl
              clear hA
              go_simp
            go_big_quiet_op
            refine wpLate_big (some 85) w rfl (.pointer (some ⟨D, 0, none⟩)) rfl (by kernel_rfl) (fun wk hwk => ?_) ?_
            · generalize hA : Act.eval _ = ρ
              have s84 : ρ (.tmp 84) = .pointer (some ⟨D, 0, none⟩) := by rw [← hA]; kernel_rfl
              clear hA
              go_simp
            go_big_quiet_op
            refine wpLate_big (some 86) w rfl (.pointer (some ⟨D, 0, none⟩)) rfl (by kernel_rfl) (fun wk hwk => ?_) ?_
            · generalize hA : Act.eval _ = ρ
              have s85 : ρ (.tmp 85) = .pointer (some ⟨D, 0, none⟩) := by rw [← hA]; kernel_rfl
              clear hA
              go_simp
            go_big_quiet_op
            refine wpLate_big (some 87) w rfl (.pointer (some ⟨G, 0, none⟩)) rfl (by kernel_rfl) (fun wk hwk => ?_) ?_
            · generalize hA : Act.eval _ = ρ
              have s86 : ρ (.tmp 86) = .pointer (some ⟨D, 0, none⟩) := by rw [← hA]; kernel_rfl
              clear hA
              have g0 := hwk.cells.book
              have hlt := hwk.cells.lt
              go_simp
            go_big_quiet_op
            refine wpLate_bigSpine (some 88) w rfl rfl (by kernel_rfl) (fun u => u = .string (s ++ text)) (fun u wk => DkAny w1.heap.size w1 (fun _ => False) D G pw3 t3 wk) (fun u wk => DkAny w1.heap.size w1 (fun _ => False) D G pw3 t3 wk) (⟨_, rfl⟩) (fun _ _ h => h) (fun _ _ h => h) (fun wk hwk => ?_) (fun u9 hu9 => ?_)
            · generalize hA : Act.eval _ = ρ
              have s87 : ρ (.tmp 87) = .pointer (some ⟨G, 0, none⟩) := by rw [← hA]; kernel_rfl
              have sf : ρ (.func 31) = .func (.func 31) #[] #[] := by rw [← hA]; kernel_rfl
              clear hA
              go_simp
              refine hwk.text.mono ?_
              rintro e w7 ⟨rfl, hb⟩
              exact ⟨_, rfl, by rw [HT3.out], hwk.after hb⟩
            subst hu9
            go_big_quiet_op
            refine wpLate_big (some 89) w rfl (.string s) rfl (by kernel_rfl) (fun wk hwk => ?_) ?_
            · generalize hA : Act.eval _ = ρ
              have s9 : ρ (.tmp 9) = .string s := by rw [← hA]; kernel_rfl
              clear hA
              go_simp
            go_big_quiet_op
            refine wpLate_big (some 90) w rfl (.string text) rfl (by kernel_rfl) (fun wk hwk => ?_) ?_
            · generalize hA : Act.eval _ = ρ
              have s2 : ρ (.tmp 2) = .string text := by rw [← hA]; kernel_rfl
              clear hA
              go_simp
            go_big_quiet_op
            refine wpLate_big (some 91) w rfl (.string (s ++ text)) rfl (by kernel_rfl) (fun wk hwk => ?_) ?_
            · generalize hA : Act.eval _ = ρ
              have s89 : ρ (.tmp 89) = .string s := by rw [← hA]; kernel_rfl
              have s90 : ρ (.tmp 90) = .string text := by rw [← hA]; kernel_rfl
              clear hA
              have z1 := hsz2
              have z2 := htx
              go_simp
              omega
            go_big_quiet_op
            refine wpLate_big (some 92) w rfl (.bool true) rfl (by kernel_rfl) (fun wk hwk => ?_) ?_
            · generalize hA : Act.eval _ = ρ
              have s88 : ρ (.tmp 88) = .string (s ++ text) := by rw [← hA]; kernel_rfl
              have s91 : ρ (.tmp 91) = .string (s ++ text) := by rw [← hA]; kernel_rfl
              clear hA
              go_simp
            go_big_quiet_op
            refine wpLate_bigSpine (some 93) w rfl rfl (by kernel_rfl) (fun u => u = .bool true) (fun u wk => DkAny w1.heap.size w1 (fun _ => False) D G pw3 t3 wk) (fun u wk => DkAny w1.heap.size w1 (fun _ => False) D G pw3 t3 wk) (⟨_, rfl⟩) (fun _ _ h => h) (fun _ _ h => h) (fun wk hwk => ?_) (fun u9 hu9 => ?_)
            · generalize hA : Act.eval _ = ρ
              have s92 : ρ (.tmp 92) = .bool true := by rw [← hA]; kernel_rfl
              clear hA
              go_simp
              exact ⟨rfl, hwk⟩
            subst hu9
            go_big_quiet_op
            refine wpLate_big (some 94) w rfl (.pointer (some ⟨pw3 jj, 0, none⟩)) rfl (by kernel_rfl) (fun wk hwk => ?_) ?_
            · generalize hA : Act.eval _ = ρ
              have s8 : ρ (.tmp 8) = .pointer (some ⟨pw3 jj, 0, none⟩) := by rw [← hA]; kernel_rfl
              clear hA
              go_simp
            go_big_quiet_op
            refine wpLate_bigSpine (some 95) w rfl rfl (by kernel_rfl) (fun u => u = .string (s ++ text)) (fun u wk => DkAny w1.heap.size w1 (fun _ => False) D G pw3 t3 wk) (fun u wk => DkAny w1.heap.size w1 (fun _ => False) D G pw3 t3 wk) (⟨_, rfl⟩) (fun _ _ h => h) (fun _ _ h => h) (fun wk hwk => ?_) (fun u9 hu9 => ?_)
            · generalize hA : Act.eval _ = ρ
              have s94 : ρ (.tmp 94) = .pointer (some ⟨pw3 jj, 0, none⟩) := by rw [← hA]; kernel_rfl
              have sf : ρ (.func 17) = .func (.func 17) #[] #[] := by rw [← hA]; kernel_rfl
              clear hA
              go_simp
              refine (hwk.wtext hj4 HE3.out).mono ?_
              rintro e w7 ⟨rfl, hb⟩
              exact ⟨_, rfl, by rw [HV3.out], hwk.after hb⟩
            subst hu9
            go_big_quiet_op
            refine wpLate_big (some 96) w rfl (.pointer (some ⟨D, 0, none⟩)) rfl (by kernel_rfl) (fun wk hwk => ?_) ?_
            · generalize hA : Act.eval _ = ρ
              have s7 : ρ (.tmp 7) = .pointer (some ⟨D, 0, none⟩) := by rw [← hA]; kernel_rfl
              clear hA
              go_simp
            go_big_quiet_op
            refine wpLate_big (some 97) w rfl (.pointer (some ⟨D, 0, none⟩)) rfl (by kernel_rfl) (fun wk hwk => ?_) ?_
            · generalize hA : Act.eval _ = ρ
              have s96 : ρ (.tmp 96) = .pointer (some ⟨D, 0, none⟩) := by rw [← hA]; kernel_rfl
              clear hA
              go_simp
            go_big_quiet_op
            refine wpLate_big (some 98) w rfl (.pointer (some ⟨D, 0, none⟩)) rfl (by kernel_rfl) (fun wk hwk => ?_) ?_
            · generalize hA : Act.eval _ = ρ
              have s97 : ρ (.tmp 97) = .pointer (some ⟨D, 0, none⟩) := by rw [← hA]; kernel_rfl
              clear hA
              go_simp
            go_big_quiet_op
            refine wpLate_big (some 99) w rfl (.pointer (some ⟨G, 0, none⟩)) rfl (by kernel_rfl) (fun wk hwk => ?_) ?_
            · generalize hA : Act.eval _ = ρ
              have s98 : ρ (.tmp 98) = .pointer (some ⟨D, 0, none⟩) := by rw [← hA]; kernel_rfl
              clear hA
              have g0 := hwk.cells.book
              have hlt := hwk.cells.lt
              go_simp
            go_big_quiet_op
            refine wpLate_bigSpine (some 100) w rfl rfl (by kernel_rfl) (fun u => u = .string (s ++ text)) (fun u wk => DkAny w1.heap.size w1 (fun _ => False) D G pw3 t3 wk) (fun u wk => DkAny w1.heap.size w1 (fun _ => False) D G pw3 t3 wk) (⟨_, rfl⟩) (fun _ _ h => h) (fun _ _ h => h) (fun wk hwk => ?_) (fun u9 hu9 => ?_)
            · generalize hA : Act.eval _ = ρ
              have s99 : ρ (.tmp 99) = .pointer (some ⟨G, 0, none⟩) := by rw [← hA]; kernel_rfl
              have sf : ρ (.func 31) = .func (.func 31) #[] #[] := by rw [← hA]; kernel_rfl
              clear hA
              go_simp
              refine hwk.text.mono ?_
              rintro e w7 ⟨rfl, hb⟩
              exact ⟨_, rfl, by rw [HT3.out], hwk.after hb⟩
            subst hu9
            go_big_quiet_op
            refine wpLate_big (some 101) w rfl (.bool true) rfl (by kernel_rfl) (fun wk hwk => ?_) ?_
            · generalize hA : Act.eval _ = ρ
              have s95 : ρ (.tmp 95) = .string (s ++ text) := by rw [← hA]; kernel_rfl
              have s100 : ρ (.tmp 100) = .string (s ++ text) := by rw [← hA]; kernel_rfl
              clear hA
              go_simp
            go_big_quiet_op
            refine wpLate_big (some 102) w rfl (.bool true) rfl (by kernel_rfl) (fun wk hwk => ?_) ?_
            · generalize hA : Act.eval _ = ρ
              have s93 : ρ (.tmp 93) = .bool true := by rw [← hA]; kernel_rfl
              have s101 : ρ (.tmp 101) = .bool true := by rw [← hA]; kernel_rfl
              have k2 : ρ (.const (.bool false)) = .bool false := by rw [← hA]; kernel_rfl
              clear hA
              go_simp
            go_big_quiet_op
            refine wpLate_big (some 6) w rfl (.bool true) rfl (by kernel_rfl) (fun wk hwk => ?_) ?_
            · generalize hA : Act.eval _ = ρ
              have s102 : ρ (.tmp 102) = .bool true := by rw [← hA]; kernel_rfl
              clear hA
              go_simp
            go_big_quiet_op
            refine wpLate_nil (fun w14 hw14 => ?_)
            have H14 : Hid (DkAny w1.heap.size w1 (fun _ => False) D G pw3 t3 w14) := hw14
            clear hw14 H13
            go_wp2_with fail
            go_ret
            exact ⟨rfl, below_after HB0.out H14.out.below⟩
          · obtain ⟨cq, hcq⟩ : ∃ c, (tDo (tDo t1 ⟨2, jj, n, 0, text⟩).2 ⟨4, jj, 0, 0, ⟨#[]⟩⟩).1 = c := ⟨_, rfl⟩
            have hcn : ¬ cq = 0 := by rw [← hcq]; exact hc4
            rw [hcq]
            clear hcq hc4 HLS
            go_wp2_with fail
            go_ret
            exact ⟨rfl, below_after HB0.out H12.out.below⟩
        · obtain ⟨cq, hcq⟩ : ∃ c, (tDo t1 ⟨2, jj, n, 0, text⟩).1 = c := ⟨_, rfl⟩
          have hcn : ¬ cq = 0 := by rw [← hcq]; exact hc2
          rw [hcq]
          clear hcq hc2 HLS
          go_wp2_with fail
          go_ret
          exact ⟨rfl, below_after HB0.out H11.out.below⟩
      · have HJ : Hid (t.b.isHere jj = true ∧ (tDo t ⟨1, jj, 0, 0, ⟨#[]⟩⟩).2.b = t.b) := by
          have hj : joinC t.b jj ≠ 0 := hc
          have e1 : (tDo t ⟨1, jj, 0, 0, ⟨#[]⟩⟩).2 = t := if_neg hj
          rcases join_codes t.b jj with ⟨h1, _⟩ | ⟨h1, h2, _⟩ | ⟨_, _, h3⟩
          · simp [wrB] at h1; omega
          · exact ⟨by rw [isHere_yes h1]; exact h2, by rw [e1]⟩
          · exact absurd h3 hj
        obtain ⟨cq, hcq⟩ : ∃ c, (tDo t ⟨1, jj, 0, 0, ⟨#[]⟩⟩).1 = c := ⟨_, rfl⟩
        have hcn : ¬ cq = 0 := by rw [← hcq]; exact hc
        rw [hcq]
        clear hcq hc
        have g0 := H3.out.cells.book
        have hlt0 := H3.out.cells.lt
        go_wp2_with fail
        clear g0 hlt0
        obtain ⟨tk3, hd3, _⟩ := H3.out
        obtain ⟨T, dv, lv, hlg, _⟩ := hd3.log
        refine (here_lg hlg.cells _).mono ?_
        rintro e w5 ⟨rfl, rfl⟩
        rw [HJ.out.2, HJ.out.1]
        clear hlg hd3
        go_wp2_with fail
        go_ret
        exact ⟨rfl, below_after HB0.out H3.out.below⟩
  · go_wp2
    go_ret
    exact ⟨rfl, HB0.out⟩

theorem law_deskslate (w : World) {v : Value} {xs : List Tst} (h : TLst w v xs) (k : Int) (text : ByteArray) :
    Calls Try.prog 8 #[v, .int .i64 k, .string text] w fun e w' => e = .returned (.bool true) ∧ Below w.heap.size w w' := desksLate_any v xs k text w h

end Go.Proofs.Ytnabhdfodckpdac
