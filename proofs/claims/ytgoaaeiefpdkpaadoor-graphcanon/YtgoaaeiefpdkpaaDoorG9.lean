/-
  Walks: the document's text.
-/
import Derived.Test.YtgoaaeiefpdkpaaDoorG8
set_option linter.unusedVariables false
set_option linter.unusedSimpArgs false
namespace Go.Proofs.YtgoaaeiefpdkpaaDoor
open Go.RowKit

theorem count_pos {t : ByteArray} (h : t.size ≠ 0) : 0 < Lib.runeCount t := by
  unfold Lib.runeCount
  obtain ⟨f, hf⟩ : ∃ f, t.size = f + 1 := ⟨t.size - 1, by omega⟩
  rw [hf]
  unfold Lib.runeCountFrom
  rw [if_pos (by omega)]; omega
theorem count_zero {t : ByteArray} (h : t.size = 0) : Lib.runeCount t = 0 := by
  have := Lib.runeCount_le t; omega
theorem valid_zero {t : ByteArray} (h : t.size = 0) : Lib.validD t.data.toList = true := by
  have : t.data.toList = [] := List.length_eq_zero_iff.1 h
  rw [this]; rfl
theorem utfN_bd (t : ByteArray) (h : t.size ≤ 1000000) : -1 ≤ utfN t ∧ utfN t ≤ 1000000 := by
  have := Lib.runeCount_le t
  unfold utfN; split <;> omega
theorem text5 (t : ByteArray) : textB 5 t = (decide (0 ≤ utfN t) && decide (utfN t ≤ 1024)) := by
  rw [textB_5, Bool.eq_iff_iff]; unfold utfN
  cases Lib.validD t.data.toList <;> simp <;> omega
theorem text6 (t : ByteArray) : textB 6 t = decide (0 < utfN t) := by
  rw [textB_6, Bool.eq_iff_iff]; unfold utfN
  by_cases h : t.size = 0
  · rw [valid_zero h, count_zero h]; simp [h]
  · have := count_pos h
    cases Lib.validD t.data.toList <;> simp [h] <;> omega
theorem textV {k : Int} (t : ByteArray) (h : k = 12 ∨ k = 15) : textB k t = decide (0 ≤ utfN t) := by
  rw [textB_v t h, Bool.eq_iff_iff]; unfold utfN
  cases Lib.validD t.data.toList <;> simp <;> omega

set_option maxHeartbeats 2000000 in
theorem rtext3_any (n : Int) (t : ByteArray) (ak : Option Addr) (nk ck : Nat) (w : World) (ht : t.size ≤ 5000) : Calls Tryd.prog 32 #[NVal 3 n t ak nk ck] w fun e w' => e = .returned (.bool (printedB t)) ∧ Below w.heap.size w w' := by
  unfold NVal
  have hb := Ba w (.cells #[.int .i64 3, .int .i64 n, .string t, .slice ak nk ck] 34)
  have hblk := blk_new w #[.int .i64 3, .int .i64 n, .string t, .slice ak nk ck] 34
  have hsz := size_alloc w (.cells #[.int .i64 3, .int .i64 n, .string t, .slice ak nk ck] 34)
  go_enter Tryd.func32, Tryd.ntmps32
  go_wp2_with fail
  obtain ⟨g, hg⟩ : ∃ g, g = w.heap.size := ⟨_, rfl⟩
  rw [← hg] at hblk hsz
  rw [← hg]
  generalize w.alloc (.cells #[.int .i64 3, .int .i64 n, .string t, .slice ak nk ck] 34) = W0 at *
  have HBK := hid hblk
  have HB := hid hb
  clear hblk hg hsz hb
  refine (rparse_any t 10 _ ht).mono ?_
  rintro e w1 ⟨x, en, rfl, b1, hP⟩
  obtain ⟨sg, ao, m, cap, l, rfl, R, hm, he1, he2, hE⟩ : ∃ sg ao m cap l, x = .agg #[.bool sg, .slice ao m cap] ∧ Row .u32 B32 w1 ao m cap l ∧ m ≤ 40 ∧ -100 ≤ en ∧ en ≤ 100 ∧ ∀ s, bs s = printL sg (val B32 l) → (decide (en = 0) && decide (s = t)) = printedB t := by
    have e10 : (10 : Int).toNat = 10 := rfl
    rcases hP with ⟨h, _⟩ | ⟨_, hd, rfl, rfl⟩ | ⟨_, hd, hA⟩
    · exact absurd ⟨by omega, by omega⟩ h
    · refine ⟨false, none, 0, 0, [], rfl, Row.nil _ _ _ _, by omega, by omega, by omega, fun s hs => ?_⟩
      unfold printedB; rw [hd]; rfl
    · rcases ans_int hA with ⟨hb, rfl, ao, n, cap, l, rfl, R, g, hv_, hn⟩ | ⟨hb, rfl⟩
      · refine ⟨_, ao, n, cap, l, rfl, R, hn, by omega, by omega, fun s hbs => ?_⟩
        unfold printedB
        rw [hv_] at hbs
        rw [e10] at hbs
        have hnb : hv 10 (cutS (bs t)).2 < B32 ^ 40 := by unfold Big at hb; rw [e10] at hb; omega
        rw [hd, ← hbs]
        simp only [Bool.true_and, hnb, decide_true]
        rw [Bool.eq_iff_iff, decide_eq_true_eq, decide_eq_true_eq]
        exact ⟨fun h => by rw [h], fun h => bs_ext h.symm⟩
      · obtain ⟨sx, ax, nx, cx, lx, hx, Rx, _⟩ := hA.form'
        rcases hA with ⟨h1, _⟩ | ⟨_, _, h3⟩
        · exact absurd hb h1
        · refine ⟨false, none, 0, 0, [], h3, Row.nil _ _ _ _, by omega, by omega, by omega, fun s hs => ?_⟩
          unfold printedB
          have hnb : ¬ hv 10 (cutS (bs t)).2 < B32 ^ 40 := by unfold Big at hb; rw [e10] at hb; omega
          simp only [hnb, decide_false, Bool.and_false, Bool.false_and]
          rfl
  have b2 := Ba w1 (.cells #[.bool sg, .slice ao m cap] 56)
  have R2 := hid (R.below b2)
  have HB2 := hid (Bt (Bt HB.out b1) b2)
  have HK2 := hid (((Bt b1 b2).block g (Array.getElem?_eq_some_iff.1 HBK.out).1).trans HBK.out)
  have HE := hid hE
  clear R b1 b2 hE hP HB HBK
  go_wp2_with fail
  generalize w1.alloc (.cells #[.bool sg, .slice ao m cap] 56) = w2 at *
  refine (rprint_all sg ao m cap l 10 w2 R2.out hm).mono ?_
  rintro e w3 ⟨s, ep, rfl, hpr, b3⟩
  obtain ⟨hbs, rfl⟩ := hpr.is
  have hfin := hid (HE.out s hbs)
  have c2 := blk_cell ((b3.block g (Array.getElem?_eq_some_iff.1 HK2.out).1).trans HK2.out) 2
  have c2' : w3.cell? ⟨g, 2, none⟩ = some (.string t) := c2
  have HB3 := hid (Bt HB2.out b3)
  clear hpr hbs b3 c2 HE HK2 R2
  by_cases h0 : en = 0
  · subst h0
    go_wp2
    go_ret
    refine ⟨ret_b ?_, HB3.out⟩
    have := hfin.out
    rw [← this, str_eq]; simp
  · have e0 : (en == 0) = false := by simp [h0]
    go_wp2
    go_ret
    refine ⟨ret_b ?_, HB3.out⟩
    have := hfin.out
    rw [← this]; simp [h0]

set_option maxHeartbeats 1000000 in
theorem rtext_any (k n : Int) (t : ByteArray) (ak : Option Addr) (nk ck : Nat) (w : World) (ht : t.size ≤ 5000) : Calls Tryd.prog 32 #[NVal k n t ak nk ck] w fun e w' => e = .returned (.bool (textB k t)) ∧ Below w.heap.size w w' := by
  by_cases h1 : k = 3
  · subst h1; rw [textB_3]; exact rtext3_any n t ak nk ck w ht
  · unfold NVal
    have hb := Ba w (.cells #[.int .i64 k, .int .i64 n, .string t, .slice ak nk ck] 34)
    have e1 : (k == 3) = false := by simp [h1]
    have HU := hid (fun w => utf_any t w (by omega))
    obtain ⟨hu1, hu2⟩ := utfN_bd t (by omega)
    by_cases h2 : k = 5
    · subst h2
      rw [text5]
      generalize utfN t = U at *
      by_cases hU : 0 ≤ U
      · go_enter Tryd.func32, Tryd.ntmps32
        go_wp2_with (go_at_call 41; refine (HU.out _).mono ?_; rintro e wz ⟨rfl, kz, hwz⟩; rw [hwz])
        go_ret
        exact ⟨ret_b (by simp [hU]), Bt hb (Bd _ _)⟩
      · have eU : decide (0 ≤ U) = false := by simp [hU]
        go_enter Tryd.func32, Tryd.ntmps32
        go_wp2_with (go_at_call 41; refine (HU.out _).mono ?_; rintro e wz ⟨rfl, kz, hwz⟩; rw [hwz])
        go_ret
        exact ⟨ret_b (by simp [eU]), Bt hb (Bd _ _)⟩
    · have e2 : (k == 5) = false := by simp [h2]
      by_cases h3 : k = 6
      · subst h3
        rw [text6]
        generalize utfN t = U at *
        go_enter Tryd.func32, Tryd.ntmps32
        go_wp2_with (go_at_call 41; refine (HU.out _).mono ?_; rintro e wz ⟨rfl, kz, hwz⟩; rw [hwz])
        go_ret
        exact ⟨rfl, Bt hb (Bd _ _)⟩
      · have e3 : (k == 6) = false := by simp [h3]
        by_cases h4 : k = 9
        · subst h4
          rw [textB_9]
          go_enter Tryd.func32, Tryd.ntmps32
          go_wp2
          go_ret
          exact ⟨ret_b (by rw [Bool.eq_iff_iff]; simp <;> omega), hb⟩
        · have e4 : (k == 9) = false := by simp [h4]
          by_cases h5 : k = 12
          · rw [textV t (.inl h5)]
            subst h5
            generalize utfN t = U at *
            go_enter Tryd.func32, Tryd.ntmps32
            go_wp2_with (go_at_call 41; refine (HU.out _).mono ?_; rintro e wz ⟨rfl, kz, hwz⟩; rw [hwz])
            go_ret
            exact ⟨rfl, Bt hb (Bd _ _)⟩
          · by_cases h6 : k = 15
            · rw [textV t (.inr h6)]
              subst h6
              generalize utfN t = U at *
              go_enter Tryd.func32, Tryd.ntmps32
              go_wp2_with (go_at_call 41; refine (HU.out _).mono ?_; rintro e wz ⟨rfl, kz, hwz⟩; rw [hwz])
              go_ret
              exact ⟨rfl, Bt hb (Bd _ _)⟩
            · have e5 : (k == 12) = false := by simp [h5]
              have e6 : (k == 15) = false := by simp [h6]
              rw [textB_o t h1 h2 h3 h4 h5 h6]
              go_enter Tryd.func32, Tryd.ntmps32
              go_wp2
              go_ret
              exact ⟨ret_b (empty_iff t), hb⟩

end Go.Proofs.YtgoaaeiefpdkpaaDoor
