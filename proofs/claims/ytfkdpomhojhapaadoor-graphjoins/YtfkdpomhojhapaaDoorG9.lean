/-
  Walks: the document's text.
-/
import Derived.Test.YtfkdpomhojhapaaDoorG6
set_option linter.unusedVariables false
set_option linter.unusedSimpArgs false
namespace Go.Proofs.YtfkdpomhojhapaaDoor
open Go.RowKit

theorem valid_any (t : ByteArray) (w : World) (ht : t.size ≤ maxLen) (hT : Tabs w) : Calls Tryd.prog 44 #[.string t] w fun e w' => e = .returned (.bool (Lib.validD t.data.toList)) ∧ Below w.heap.size w w' :=
  Any.utf8_ValidString Tryd.lays196 t w (by unfold maxLen at ht; exact ht) hT
theorem Bi (w : World) (s : ByteArray) (pos : Nat) : Below w.heap.size w (w.iter s pos) := Ba w _
theorem count_any (t : ByteArray) (w : World) (ht : t.size ≤ 1000000) : Calls Tryd.prog 45 #[.string t] w fun e w' => e = .returned (.int .i64 (Lib.runeCount t)) ∧ Below w.heap.size w w' :=
  (Any.utf8_RuneCountInString Tryd.lays195 t w (by omega)).mono fun e w' ⟨h1, pos, h2⟩ => ⟨h1, h2 ▸ Bi w t pos⟩
theorem textB_3 (t : ByteArray) : textB 3 t = printedB t := rfl
theorem textB_5 (t : ByteArray) : textB 5 t = (Lib.validD t.data.toList && decide (Lib.runeCount t ≤ 1024)) := rfl
theorem textB_6 (t : ByteArray) : textB 6 t = (decide (t.size ≠ 0) && Lib.validD t.data.toList) := rfl
theorem textB_9 (t : ByteArray) : textB 9 t = decide (t.size ≤ 1024) := rfl
theorem textB_v {k : Int} (t : ByteArray) (h : k = 12 ∨ k = 15) : textB k t = Lib.validD t.data.toList := by rcases h with rfl | rfl <;> rfl
theorem textB_o {k : Int} (t : ByteArray) (h1 : k ≠ 3) (h2 : k ≠ 5) (h3 : k ≠ 6) (h4 : k ≠ 9) (h5 : k ≠ 12) (h6 : k ≠ 15) : textB k t = decide (t.size = 0) := by unfold textB; simp [h1, h2, h3, h4, h5, h6]

theorem empty_dec (t : ByteArray) : decide (t = ByteArray.empty) = decide (t.size = 0) := by
  rw [Bool.eq_iff_iff, decide_eq_true_eq, decide_eq_true_eq]
  constructor
  · rintro rfl; rfl
  · intro h
    refine bs_ext ?_
    have h1 : bs t = [] := List.length_eq_zero_iff.1 (by rw [bs_length]; exact h)
    have h2 : bs ByteArray.empty = [] := List.length_eq_zero_iff.1 (by rw [bs_length]; rfl)
    rw [h1, h2]

set_option maxHeartbeats 1000000 in
theorem goodText_any (k : Int) (t : ByteArray) (w : World) (ht : t.size ≤ 1000000) (hT : Tabs w) : Calls Tryd.prog 34 #[.int .i64 k, .string t] w fun e w' => e = .returned (.bool (textB k t)) ∧ Below w.heap.size w w' := by
  have htm : t.size ≤ maxLen := by unfold maxLen; omega
  by_cases h1 : k = 3
  · subst h1
    rw [textB_3]
    have HP := hid (isPrinted_any t)
    generalize printedB t = L at *
    go_enter Tryd.func34, Tryd.ntmps34
    go_wp2_with (go_at_call 43; refine (HP.out _ htm).mono ?_; rintro e wz ⟨rfl, hwz⟩)
    go_ret
    exact ⟨rfl, hwz⟩
  · have e1 : (k == 3) = false := by simp [h1]
    have HV := hid (valid_any t w htm hT)
    by_cases h2 : k = 5
    · subst h2
      rw [textB_5]
      generalize Lib.validD t.data.toList = V at *
      have HC := hid (fun w => count_any t w ht)
      have hcl := Lib.runeCount_le t
      generalize Lib.runeCount t = C at *
      cases V
      · go_enter Tryd.func34, Tryd.ntmps34
        go_wp2_with (go_at_call 44; refine HV.out.mono ?_; rintro e wz ⟨rfl, hwz⟩)
        go_ret
        exact ⟨rfl, hwz⟩
      · go_enter Tryd.func34, Tryd.ntmps34
        go_wp2_with (first | (go_at_call 44; refine HV.out.mono ?_; rintro e wz ⟨rfl, hwz⟩) | (go_at_call 45; refine (HC.out _).mono ?_; rintro e wy ⟨rfl, hwy⟩))
        go_ret
        exact ⟨ret_b (by rw [Bool.eq_iff_iff]; simp <;> omega), Bt hwz hwy⟩
    · have e2 : (k == 5) = false := by simp [h2]
      by_cases h3 : k = 6
      · subst h3
        rw [textB_6]
        generalize Lib.validD t.data.toList = V at *
        by_cases h0 : t.size = 0
        · have hem : t.toList.isEmpty = true := by rw [empty_iff]; simp [h0]
          go_enter Tryd.func34, Tryd.ntmps34
          go_wp2_with fail
          go_ret
          exact ⟨ret_b (by simp [h0]), Below.refl _ _⟩
        · have hem : t.toList.isEmpty = false := by rw [empty_iff]; simp [h0]
          go_enter Tryd.func34, Tryd.ntmps34
          go_wp2_with (go_at_call 44; refine HV.out.mono ?_; rintro e wz ⟨rfl, hwz⟩)
          go_ret
          exact ⟨ret_b (by simp [h0]), hwz⟩
      · have e3 : (k == 6) = false := by simp [h3]
        by_cases h4 : k = 9
        · subst h4
          rw [textB_9]
          go_enter Tryd.func34, Tryd.ntmps34
          go_wp2
          go_ret
          exact ⟨ret_b (by rw [Bool.eq_iff_iff]; simp <;> omega), Below.refl _ _⟩
        · have e4 : (k == 9) = false := by simp [h4]
          by_cases h5 : k = 12
          · rw [textB_v t (.inl h5)]
            subst h5
            generalize Lib.validD t.data.toList = V at *
            go_enter Tryd.func34, Tryd.ntmps34
            go_wp2_with (go_at_call 44; refine HV.out.mono ?_; rintro e wz ⟨rfl, hwz⟩)
            go_ret
            exact ⟨rfl, hwz⟩
          · by_cases h6 : k = 15
            · rw [textB_v t (.inr h6)]
              subst h6
              generalize Lib.validD t.data.toList = V at *
              go_enter Tryd.func34, Tryd.ntmps34
              go_wp2_with (go_at_call 44; refine HV.out.mono ?_; rintro e wz ⟨rfl, hwz⟩)
              go_ret
              exact ⟨rfl, hwz⟩
            · have e5 : (k == 12) = false := by simp [h5]
              have e6 : (k == 15) = false := by simp [h6]
              rw [textB_o t h1 h2 h3 h4 h5 h6]
              have hem := empty_iff t
              go_enter Tryd.func34, Tryd.ntmps34
              go_wp2
              go_ret
              exact ⟨ret_b (empty_dec t), Below.refl _ _⟩

end Go.Proofs.YtfkdpomhojhapaaDoor

set_option linter.unusedVariables false
set_option linter.unusedSimpArgs false
namespace Go.Proofs.YtfkdpomhojhapaaDoor
open Go.RowKit

/-- A node's value. -/
def NVal (k n : Int) (t : ByteArray) (ak : Option Addr) (nk ck : Nat) : Value := .agg #[.int .i64 k, .int .i64 n, .string t, .slice ak nk ck]

set_option maxHeartbeats 1000000 in
theorem rnum_any (k n : Int) (t : ByteArray) (ak : Option Addr) (nk ck : Nat) (w : World) : Calls Tryd.prog 29 #[NVal k n t ak nk ck] w fun e w' => e = .returned (.bool (numB k n)) ∧ Below w.heap.size w w' := by
  unfold NVal
  have hb := Ba w (.cells #[.int .i64 k, .int .i64 n, .string t, .slice ak nk ck] 32)
  by_cases h2 : k = 2
  · subst h2
    rw [numB_2]
    by_cases hn : n = 0
    · subst hn
      go_enter Tryd.func29, Tryd.ntmps29
      go_wp2
      go_ret
      exact ⟨rfl, hb⟩
    · have e1 : (n == 0) = false := by simp [hn]
      go_enter Tryd.func29, Tryd.ntmps29
      go_wp2
      go_ret
      exact ⟨ret_b (by rw [beq_dec]; simp [hn]), hb⟩
  · by_cases h4 : k = 4
    · subst h4
      rw [numB_4]
      have HL := hid (letter_any n)
      generalize letB n = L at *
      go_enter Tryd.func29, Tryd.ntmps29
      go_wp2_with (go_at_call 41; refine (HL.out _).mono ?_; rintro e wz ⟨rfl, hwz⟩; rw [hwz])
      go_ret
      exact ⟨rfl, hb⟩
    · by_cases h13 : k = 13
      · subst h13
        rw [numB_13]
        by_cases hn : 0 ≤ n
        · go_enter Tryd.func29, Tryd.ntmps29
          go_wp2
          go_ret
          exact ⟨ret_b (by simp [hn]), hb⟩
        · have e1 : decide (0 ≤ n) = false := by simp [hn]
          go_enter Tryd.func29, Tryd.ntmps29
          go_wp2
          go_ret
          exact ⟨ret_b (by simp [e1]), hb⟩
      · rw [numB_o n h2 h4 h13]
        have e1 : (k == 2) = false := by simp [h2]
        have e2 : (k == 4) = false := by simp [h4]
        have e3 : (k == 13) = false := by simp [h13]
        go_enter Tryd.func29, Tryd.ntmps29
        go_wp2
        go_ret
        exact ⟨ret_b (beq_dec n 0), hb⟩

set_option maxHeartbeats 1000000 in
theorem rkids_any (k n : Int) (t : ByteArray) (ak : Option Addr) (c ck : Nat) (hc1 : c ≤ ck) (hc : ck ≤ maxLen) (w : World) : Calls Tryd.prog 30 #[NVal k n t ak c ck] w fun e w' => e = .returned (.bool (countB k c)) ∧ Below w.heap.size w w' := by
  unfold maxLen at hc
  unfold NVal
  have hb := Ba w (.cells #[.int .i64 k, .int .i64 n, .string t, .slice ak c ck] 32)
  by_cases h1 : k = 7
  · rw [countB_2 c (.inl h1)]
    subst h1
    go_enter Tryd.func30, Tryd.ntmps30
    go_wp2
    go_ret
    exact ⟨ret_b (beq_nat c 2), hb⟩
  · by_cases h2 : k = 13
    · rw [countB_2 c (.inr h2)]
      subst h2
      go_enter Tryd.func30, Tryd.ntmps30
      go_wp2
      go_ret
      exact ⟨ret_b (beq_nat c 2), hb⟩
    · have e1 : (k == 7) = false := by simp [h1]
      have e2 : (k == 13) = false := by simp [h2]
      by_cases h3 : k = 8
      · subst h3
        rw [countB_8]
        go_enter Tryd.func30, Tryd.ntmps30
        go_wp2
        go_ret
        exact ⟨ret_b (by rw [Bool.eq_iff_iff]; simp <;> omega), hb⟩
      · have e3 : (k == 8) = false := by simp [h3]
        by_cases h4 : k = 15
        · rw [countB_t c (.inl h4)]
          subst h4
          go_enter Tryd.func30, Tryd.ntmps30
          go_wp2
          go_ret
          exact ⟨rfl, hb⟩
        · by_cases h5 : k = 16
          · rw [countB_t c (.inr h5)]
            subst h5
            go_enter Tryd.func30, Tryd.ntmps30
            go_wp2
            go_ret
            exact ⟨rfl, hb⟩
          · have e4 : (k == 15) = false := by simp [h4]
            have e5 : (k == 16) = false := by simp [h5]
            rw [countB_o c h1 h2 h3 h4 h5]
            go_enter Tryd.func30, Tryd.ntmps30
            go_wp2
            go_ret
            exact ⟨ret_b (beq_nat c 0), hb⟩

end Go.Proofs.YtfkdpomhojhapaaDoor

set_option linter.unusedVariables false
set_option linter.unusedSimpArgs false
namespace Go.Proofs.YtfkdpomhojhapaaDoor
open Go.RowKit

theorem count_pos {t : ByteArray} (h : t.size ≠ 0) : 0 < Lib.runeCount t := by
  unfold Lib.runeCount
  obtain ⟨f, hf⟩ : ∃ f, t.size = f + 1 := ⟨t.size - 1, by omega⟩
  rw [hf]
  unfold Lib.runeCountFrom
  rw [if_pos (by omega)]; omega
theorem count_zero {t : ByteArray} (h : t.size = 0) : Lib.runeCount t = 0 := by
  have := Lib.runeCount_le t; omega
theorem valid_zero {t : ByteArray} (h : t.size = 0) : Lib.validD t.data.toList = true := by
  have : t.data.toList = [] := List.length_eq_zero_iff.1 h
  rw [this]; rfl
theorem utfN_bd (t : ByteArray) (h : t.size ≤ 1000000) : -1 ≤ utfN t ∧ utfN t ≤ 1000000 := by
  have := Lib.runeCount_le t
  unfold utfN; split <;> omega
theorem text5 (t : ByteArray) : textB 5 t = (decide (0 ≤ utfN t) && decide (utfN t ≤ 1024)) := by
  rw [textB_5, Bool.eq_iff_iff]; unfold utfN
  cases Lib.validD t.data.toList <;> simp <;> omega
theorem text6 (t : ByteArray) : textB 6 t = decide (0 < utfN t) := by
  rw [textB_6, Bool.eq_iff_iff]; unfold utfN
  by_cases h : t.size = 0
  · rw [valid_zero h, count_zero h]; simp [h]
  · have := count_pos h
    cases Lib.validD t.data.toList <;> simp [h] <;> omega
theorem textV {k : Int} (t : ByteArray) (h : k = 12 ∨ k = 15) : textB k t = decide (0 ≤ utfN t) := by
  rw [textB_v t h, Bool.eq_iff_iff]; unfold utfN
  cases Lib.validD t.data.toList <;> simp <;> omega

set_option maxHeartbeats 2000000 in
theorem rtext3_any (n : Int) (t : ByteArray) (ak : Option Addr) (nk ck : Nat) (w : World) (ht : t.size ≤ 5000) : Calls Tryd.prog 28 #[NVal 3 n t ak nk ck] w fun e w' => e = .returned (.bool (printedB t)) ∧ Below w.heap.size w w' := by
  unfold NVal
  have hb := Ba w (.cells #[.int .i64 3, .int .i64 n, .string t, .slice ak nk ck] 32)
  have hblk := blk_new w #[.int .i64 3, .int .i64 n, .string t, .slice ak nk ck] 32
  have hsz := size_alloc w (.cells #[.int .i64 3, .int .i64 n, .string t, .slice ak nk ck] 32)
  go_enter Tryd.func28, Tryd.ntmps28
  go_wp2_with fail
  obtain ⟨g, hg⟩ : ∃ g, g = w.heap.size := ⟨_, rfl⟩
  rw [← hg] at hblk hsz
  rw [← hg]
  generalize w.alloc (.cells #[.int .i64 3, .int .i64 n, .string t, .slice ak nk ck] 32) = W0 at *
  have HBK := hid hblk
  have HB := hid hb
  clear hblk hg hsz hb
  refine (rparse_any t 10 _ ht).mono ?_
  rintro e w1 ⟨x, en, rfl, b1, hP⟩
  obtain ⟨sg, ao, m, cap, l, rfl, R, hm, he1, he2, hE⟩ : ∃ sg ao m cap l, x = .agg #[.bool sg, .slice ao m cap] ∧ Row .u32 B32 w1 ao m cap l ∧ m ≤ 40 ∧ -100 ≤ en ∧ en ≤ 100 ∧ ∀ s, bs s = printL sg (val B32 l) → (decide (en = 0) && decide (s = t)) = printedB t := by
    have e10 : (10 : Int).toNat = 10 := rfl
    rcases hP with ⟨h, _⟩ | ⟨_, hd, rfl, rfl⟩ | ⟨_, hd, hA⟩
    · exact absurd ⟨by omega, by omega⟩ h
    · refine ⟨false, none, 0, 0, [], rfl, Row.nil _ _ _ _, by omega, by omega, by omega, fun s hs => ?_⟩
      unfold printedB; rw [hd]; rfl
    · rcases ans_int hA with ⟨hb, rfl, ao, n, cap, l, rfl, R, g, hv_, hn⟩ | ⟨hb, rfl⟩
      · refine ⟨_, ao, n, cap, l, rfl, R, hn, by omega, by omega, fun s hbs => ?_⟩
        unfold printedB
        rw [hv_] at hbs
        rw [e10] at hbs
        have hnb : hv 10 (cutS (bs t)).2 < B32 ^ 40 := by unfold Big at hb; rw [e10] at hb; omega
        rw [hd, ← hbs]
        simp only [Bool.true_and, hnb, decide_true]
        rw [Bool.eq_iff_iff, decide_eq_true_eq, decide_eq_true_eq]
        exact ⟨fun h => by rw [h], fun h => bs_ext h.symm⟩
      · obtain ⟨sx, ax, nx, cx, lx, hx, Rx, _⟩ := hA.form'
        rcases hA with ⟨h1, _⟩ | ⟨_, _, h3⟩
        · exact absurd hb h1
        · refine ⟨false, none, 0, 0, [], h3, Row.nil _ _ _ _, by omega, by omega, by omega, fun s hs => ?_⟩
          unfold printedB
          have hnb : ¬ hv 10 (cutS (bs t)).2 < B32 ^ 40 := by unfold Big at hb; rw [e10] at hb; omega
          simp only [hnb, decide_false, Bool.and_false, Bool.false_and]
          rfl
  have b2 := Ba w1 (.cells #[.bool sg, .slice ao m cap] 56)
  have R2 := hid (R.below b2)
  have HB2 := hid (Bt (Bt HB.out b1) b2)
  have HK2 := hid (((Bt b1 b2).block g (Array.getElem?_eq_some_iff.1 HBK.out).1).trans HBK.out)
  have HE := hid hE
  clear R b1 b2 hE hP HB HBK
  go_wp2_with fail
  generalize w1.alloc (.cells #[.bool sg, .slice ao m cap] 56) = w2 at *
  refine (rprint_all sg ao m cap l 10 w2 R2.out hm).mono ?_
  rintro e w3 ⟨s, ep, rfl, hpr, b3⟩
  obtain ⟨hbs, rfl⟩ := hpr.is
  have hfin := hid (HE.out s hbs)
  have c2 := blk_cell ((b3.block g (Array.getElem?_eq_some_iff.1 HK2.out).1).trans HK2.out) 2
  have c2' : w3.cell? ⟨g, 2, none⟩ = some (.string t) := c2
  have HB3 := hid (Bt HB2.out b3)
  clear hpr hbs b3 c2 HE HK2 R2
  by_cases h0 : en = 0
  · subst h0
    go_wp2
    go_ret
    refine ⟨ret_b ?_, HB3.out⟩
    have := hfin.out
    rw [← this, str_eq]; simp
  · have e0 : (en == 0) = false := by simp [h0]
    go_wp2
    go_ret
    refine ⟨ret_b ?_, HB3.out⟩
    have := hfin.out
    rw [← this]; simp [h0]

set_option maxHeartbeats 1000000 in
theorem rtext_any (k n : Int) (t : ByteArray) (ak : Option Addr) (nk ck : Nat) (w : World) (ht : t.size ≤ 5000) : Calls Tryd.prog 28 #[NVal k n t ak nk ck] w fun e w' => e = .returned (.bool (textB k t)) ∧ Below w.heap.size w w' := by
  by_cases h1 : k = 3
  · subst h1; rw [textB_3]; exact rtext3_any n t ak nk ck w ht
  · unfold NVal
    have hb := Ba w (.cells #[.int .i64 k, .int .i64 n, .string t, .slice ak nk ck] 32)
    have e1 : (k == 3) = false := by simp [h1]
    have HU := hid (fun w => utf_any t w (by omega))
    obtain ⟨hu1, hu2⟩ := utfN_bd t (by omega)
    by_cases h2 : k = 5
    · subst h2
      rw [text5]
      generalize utfN t = U at *
      by_cases hU : 0 ≤ U
      · go_enter Tryd.func28, Tryd.ntmps28
        go_wp2_with (go_at_call 40; refine (HU.out _).mono ?_; rintro e wz ⟨rfl, kz, hwz⟩; rw [hwz])
        go_ret
        exact ⟨ret_b (by simp [hU]), Bt hb (Bd _ _)⟩
      · have eU : decide (0 ≤ U) = false := by simp [hU]
        go_enter Tryd.func28, Tryd.ntmps28
        go_wp2_with (go_at_call 40; refine (HU.out _).mono ?_; rintro e wz ⟨rfl, kz, hwz⟩; rw [hwz])
        go_ret
        exact ⟨ret_b (by simp [eU]), Bt hb (Bd _ _)⟩
    · have e2 : (k == 5) = false := by simp [h2]
      by_cases h3 : k = 6
      · subst h3
        rw [text6]
        generalize utfN t = U at *
        go_enter Tryd.func28, Tryd.ntmps28
        go_wp2_with (go_at_call 40; refine (HU.out _).mono ?_; rintro e wz ⟨rfl, kz, hwz⟩; rw [hwz])
        go_ret
        exact ⟨rfl, Bt hb (Bd _ _)⟩
      · have e3 : (k == 6) = false := by simp [h3]
        by_cases h4 : k = 9
        · subst h4
          rw [textB_9]
          go_enter Tryd.func28, Tryd.ntmps28
          go_wp2
          go_ret
          exact ⟨ret_b (by rw [Bool.eq_iff_iff]; simp <;> omega), hb⟩
        · have e4 : (k == 9) = false := by simp [h4]
          by_cases h5 : k = 12
          · rw [textV t (.inl h5)]
            subst h5
            generalize utfN t = U at *
            go_enter Tryd.func28, Tryd.ntmps28
            go_wp2_with (go_at_call 40; refine (HU.out _).mono ?_; rintro e wz ⟨rfl, kz, hwz⟩; rw [hwz])
            go_ret
            exact ⟨rfl, Bt hb (Bd _ _)⟩
          · by_cases h6 : k = 15
            · rw [textV t (.inr h6)]
              subst h6
              generalize utfN t = U at *
              go_enter Tryd.func28, Tryd.ntmps28
              go_wp2_with (go_at_call 40; refine (HU.out _).mono ?_; rintro e wz ⟨rfl, kz, hwz⟩; rw [hwz])
              go_ret
              exact ⟨rfl, Bt hb (Bd _ _)⟩
            · have e5 : (k == 12) = false := by simp [h5]
              have e6 : (k == 15) = false := by simp [h6]
              rw [textB_o t h1 h2 h3 h4 h5 h6]
              go_enter Tryd.func28, Tryd.ntmps28
              go_wp2
              go_ret
              exact ⟨ret_b (empty_iff t), hb⟩

end Go.Proofs.YtfkdpomhojhapaaDoor
