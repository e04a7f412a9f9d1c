/-
  Walk of LimbsBack: whatever integer, radix and number of noughts are handed in, the statement answers true.
-/
import Derived.Test.YtlgnibbeajknoabW44
set_option linter.unusedVariables false
set_option linter.unusedSimpArgs false
namespace Go.Proofs.Ytlgnibbeajknoab
open Go.RowKit

set_option maxRecDepth 100000 in
set_option maxHeartbeats 4000000 in
theorem limbsBack_walk (neg : Bool) (ao : Option Addr) (n cap : Nat) (l : List Nat) (radix noughts : Int) (w : World) (R : Row .u32 B32 w ao n cap l) (h1 : -9223372036854775808 ≤ radix) (h2 : radix ≤ 9223372036854775807) (h3 : -9223372036854775808 ≤ noughts) (h4 : noughts ≤ 9223372036854775807) :
    Calls Try.prog 7 #[.agg #[.bool neg, .slice ao n cap], .int .i64 radix, .int .i64 noughts] w fun e w' => e = .returned (.bool true) ∧ Below w.heap.size w w' := by
  have HR := hid R
  clear R
  go_enter Try.func7, Try.ntmps7
  go_wp2_with fail
  have b0 := Baa w (.cells #[.bool neg, .slice ao n cap] 24) (.cells #[.bool neg, .slice ao n cap] 24)
  have x0 := (Box.new 24 w neg ao n cap).alloc (.cells #[.bool neg, .slice ao n cap] 24)
  have x1 := Box.new 24 (w.alloc (.cells #[.bool neg, .slice ao n cap] 24)) neg ao n cap
  rw [size_alloc] at x1
  generalize hW : (w.alloc (.cells #[.bool neg, .slice ao n cap] 24)).alloc (.cells #[.bool neg, .slice ao n cap] 24) = W at *
  clear hW
  refine (lgood1 (w.heap.size + 1) neg ao n cap l W x1.c.1 x1.c.2 (HR.out.below b0)).mono ?_
  rintro e w1 ⟨rfl, b1⟩
  have X := hid (x0.on b1)
  have HB1 := hid (Bt b0 b1)
  have R1 := hid (HR.out.below (Bt b0 b1))
  obtain ⟨c0, c1⟩ := X.out.c
  clear x0 x1 b0 b1 HR
  cases hg : goodB neg l
  · go_wp2_with (go_at_call 9; refine (awake_any _).mono ?_; rintro e w2 ⟨rfl, b2⟩)
    go_ret
    exact ⟨rfl, Bt HB1.out b2⟩
  have G1 := hid hg
  clear hg
  by_cases hlo : radix < 2
  · have e1 : decide (radix < 2) = true := by simp [hlo]
    go_wp2_with (go_at_call 9; refine (awake_any _).mono ?_; rintro e w2 ⟨rfl, b2⟩)
    go_ret
    exact ⟨rfl, Bt HB1.out b2⟩
  have e1 : decide (radix < 2) = false := by simp; omega
  by_cases hhi : 36 < radix
  · have e2 : decide (36 < radix) = true := by simp [hhi]
    go_wp2_with (go_at_call 9; refine (awake_any _).mono ?_; rintro e w2 ⟨rfl, b2⟩)
    go_ret
    exact ⟨rfl, Bt HB1.out b2⟩
  have e2 : decide (36 < radix) = false := by simp; omega
  obtain ⟨rx, rfl⟩ := Int.eq_ofNat_of_zero_le (by omega : 0 ≤ radix)
  have hr1 : 2 ≤ rx := by omega
  have hr2 : rx ≤ 36 := by omega
  clear hlo hhi
  go_wp2_with fail
  refine (print_all neg ao n cap l rx w1 R1.out G1.out).mono ?_
  rintro e w2 ⟨s, en, rfl, hp, b2⟩
  obtain ⟨rfl, D, hD1, hD2, hD3, hD4⟩ := hp.text G1.out hr1 hr2
  have HNB := hid (small_good R1.out.dg G1.out)
  have hDl := len_bound hr1 hD2 hD3 HNB.out
  have hbl : (body D).length ≤ 1281 := by
    unfold body
    split
    · simp
    · simp; omega
  have hsz : s.size ≤ 1282 := by
    rw [← bs_length, hD4, List.length_append]
    cases neg <;> simp <;> omega
  have hsz0 : 0 < s.size := by
    rw [← bs_length, hD4, List.length_append]
    have := List.length_pos_iff.2 (body_ne D)
    omega
  have hem : s.toList.isEmpty = false := by rw [empty_iff]; exact decide_eq_false (by omega)
  have HD1 := hid hD1
  have HD3 := hid hD3
  have HD4 := hid hD4
  have HB2 := hid (Bt HB1.out b2)
  have IX := hid (show IsInt w2 (.agg #[.bool neg, .slice ao n cap]) (sgn neg (val B32 l)) from ⟨neg, l, ⟨ao, n, cap, rfl, R1.out.below b2⟩, G1.out, rfl⟩)
  have X2 := hid (X.out.on b2)
  clear c0 c1 hp b2 hD1 hD2 hD3 hD4 HB1 X R1
  have HC1 : Hid (cutS (bs s) = (neg, body D)) := by
    unfold Hid
    rw [HD4.out]
    cases neg
    · exact cutS_none (body_digits HD1.out hr1 hr2) hr2
    · exact cutS_sg (c := 45) (r := body D) rfl (.inr rfl)
  have hzb := zeros_body HD1.out hr1 hr2 0
  rw [HD3.out] at hzb
  have HZ0 := hid hzb
  clear hzb
  go_wp2_with fail
  refine (parse_ok s rx w2 (by unfold maxLen; omega) hr1 hr2 HC1.out HZ0.out.1 HZ0.out.2 HNB.out).mono ?_
  rintro e w3 ⟨y, rfl, hy, b3⟩
  have hy0 := hy
  obtain ⟨sy, ay, ny, cy, ly, rfl, _⟩ := hy0.open_
  have b4 := Bt b3 (Ba w3 (.cells #[.bool sy, .slice ay ny cy] 24))
  have IY := hid (hy.below (Ba w3 (.cells #[.bool sy, .slice ay ny cy] 24)))
  have IX4 := hid (IX.out.below b4)
  have X4 := hid (X2.out.on b4)
  have HB4 := hid (Bt HB2.out b4)
  have Y4 := hid (Box.new 24 w3 sy ay ny cy)
  have hne := X2.out.lt
  have hne3 : w.heap.size ≠ w3.heap.size := by have := b3.size; omega
  have hge3 : w.heap.size ≤ w3.heap.size := by have := b3.size; omega
  obtain ⟨c0, c1⟩ := X4.out.c
  obtain ⟨d0, d1⟩ := Y4.out.c
  clear hy hy0 b3 b4 IX X2 HB2 hne
  go_wp2_with fail
  obtain ⟨g, hgg⟩ : ∃ g, g = w3.heap.size := ⟨_, rfl⟩
  rw [← hgg] at Y4 hne3 hge3 d0 d1
  rw [← hgg]
  generalize w3.alloc (.cells #[.bool sy, .slice ay ny cy] 24) = w4 at *
  refine (same_true _ _ _ _ IX4.out IY.out).mono ?_
  rintro e w5 ⟨rfl, b5⟩
  have IX5 := hid (IX4.out.below b5)
  have X5 := hid (X4.out.on b5)
  have Y5 := hid (Y4.out.on b5)
  have HB5 := hid (Bt HB4.out b5)
  clear c0 c1 d0 d1 b5 IX4 IY X4 Y4 HB4 hgg
  obtain ⟨c0, c1⟩ := X5.out.c
  cases neg
  · have HST : Hid (bs s = body D) := by
      unfold Hid
      have := HD4.out; simpa using this
    have htsz : s.size ≤ 1281 := by rw [← bs_length, HST.out]; exact hbl
    go_wp2
    generalize hsT : s = sT at *
    clear hsT
    go_loop [11, 12] (fun t i => ∃ k : Nat, ∃ S : ByteArray, k ≤ 50 ∧ i = .int .i64 k ∧ t = .string S ∧ Hid (bs S = 43 :: List.replicate k 48)) (fun _ i => 50 - (intOf i).toNat)
    case atStart => exact ⟨0, ⟨#[43]⟩, by omega, rfl, rfl, rfl⟩
    case round =>
      obtain ⟨k, S, hk, rfl, rfl, hS⟩ := hrel
      have hSl : S.size = k + 1 := by rw [← bs_length, hS.out]; simp
      by_cases hgo : (k : Int) < noughts ∧ k < 50
      · have e5 : decide ((k : Int) < noughts) = true := by simp [hgo.1]
        have e6 : decide ((k : Int) < 50) = true := by simp; omega
        have hcat : ¬ 9223372036854775807 < S.size + 1 := by omega
        go_wp2
        go_round
        case rel => exact ⟨k + 1, _, by omega, by go_num, rfl, by
          unfold Hid
          rw [bs_append, hS.out, List.replicate_succ']; rfl⟩
        case measure => simp [intOf]; omega
      · have e6 : (decide ((k : Int) < noughts) = false) ∨ (decide ((k : Int) < noughts) = true ∧ decide ((k : Int) < 50) = false) := by
          by_cases h : (k : Int) < noughts
          · exact .inr ⟨by simp [h], by simp; omega⟩
          · exact .inl (by simp [h])
        have hcat : ¬ 9223372036854775807 < S.size + sT.size := by omega
        have HCS : Hid (cutS (bs (S ++ sT)) = (false, List.replicate k 48 ++ body D)) := by
          unfold Hid
          rw [bs_append, hS.out, HST.out]
          exact cutS_sg (c := 43) (r := List.replicate k 48 ++ body D) rfl (by decide)
        have hzb := zeros_body HD1.out hr1 hr2 k
        rw [HD3.out] at hzb
        have HZ := hid hzb
        have hms : (S ++ sT).size ≤ maxLen := by rw [ByteArray.size_append]; unfold maxLen; omega
        have HMS := hid hms
        have HPC : Hid (∀ wx, Calls Try.prog 19 #[.string (S ++ sT), .int .i64 rx] wx fun e w' => ∃ x, e = .returned (.tuple #[x, .int .i64 0]) ∧ IsInt w' x (sgn false (val B32 l)) ∧ Below wx.heap.size wx w') := fun wx => parse_ok (S ++ sT) rx wx HMS.out hr1 hr2 HCS.out HZ.out.1 HZ.out.2 HNB.out
        clear hzb hms hgo
        have fin : Hid (Calls Try.prog 19 #[.string (S ++ sT), .int .i64 rx] w5 fun e w' => ∃ s2 a2 n2 c2, e = .returned (.tuple #[.agg #[.bool s2, .slice a2 n2 c2], .int .i64 0]) ∧ w'.cell? ⟨g, 0, none⟩ = some (.bool sy) ∧ w'.cell? ⟨g, 1, none⟩ = some (.slice ay ny cy) ∧ w'.frozen? ⟨g, 0, none⟩ = false ∧ w'.frozen? ⟨g, 1, none⟩ = false ∧ Hid (Box 24 w' w.heap.size false ao n cap ∧ Box 24 w' g sy ay ny cy ∧ IsInt w' (.agg #[.bool false, .slice ao n cap]) (sgn false (val B32 l)) ∧ IsInt ((w'.setCell ⟨g, 0, none⟩ (.bool s2)).setCell ⟨g, 1, none⟩ (.slice a2 n2 c2)) (.agg #[.bool s2, .slice a2 n2 c2]) (sgn false (val B32 l)) ∧ Below w.heap.size w w')) := by
          refine (HPC.out w5).mono ?_
          rintro e w6 ⟨x, rfl, ix, b6⟩
          obtain ⟨s2, a2, n2, c2, l2, rfl, R2, g2, hz⟩ := ix.open_
          have y6 := Y5.out.on b6
          exact ⟨s2, a2, n2, c2, rfl, y6.c.1, y6.c.2, y6.f.1, y6.f.2, X5.out.on b6, y6, IX5.out.below b6, ⟨s2, l2, ⟨a2, n2, c2, rfl, R2.setBox2 y6 s2 (.slice a2 n2 c2)⟩, g2, hz⟩, Bt HB5.out b6⟩
        rcases e6 with e6 | ⟨e6, e7⟩
        all_goals
          go_wp2_with fail
          refine fin.out.mono ?_
          rintro e w6 ⟨s2, a2, n2, c2, rfl, d0, d1, f0, f1, hZ⟩
          have XX := hid (hZ.out.1.far2 hne3 (.bool s2) (.slice a2 n2 c2))
          have YY := hid (hZ.out.2.1.set2 s2 a2 n2 c2)
          obtain ⟨_, _, iz1, iz2, bz⟩ := hZ.out
          have bz2 := (bz.setCell (p := ⟨g, 0, none⟩) hge3 (.bool s2)).setCell (p := ⟨g, 1, none⟩) hge3 (.slice a2 n2 c2)
          have IX6 : Hid (IsInt ((w6.setCell ⟨g, 0, none⟩ (.bool s2)).setCell ⟨g, 1, none⟩ (.slice a2 n2 c2)) (.agg #[.bool false, .slice ao n cap]) (sgn false (val B32 l))) := by
            obtain ⟨s3, a3, n3, c3, l3, e3, R3, g3, hz3⟩ := iz1.open_
            exact ⟨s3, l3, ⟨a3, n3, c3, e3, R3.setBox2 hZ.out.2.1 s2 (.slice a2 n2 c2)⟩, g3, hz3⟩
          have IY6 := hid iz2
          have HB6 := hid bz2
          obtain ⟨p0, p1⟩ := XX.out.c
          obtain ⟨q0, q1⟩ := YY.out.c
          clear iz1 iz2 bz bz2
          go_wp2_with fail
          refine (same_true _ _ _ _ IX6.out IY6.out).mono ?_
          rintro e w7 ⟨rfl, b7⟩
          have HB7 := hid (Bt HB6.out b7)
          clear b7
          go_wp2_with (go_at_call 9; refine (awake_any _).mono ?_; rintro e w9 ⟨rfl, b9⟩)
          go_ret
          exact ⟨rfl, Bt HB7.out b9⟩
  · have HST : Hid (bs (s.extract 1 s.size) = body D) := by
      unfold Hid
      rw [bs_extract, HD4.out]; rfl
    have htsz : (s.extract 1 s.size).size ≤ 1281 := by rw [← bs_length, HST.out]; exact hbl
    go_wp2
    generalize hsT : (s.extract 1 s.size) = sT at *
    clear hsT
    go_loop [11, 12] (fun t i => ∃ k : Nat, ∃ S : ByteArray, k ≤ 50 ∧ i = .int .i64 k ∧ t = .string S ∧ Hid (bs S = 45 :: List.replicate k 48)) (fun _ i => 50 - (intOf i).toNat)
    case atStart => exact ⟨0, ⟨#[45]⟩, by omega, rfl, rfl, rfl⟩
    case round =>
      obtain ⟨k, S, hk, rfl, rfl, hS⟩ := hrel
      have hSl : S.size = k + 1 := by rw [← bs_length, hS.out]; simp
      by_cases hgo : (k : Int) < noughts ∧ k < 50
      · have e5 : decide ((k : Int) < noughts) = true := by simp [hgo.1]
        have e6 : decide ((k : Int) < 50) = true := by simp; omega
        have hcat : ¬ 9223372036854775807 < S.size + 1 := by omega
        go_wp2
        go_round
        case rel => exact ⟨k + 1, _, by omega, by go_num, rfl, by
          unfold Hid
          rw [bs_append, hS.out, List.replicate_succ']; rfl⟩
        case measure => simp [intOf]; omega
      · have e6 : (decide ((k : Int) < noughts) = false) ∨ (decide ((k : Int) < noughts) = true ∧ decide ((k : Int) < 50) = false) := by
          by_cases h : (k : Int) < noughts
          · exact .inr ⟨by simp [h], by simp; omega⟩
          · exact .inl (by simp [h])
        have hcat : ¬ 9223372036854775807 < S.size + sT.size := by omega
        have HCS : Hid (cutS (bs (S ++ sT)) = (true, List.replicate k 48 ++ body D)) := by
          unfold Hid
          rw [bs_append, hS.out, HST.out]
          exact cutS_sg (c := 45) (r := List.replicate k 48 ++ body D) rfl (by decide)
        have hzb := zeros_body HD1.out hr1 hr2 k
        rw [HD3.out] at hzb
        have HZ := hid hzb
        have hms : (S ++ sT).size ≤ maxLen := by rw [ByteArray.size_append]; unfold maxLen; omega
        have HMS := hid hms
        have HPC : Hid (∀ wx, Calls Try.prog 19 #[.string (S ++ sT), .int .i64 rx] wx fun e w' => ∃ x, e = .returned (.tuple #[x, .int .i64 0]) ∧ IsInt w' x (sgn true (val B32 l)) ∧ Below wx.heap.size wx w') := fun wx => parse_ok (S ++ sT) rx wx HMS.out hr1 hr2 HCS.out HZ.out.1 HZ.out.2 HNB.out
        clear hzb hms hgo
        have fin : Hid (Calls Try.prog 19 #[.string (S ++ sT), .int .i64 rx] w5 fun e w' => ∃ s2 a2 n2 c2, e = .returned (.tuple #[.agg #[.bool s2, .slice a2 n2 c2], .int .i64 0]) ∧ w'.cell? ⟨g, 0, none⟩ = some (.bool sy) ∧ w'.cell? ⟨g, 1, none⟩ = some (.slice ay ny cy) ∧ w'.frozen? ⟨g, 0, none⟩ = false ∧ w'.frozen? ⟨g, 1, none⟩ = false ∧ Hid (Box 24 w' w.heap.size true ao n cap ∧ Box 24 w' g sy ay ny cy ∧ IsInt w' (.agg #[.bool true, .slice ao n cap]) (sgn true (val B32 l)) ∧ IsInt ((w'.setCell ⟨g, 0, none⟩ (.bool s2)).setCell ⟨g, 1, none⟩ (.slice a2 n2 c2)) (.agg #[.bool s2, .slice a2 n2 c2]) (sgn true (val B32 l)) ∧ Below w.heap.size w w')) := by
          refine (HPC.out w5).mono ?_
          rintro e w6 ⟨x, rfl, ix, b6⟩
          obtain ⟨s2, a2, n2, c2, l2, rfl, R2, g2, hz⟩ := ix.open_
          have y6 := Y5.out.on b6
          exact ⟨s2, a2, n2, c2, rfl, y6.c.1, y6.c.2, y6.f.1, y6.f.2, X5.out.on b6, y6, IX5.out.below b6, ⟨s2, l2, ⟨a2, n2, c2, rfl, R2.setBox2 y6 s2 (.slice a2 n2 c2)⟩, g2, hz⟩, Bt HB5.out b6⟩
        rcases e6 with e6 | ⟨e6, e7⟩
        all_goals
          go_wp2_with fail
          refine fin.out.mono ?_
          rintro e w6 ⟨s2, a2, n2, c2, rfl, d0, d1, f0, f1, hZ⟩
          have XX := hid (hZ.out.1.far2 hne3 (.bool s2) (.slice a2 n2 c2))
          have YY := hid (hZ.out.2.1.set2 s2 a2 n2 c2)
          obtain ⟨_, _, iz1, iz2, bz⟩ := hZ.out
          have bz2 := (bz.setCell (p := ⟨g, 0, none⟩) hge3 (.bool s2)).setCell (p := ⟨g, 1, none⟩) hge3 (.slice a2 n2 c2)
          have IX6 : Hid (IsInt ((w6.setCell ⟨g, 0, none⟩ (.bool s2)).setCell ⟨g, 1, none⟩ (.slice a2 n2 c2)) (.agg #[.bool true, .slice ao n cap]) (sgn true (val B32 l))) := by
            obtain ⟨s3, a3, n3, c3, l3, e3, R3, g3, hz3⟩ := iz1.open_
            exact ⟨s3, l3, ⟨a3, n3, c3, e3, R3.setBox2 hZ.out.2.1 s2 (.slice a2 n2 c2)⟩, g3, hz3⟩
          have IY6 := hid iz2
          have HB6 := hid bz2
          obtain ⟨p0, p1⟩ := XX.out.c
          obtain ⟨q0, q1⟩ := YY.out.c
          clear iz1 iz2 bz bz2
          go_wp2_with fail
          refine (same_true _ _ _ _ IX6.out IY6.out).mono ?_
          rintro e w7 ⟨rfl, b7⟩
          have HB7 := hid (Bt HB6.out b7)
          clear b7
          go_wp2_with (go_at_call 9; refine (awake_any _).mono ?_; rintro e w9 ⟨rfl, b9⟩)
          go_ret
          exact ⟨rfl, Bt HB7.out b9⟩

end Go.Proofs.Ytlgnibbeajknoab
