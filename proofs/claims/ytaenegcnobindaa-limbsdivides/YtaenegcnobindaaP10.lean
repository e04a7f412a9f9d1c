/-
  Walk of LimbsDivides: whatever two integers are handed in, the statement answers true.
-/
import Derived.Test.YtaenegcnobindaaW53
set_option linter.unusedVariables false
set_option linter.unusedSimpArgs false
namespace Go.Proofs.Ytaenegcnobindaa
open Go.RowKit

set_option maxHeartbeats 4000000 in
theorem limbsDivides_walk (neg : Bool) (ao : Option Addr) (n cap : Nat) (l : List Nat) (neg' : Bool) (ao' : Option Addr) (n' cap' : Nat) (l' : List Nat) (w : World) (R : Row .u32 B32 w ao n cap l) (R' : Row .u32 B32 w ao' n' cap' l') :
    Calls Try.prog 8 #[.agg #[.bool neg, .slice ao n cap], .agg #[.bool neg', .slice ao' n' cap']] w fun e w' => e = .returned (.bool true) ∧ Below w.heap.size w w' := by
  have HR := hid R
  have HR' := hid R'
  clear R R'
  go_enter Try.func8, Try.ntmps8
  go_wp2_with fail
  have bA := Baa w (.cells #[.bool neg, .slice ao n cap] 24) (.cells #[.bool neg', .slice ao' n' cap'] 24)
  have x1 := (Box.new 24 w neg ao n cap).alloc (.cells #[.bool neg', .slice ao' n' cap'] 24)
  have x2 := Box.new 24 (w.alloc (.cells #[.bool neg, .slice ao n cap] 24)) neg' ao' n' cap'
  rw [size_alloc] at x2
  have hsz : ((w.alloc (.cells #[.bool neg, .slice ao n cap] 24)).alloc (.cells #[.bool neg', .slice ao' n' cap'] 24)).heap.size = w.heap.size + 1 + 1 := by rw [size_alloc, size_alloc]
  generalize (w.alloc (.cells #[.bool neg, .slice ao n cap] 24)).alloc (.cells #[.bool neg', .slice ao' n' cap'] 24) = WA at *
  have bQ := Ba WA (.cells #[.bool neg, .slice ao n cap, .bool neg', .slice ao' n' cap'] 24)
  have y1 := x1.on bQ
  have y2 := x2.on bQ
  have hq := blk_new WA #[.bool neg, .slice ao n cap, .bool neg', .slice ao' n' cap'] 24
  rw [hsz] at hq
  have b0 := Bt bA bQ
  generalize WA.alloc (.cells #[.bool neg, .slice ao n cap, .bool neg', .slice ao' n' cap'] 24) = W at *
  refine (lgood2 (w.heap.size + 1 + 1) neg neg' ao ao' n cap n' cap' l l' W (blk_cell hq 0) (blk_cell hq 1) (blk_cell hq 2) (blk_cell hq 3) (HR.out.below b0) (HR'.out.below b0)).mono ?_
  rintro e w1 ⟨rfl, b1⟩
  have HB1 := hid (Bt b0 b1)
  have X1 := hid (y1.on b1)
  have X2 := hid (y2.on b1)
  have R1 := hid (HR.out.below HB1.out)
  have R1' := hid (HR'.out.below HB1.out)
  obtain ⟨c0, c1⟩ := X1.out.c
  obtain ⟨d0, d1⟩ := X2.out.c
  clear x1 x2 y1 y2 hq b0 b1 bQ bA hsz HR HR'
  cases hg : goodB neg l && goodB neg' l'
  · go_wp2_with (go_at_call 11; refine (awake_any _).mono ?_; rintro e w2 ⟨rfl, b2⟩)
    go_ret
    exact ⟨rfl, Bt HB1.out b2⟩
  · rw [Bool.and_eq_true] at hg
    have IA : Hid (IsInt w1 (.agg #[.bool neg, .slice ao n cap]) (sgn neg (val B32 l))) := ⟨neg, l, ⟨ao, n, cap, rfl, R1.out⟩, hg.1, rfl⟩
    have IB : Hid (IsInt w1 (.agg #[.bool neg', .slice ao' n' cap']) (sgn neg' (val B32 l'))) := ⟨neg', l', ⟨ao', n', cap', rfl, R1'.out⟩, hg.2, rfl⟩
    generalize sgn neg (val B32 l) = za at *
    generalize sgn neg' (val B32 l') = zb at *
    clear hg R1 R1'
    go_wp2_with fail
    refine (div_post _ _ za zb w1 IA.out IB.out).mono ?_
    rintro e w2 ⟨xq, xr, rfl, hq, hr, b2⟩
    obtain ⟨E, hE⟩ : ∃ E : Int, E = (if zb = 0 then (11 : Int) else 0) := ⟨_, rfl⟩
    obtain ⟨Q, hQ⟩ : ∃ E : Int, E = (if zb = 0 then (0 : Int) else za.tdiv zb) := ⟨_, rfl⟩
    obtain ⟨M, hM⟩ : ∃ E : Int, E = (if zb = 0 then (0 : Int) else za.tmod zb) := ⟨_, rfl⟩
    rw [← hQ] at hq
    rw [← hM] at hr
    rw [← hE]
    have HQE := hid hQ
    have HME := hid hM
    have hE1 : -100 ≤ E := by rw [hE]; split <;> omega
    have hE2 : E ≤ 100 := by rw [hE]; split <;> omega
    have HE := hid hE
    clear hE hQ hM


    obtain ⟨sq, aq, nq, cq, lq, rfl, _, _, _⟩ := hq.open_
    obtain ⟨sr, ar, nr, cr, lr, rfl, _, _, _⟩ := hr.open_
    have Y1 := hid (X1.out.on b2)
    have Y2 := hid (X2.out.on b2)
    clear c0 c1 d0 d1
    obtain ⟨c0, c1⟩ := ((Y1.out.alloc (.cells #[.bool sq, .slice aq nq cq] 24)).alloc (.cells #[.bool sr, .slice ar nr cr] 24)).c
    obtain ⟨d0, d1⟩ := ((Y2.out.alloc (.cells #[.bool sq, .slice aq nq cq] 24)).alloc (.cells #[.bool sr, .slice ar nr cr] 24)).c
    go_wp2_with fail
    have b3 := Ba w2 (.cells #[.bool sq, .slice aq nq cq] 24)
    have z1 := Box.new 24 w2 sq aq nq cq
    have s3 := size_alloc w2 (.cells #[.bool sq, .slice aq nq cq] 24)
    have hg3 : ∃ g, g = w2.heap.size := ⟨_, rfl⟩
    obtain ⟨g3, hg3⟩ := hg3
    rw [← hg3] at z1 s3
    rw [← hg3]
    clear c0 c1 d0 d1
    generalize w2.alloc (.cells #[.bool sq, .slice aq nq cq] 24) = w3 at *
    have b4 := Ba w3 (.cells #[.bool sr, .slice ar nr cr] 24)
    have z2 := Box.new 24 w3 sr ar nr cr
    rw [s3] at z2
    have z1' := z1.on b4
    generalize w3.alloc (.cells #[.bool sr, .slice ar nr cr] 24) = w4 at *
    have b24 := Bt b3 b4
    have HQ := hid (hq.below b24)
    have HM := hid (hr.below b24)
    have HB4 := hid (Bt (Bt HB1.out b2) b24)
    have IA4 := hid ((IA.out.below b2).below b24)
    have IB4 := hid ((IB.out.below b2).below b24)
    have Z1 := hid z1'
    have Z2 := hid z2
    clear hq hr b3 b4 b24 z1 z2 z1' s3 hg3 b2 IA IB X1 X2 Y1 Y2 HB1
    refine (rdiv_post _ _ za zb w4 IA4.out IB4.out).mono ?_
    rintro e w5 ⟨yq, yr, rfl, hq, hr, b5⟩
    rw [← HE.out]
    rw [← HQE.out] at hq
    rw [← HME.out] at hr
    obtain ⟨tq, bq, mq, kq, mmq, rfl, _, _, _⟩ := hq.open_
    obtain ⟨tr, br, mr, kr, mmr, rfl, _, _, _⟩ := hr.open_
    have HB5 := hid (Bt HB4.out b5)
    have Z3 := hid (Z1.out.on b5)
    have Z4 := hid (Z2.out.on b5)
    have HQ5 := hid (HQ.out.below b5)
    have HM5 := hid (HM.out.below b5)
    have v1 := Ba w5 (.cells #[.bool tq, .slice bq mq kq] 24)
    have z5 := Box.new 24 w5 tq bq mq kq
    have s5 := size_alloc w5 (.cells #[.bool tq, .slice bq mq kq] 24)
    have HP5 := hid hq
    have HN5 := hid hr
    clear hq hr b5 HB4 Z1 Z2 HQ HM
    have v2 := Ba (w5.alloc (.cells #[.bool tq, .slice bq mq kq] 24)) (.cells #[.bool tr, .slice br mr kr] 24)
    have z6 := Box.new 24 (w5.alloc (.cells #[.bool tq, .slice bq mq kq] 24)) tr br mr kr
    rw [s5] at z6
    have v3 := Bt v1 v2
    obtain ⟨c0, c1⟩ := (Z3.out.on v3).c
    obtain ⟨c2, c3⟩ := (Z4.out.on v3).c
    obtain ⟨c4, c5⟩ := (z5.on v2).c
    obtain ⟨c6, c7⟩ := z6.c
    have HQ6 := hid (HQ5.out.below v3)
    have HM6 := hid (HM5.out.below v3)
    have HP6 := hid (HP5.out.below v3)
    have HN6 := hid (HN5.out.below v3)
    have HB6 := hid (Bt HB5.out v3)
    have Z5 := hid (Z3.out.on v3)
    have Z6 := hid (Z4.out.on v3)
    have Z7 := hid (z5.on v2)
    have Z8 := hid z6
    clear v1 v2 v3 z5 z6 s5 HQ5 HM5 HP5 HN5 HB5 Z3 Z4
    go_wp2_with fail
    clear c0 c1 c2 c3 c4 c5 c6 c7
    generalize (w5.alloc (.cells #[.bool tq, .slice bq mq kq] 24)).alloc (.cells #[.bool tr, .slice br mr kr] 24) = w6 at *
    refine (same_true _ _ Q w6 HQ6.out HP6.out).mono ?_
    rintro e w7 ⟨rfl, b7⟩
    obtain ⟨c2, c3⟩ := (Z6.out.on b7).c
    obtain ⟨c6, c7⟩ := (Z8.out.on b7).c
    have HM7 := hid (HM6.out.below b7)
    have HN7 := hid (HN6.out.below b7)
    have HB7 := hid (Bt HB6.out b7)
    clear b7 HQ6 HP6 HM6 HN6 HB6 Z5 Z6 Z7 Z8
    go_wp2_with fail
    clear c2 c3 c6 c7
    refine (same_true _ _ M w7 HM7.out HN7.out).mono ?_
    rintro e w8 ⟨rfl, b8⟩
    have HB8 := hid (Bt HB7.out b8)
    have ee : (E == E) = true := by simp
    clear b8 HM7 HN7 HB7
    go_wp2_with (go_at_call 11; refine (awake_any _).mono ?_; rintro e w9 ⟨rfl, b9⟩)
    go_ret
    exact ⟨rfl, Bt HB8.out b9⟩

end Go.Proofs.Ytaenegcnobindaa
