/-
  Walk of LimbsInts.
-/
import Derived.Test.YtfahdmfdklelkaaW20
set_option linter.unusedVariables false
set_option linter.unusedSimpArgs false
namespace Go.Proofs.Ytfahdmfdklelkaa
open Go.RowKit

theorem fits_of {n : Int} (h1 : -9223372036854775808 ≤ n) (h2 : n ≤ 9223372036854775807) : fits n = true := by simp [fits, h1, h2]

set_option maxHeartbeats 4000000 in
theorem limbsInts_walk (k : Int) (neg : Bool) (ao : Option Addr) (n cap : Nat) (l : List Nat) (w : World) (h1 : -9223372036854775808 ≤ k) (h2 : k ≤ 9223372036854775807) (R : Row .u32 B32 w ao n cap l) :
    Calls Try.prog 4 #[.int .i64 k, .agg #[.bool neg, .slice ao n cap]] w fun e w' => e = .returned (.bool true) ∧ Below w.heap.size w w' := by
  have HR := hid R
  clear R
  go_enter Try.func4, Try.ntmps4
  go_wp2_with fail
  have b0 := Baa w (.cells #[.bool neg, .slice ao n cap] 24) (.cells #[.bool neg, .slice ao n cap] 24)
  have x0 := (Box.new 24 w neg ao n cap).alloc (.cells #[.bool neg, .slice ao n cap] 24)
  have x1 := Box.new 24 (w.alloc (.cells #[.bool neg, .slice ao n cap] 24)) neg ao n cap
  rw [size_alloc] at x1
  generalize hW : (w.alloc (.cells #[.bool neg, .slice ao n cap] 24)).alloc (.cells #[.bool neg, .slice ao n cap] 24) = W at *
  clear hW
  refine (lgood1 (w.heap.size + 1) neg ao n cap l W x1.c.1 x1.c.2 (HR.out.below b0)).mono ?_
  rintro e w1 ⟨rfl, b1⟩
  have X := hid (x0.on b1)
  have HB1 := hid (Bt b0 b1)
  have R1 := hid (HR.out.below (Bt b0 b1))
  obtain ⟨c0, c1⟩ := X.out.c
  clear x0 x1 b0 b1 HR
  cases hg : goodB neg l
  · go_wp2_with (go_at_call 11; refine (awake_any _).mono ?_; rintro e w2 ⟨rfl, b2⟩)
    go_ret
    exact ⟨rfl, Bt HB1.out b2⟩
  · have G := hid hg
    have HI : Hid (IsInt w1 (.agg #[.bool neg, .slice ao n cap]) (sgn neg (val B32 l))) := ⟨neg, l, ⟨ao, n, cap, rfl, R1.out⟩, hg, rfl⟩
    generalize sgn neg (val B32 l) = z at *
    clear hg
    go_wp2_with fail
    refine (to_is _ z w1 HI.out).mono ?_
    rintro e w2 ⟨va, rfl, hva, b2⟩
    have X2 := hid (X.out.on b2)
    have I2 := hid (HI.out.below b2)
    have HB2 := hid (Bt HB1.out b2)
    have HVA := hid hva
    clear c0 c1 b2 hva
    obtain ⟨c0, c1⟩ := X2.out.c
    go_wp2_with fail
    refine (rto_is _ z w2 I2.out).mono ?_
    rintro e w3 ⟨vb, rfl, hvb, b3⟩
    have HB3 := hid (Bt HB2.out b3)
    have HVB := hid hvb
    clear c0 c1 b3 hvb X2 I2 HB2 X HI HB1
    go_wp2_with fail
    refine (from_is k w3 h1 h2).mono ?_
    rintro e w4 ⟨xk, rfl, ik, b4⟩
    have HB4 := hid (Bt HB3.out b4)
    have IK := hid ik
    clear b4 ik
    go_wp2_with fail
    refine (to_is xk k w4 IK.out).mono ?_
    rintro e w5 ⟨vc, rfl, hvc, b5⟩
    have hvk := hvc (fits_of h1 h2)
    subst hvk
    rw [fits_of h1 h2]
    have HB5 := hid (Bt HB4.out b5)
    clear b5 hvc
    go_wp2_with fail
    refine (from_is vc w5 h1 h2).mono ?_
    rintro e w6 ⟨xk2, rfl, ik2, b6⟩
    have HB6 := hid (Bt HB5.out b6)
    have IK2 := hid ik2
    clear b6 ik2
    go_wp2_with fail
    refine (rfrom_is vc w6 h1 h2).mono ?_
    rintro e w7 ⟨xr, rfl, ir, b7⟩
    have HB7 := hid (Bt HB6.out b7)
    have IK3 := hid (IK2.out.below b7)
    have IR := hid ir
    clear b7 ir
    go_wp2_with fail
    refine (same_true xk2 xr vc w7 IK3.out IR.out).mono ?_
    rintro e w8 ⟨rfl, b8⟩
    have HB8 := hid (Bt HB7.out b8)
    clear b8
    have ek : (vc == vc) = true := by simp
    cases hf : fits z
    · have ef : (false == false) = true := rfl
      go_wp2_with (go_at_call 11; refine (awake_any _).mono ?_; rintro e w9 ⟨rfl, b9⟩)
      go_ret
      exact ⟨rfl, Bt HB8.out b9⟩
    · have hab : va = vb := (HVA.out hf).trans (HVB.out hf).symm
      subst hab
      have ef : (true == true) = true := rfl
      have ea : (va == va) = true := by simp
      go_wp2_with (go_at_call 11; refine (awake_any _).mono ?_; rintro e w9 ⟨rfl, b9⟩)
      go_ret
      exact ⟨rfl, Bt HB8.out b9⟩

end Go.Proofs.Ytfahdmfdklelkaa
