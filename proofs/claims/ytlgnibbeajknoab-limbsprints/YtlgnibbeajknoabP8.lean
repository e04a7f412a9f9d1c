/-
  Walk of LimbsPrints: whatever integer and radix are handed in, the statement answers true.
-/
import Derived.Test.YtlgnibbeajknoabW43
set_option linter.unusedVariables false
set_option linter.unusedSimpArgs false
namespace Go.Proofs.Ytlgnibbeajknoab
open Go.RowKit

set_option maxHeartbeats 4000000 in
theorem limbsPrints_walk (neg : Bool) (ao : Option Addr) (n cap : Nat) (l : List Nat) (radix : Int) (w : World) (R : Row .u32 B32 w ao n cap l) (h1 : -9223372036854775808 ≤ radix) (h2 : radix ≤ 9223372036854775807) :
    Calls Try.prog 5 #[.agg #[.bool neg, .slice ao n cap], .int .i64 radix] w fun e w' => e = .returned (.bool true) ∧ Below w.heap.size w w' := by
  have HR := hid R
  clear R
  go_enter Try.func5, Try.ntmps5
  go_wp2_with fail
  have b0 := Baa w (.cells #[.bool neg, .slice ao n cap] 24) (.cells #[.bool neg, .slice ao n cap] 24)
  have x0 := (Box.new 24 w neg ao n cap).alloc (.cells #[.bool neg, .slice ao n cap] 24)
  have x1 := Box.new 24 (w.alloc (.cells #[.bool neg, .slice ao n cap] 24)) neg ao n cap
  rw [size_alloc] at x1
  generalize hW : (w.alloc (.cells #[.bool neg, .slice ao n cap] 24)).alloc (.cells #[.bool neg, .slice ao n cap] 24) = W at *
  clear hW
  refine (lgood1 (w.heap.size + 1) neg ao n cap l W x1.c.1 x1.c.2 (HR.out.below b0)).mono ?_
  rintro e w1 ⟨rfl, b1⟩
  have X := hid (x0.on b1)
  have HB1 := hid (Bt b0 b1)
  have R1 := hid (HR.out.below (Bt b0 b1))
  obtain ⟨c0, c1⟩ := X.out.c
  clear x0 x1 b0 b1 HR
  cases hg : goodB neg l
  · go_wp2_with (go_at_call 9; refine (awake_any _).mono ?_; rintro e w2 ⟨rfl, b2⟩)
    go_ret
    exact ⟨rfl, Bt HB1.out b2⟩
  · have G1 := hid hg
    clear hg
    go_wp2_with fail
    refine (print_all neg ao n cap l radix w1 R1.out G1.out).mono ?_
    rintro e w2 ⟨s, en, rfl, hp, b2⟩
    have HP := hid hp
    have HB2 := hid (Bt HB1.out b2)
    have R2 := hid (R1.out.below b2)
    have X2 := hid (X.out.on b2)
    clear c0 c1 hp b2
    obtain ⟨c0, c1⟩ := X2.out.c
    go_wp2_with fail
    refine (rprint_all neg ao n cap l radix w2 R2.out (by rw [← R2.out.len]; exact goodB_len G1.out)).mono ?_
    rintro e w3 ⟨s', en', rfl, hp', b3⟩
    obtain ⟨hs, he⟩ := HP.out.one hp'
    subst hs
    subst he
    have HB3 := hid (Bt HB2.out b3)
    have ee : (en' == en') = true := by simp
    clear c0 c1 hp' b3 HP
    go_wp2_with (go_at_call 9; refine (awake_any _).mono ?_; rintro e w9 ⟨rfl, b9⟩)
    go_ret
    exact ⟨rfl, Bt HB3.out b9⟩

end Go.Proofs.Ytlgnibbeajknoab
