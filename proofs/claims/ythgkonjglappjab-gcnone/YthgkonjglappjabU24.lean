/-
  Walk: GcNone.
-/
import Derived.Test.YthgkonjglappjabU10
import Derived.Test.YthgkonjglappjabU35
set_option linter.unusedVariables false
set_option linter.unusedSimpArgs false
set_option maxRecDepth 100000
namespace Go.Proofs.Ythgkonjglappjab
open Go.RowKit

set_option maxHeartbeats 4000000 in
theorem gcNone_walk (ro : Option Addr) (nr cr : Nat) (rs : List Int) (w : World) (R : URow w ro nr cr rs) :
    Calls Try.prog 3 #[.slice ro nr cr] w fun e w' => e = .returned (.bool true) ∧ Below w.heap.size w w' := by
  have CA := hid gawake_any
  have hf := R.fits
  have hm := R.most
  unfold maxLen at hm
  by_cases h1 : 100 < nr
  · clear R
    go_enter Try.func3, Try.ntmps3
    go_wp2_with fail
    go_ret
    exact ⟨rfl, Below.refl _ _⟩
  · have C1 := hid (plive_nil ro nr cr rs w R (by omega))
    have C2 : Hid (∀ wx, Below w.heap.size w wx → _) := fun wx hb => pcollect_nil ro nr cr rs wx (R.on hb) (by omega)
    have CS : Hid (∀ l a1 n1 c1 a2 n2 c2 wx, URow wx a1 n1 c1 l → URow wx a2 n2 c2 l → Calls Try.prog 5 #[.slice a1 n1 c1, .slice a2 n2 c2] wx fun e w' => e = .returned (.bool true) ∧ Below wx.heap.size wx w') := fun l a1 n1 c1 a2 n2 c2 wx h1 h2 => by
      have := samew_any a1 _ c1 _ a2 _ c2 _ wx h1 h2
      rw [decide_eq_true rfl] at this; exact this
    have HR := hid R
    clear R
    go_enter Try.func3, Try.ntmps3
    go_wp2_with (first
      | (go_at_call 4; (with_reducible refine C1.out.mono ?_); rintro e W1 ⟨rfl, b1⟩; have HB1 := hid b1; clear b1)
      | (go_at_call 6; (with_reducible refine (C2.out _ HB1.out).mono ?_); rintro e W2 ⟨ca, cc, rfl, hu2, b2⟩; have HU2 := hid hu2; have HB2 := hid (Bt HB1.out b2); clear hu2 b2)
      | (go_at_call 5; (with_reducible refine (CS.out rs _ _ _ _ _ _ _ HU2.out (HR.out.on HB2.out)).mono ?_); rintro e W3 ⟨rfl, b3⟩; have HB3 := hid (Bt HB2.out b3); clear b3)
      | (go_at_call 7; (with_reducible refine (CA.out _).mono ?_); rintro e W4 ⟨rfl, b4⟩))
    go_ret
    exact ⟨rfl, Bt HB3.out b4⟩
end Go.Proofs.Ythgkonjglappjab
