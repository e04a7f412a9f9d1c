/-
  Walk of LimbsParses: whatever text and radix are handed in, the statement answers true.
-/
import Derived.Test.YtlgnibbeajknoabW41
import Derived.Test.YtlgnibbeajknoabW24
import Derived.Test.YtlgnibbeajknoabW16
set_option linter.unusedVariables false
set_option linter.unusedSimpArgs false
namespace Go.Proofs.Ytlgnibbeajknoab
open Go.RowKit

/-- What Parse answers, behind the call. -/
def Parsed (w' : World) (s : List Nat) (radix : Int) (x : Value) (en : Int) : Prop :=
  (¬ (2 ≤ radix ∧ radix ≤ 36) ∧ x = .agg #[.bool false, .slice none 0 0] ∧ en = 1) ∨
  ((2 ≤ radix ∧ radix ≤ 36) ∧ digitsB radix (cutS s).2 = false ∧ x = .agg #[.bool false, .slice none 0 0] ∧ en = 12) ∨
  ((2 ≤ radix ∧ radix ≤ 36) ∧ digitsB radix (cutS s).2 = true ∧ Ans w' x en (cutS s).1 (hv radix.toNat (cutS s).2))
theorem Ans.intP {w : World} {x : Value} {en : Int} {neg : Bool} {v : Nat} (h : Ans w x en neg v) : (¬ Big v ∧ en = 0 ∧ IsInt w x (sgn neg v)) ∨ (Big v ∧ en = 10 ∧ IsInt w x 0) := by
  rcases h with ⟨h1, h2, l, h3, h4, h5⟩ | ⟨h1, h2, rfl⟩
  · refine .inl ⟨h1, h2, ?_⟩
    rw [← h5] at h1 ⊢
    exact is_mk h3 h4 h1
  · exact .inr ⟨h1, h2, zero_is w⟩
theorem Parsed.form {w : World} {s : List Nat} {radix : Int} {x : Value} {en : Int} (h : Parsed w s radix x en) : ∃ sx ao n cap l, x = .agg #[.bool sx, .slice ao n cap] ∧ Row .u32 B32 w ao n cap l ∧ (∀ w', Row .u32 B32 w' ao n cap l → Parsed w' s radix x en) := by
  rcases h with ⟨h1, rfl, h3⟩ | ⟨h1, h2, rfl, h3⟩ | ⟨h1, h2, h3⟩
  · exact ⟨false, none, 0, 0, [], rfl, Row.nil _ _ _ _, fun w' _ => .inl ⟨h1, rfl, h3⟩⟩
  · exact ⟨false, none, 0, 0, [], rfl, Row.nil _ _ _ _, fun w' _ => .inr (.inl ⟨h1, h2, rfl, h3⟩)⟩
  · obtain ⟨sx, ao, n, cap, l, h4, h5, h6⟩ := h3.form0
    exact ⟨sx, ao, n, cap, l, h4, h5, fun w' R => .inr (.inr ⟨h1, h2, h6 w' R⟩)⟩
theorem Parsed.below {w w' : World} {s : List Nat} {radix : Int} {x : Value} {en : Int} (h : Parsed w s radix x en) (hb : Below w.heap.size w w') : Parsed w' s radix x en := by
  obtain ⟨sx, ao, n, cap, l, h4, h5, h6⟩ := h.form
  exact h6 _ (h5.below hb)
theorem same_parsed {x y : Value} {en en' : Int} {s : List Nat} {radix : Int} (w : World) (hx : Parsed w s radix x en) (hy : Parsed w s radix y en') :
    en = en' ∧ Calls Try.prog 13 #[x, y] w fun e w' => e = .returned (.bool true) ∧ Below w.heap.size w w' := by
  rcases hx with ⟨h1, rfl, h3⟩ | ⟨h1, h2, rfl, h3⟩ | ⟨h1, h2, h3⟩ <;> rcases hy with ⟨k1, rfl, k3⟩ | ⟨k1, k2, rfl, k3⟩ | ⟨k1, k2, k3⟩
  · exact ⟨h3.trans k3.symm, same_true _ _ _ w (zero_is w) (zero_is w)⟩
  · exact absurd k1 h1
  · exact absurd k1 h1
  · exact absurd h1 k1
  · exact ⟨h3.trans k3.symm, same_true _ _ _ w (zero_is w) (zero_is w)⟩
  · rw [h2] at k2; cases k2
  · exact absurd h1 k1
  · rw [h2] at k2; cases k2
  · rcases h3.intP with ⟨a1, a2, a3⟩ | ⟨a1, a2, a3⟩ <;> rcases k3.intP with ⟨b1, b2, b3⟩ | ⟨b1, b2, b3⟩
    · exact ⟨a2.trans b2.symm, same_true _ _ _ w a3 b3⟩
    · exact absurd b1 a1
    · exact absurd a1 b1
    · exact ⟨a2.trans b2.symm, same_true _ _ _ w a3 b3⟩

set_option maxHeartbeats 4000000 in
theorem limbsParses_walk (s : ByteArray) (radix : Int) (w : World) (hs0 : s.size ≤ maxLen) (h1 : -9223372036854775808 ≤ radix) (h2 : radix ≤ 9223372036854775807) :
    Calls Try.prog 6 #[.string s, .int .i64 radix] w fun e w' => e = .returned (.bool true) ∧ Below w.heap.size w w' := by
  unfold maxLen at hs0
  by_cases hb : 5000 < s.size
  · have e1 : decide ((5000 : Int) < s.size) = true := by simp; omega
    go_enter Try.func6, Try.ntmps6
    go_wp2
    go_ret
    exact ⟨rfl, Below.refl _ _⟩
  · have e1 : decide ((5000 : Int) < s.size) = false := by simp; omega
    have hs : s.size ≤ 5000 := by omega
    go_enter Try.func6, Try.ntmps6
    go_wp2_with fail
    refine (parse_any s radix w (by unfold maxLen; omega)).mono ?_
    rintro e w2 ⟨x, en, rfl, b2, hA⟩
    replace hA : Parsed w2 (bs s) radix x en := hA
    obtain ⟨sx, ax, nx, cx, lx, rfl, Rx, hAx⟩ := hA.form
    have HB2 := hid b2
    have HA := hid hA
    clear b2 hA Rx hAx
    go_wp2_with fail
    have b3 := Ba w2 (.cells #[.bool sx, .slice ax nx cx] 24)
    have z3 := Box.new 24 w2 sx ax nx cx
    obtain ⟨g, hg⟩ : ∃ g, g = w2.heap.size := ⟨_, rfl⟩
    rw [← hg] at z3
    rw [← hg]
    generalize w2.alloc (.cells #[.bool sx, .slice ax nx cx] 24) = w3 at *
    refine (rparse_any s radix w3 hs).mono ?_
    rintro e w4 ⟨y, en', rfl, b4, hA'⟩
    replace hA' : Parsed w4 (bs s) radix y en' := hA'
    obtain ⟨sy, ay, ny, cy, ly, rfl, Ry, hAy⟩ := hA'.form
    have HB4 := hid (Bt (Bt HB2.out b3) b4)
    have HAx := hid ((HA.out.below b3).below b4)
    have Z4 := hid (z3.on b4)
    have b5 := Ba w4 (.cells #[.bool sy, .slice ay ny cy] 24)
    obtain ⟨e0, e1⟩ := (Z4.out.on b5).c
    obtain ⟨f0, f1⟩ := (Box.new 24 w4 sy ay ny cy).c
    have HA2 := hid (HAx.out.below b5)
    have HA3 := hid (hA'.below b5)
    have HB5 := hid (Bt HB4.out b5)
    clear b3 z3 hg HB2 HA Ry hAy b4 b5 hA' HB4 HAx Z4
    go_wp2_with fail
    generalize w4.alloc (.cells #[.bool sy, .slice ay ny cy] 24) = w5 at *
    obtain ⟨hen, hsame⟩ := same_parsed w5 HA2.out HA3.out
    subst hen
    refine hsame.mono ?_
    rintro e w6 ⟨rfl, b6⟩
    have HB6 := hid (Bt HB5.out b6)
    have ee : (en == en) = true := by simp
    clear b6 hsame HA2 HA3 HB5 e0 e1 f0 f1
    go_wp2_with (go_at_call 9; refine (awake_any _).mono ?_; rintro e w9 ⟨rfl, b9⟩)
    go_ret
    exact ⟨rfl, Bt HB6.out b9⟩

end Go.Proofs.Ytlgnibbeajknoab
