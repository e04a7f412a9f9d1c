/-
  Integers as integers: the contracts said of numbers.
-/
import Derived.Test.YthiniidgklilnaaW14
set_option linter.unusedVariables false
set_option linter.unusedSimpArgs false
namespace Go.Proofs.Ythiniidgklilnaa
open Go.RowKit

/-- A sign and a size as a number. -/
def sgn (neg : Bool) (v : Nat) : Int := if neg then - (v : Int) else v
/-- The value x is the good integer z. -/
def IsInt (w : World) (x : Value) (z : Int) : Prop := ∃ s l, IntIs w x s l ∧ goodB s l = true ∧ z = sgn s (val B32 l)
theorem IsInt.below {w w' : World} {x : Value} {z : Int} (h : IsInt w x z) (hb : Below w.heap.size w w') : IsInt w' x z := by
  obtain ⟨s, l, h1, h2, h3⟩ := h
  exact ⟨s, l, h1.below hb, h2, h3⟩
theorem good_of {neg : Bool} {l : List Nat} (ht : Tr l) (hl : l.length ≤ 40) : goodB (neg && decide (l ≠ [])) l = true := by
  refine goodB_mk ht hl fun h => ?_
  rw [List.length_eq_zero_iff.1 h]; simp
theorem sgn_of {neg : Bool} {l : List Nat} (ht : Tr l) : sgn (neg && decide (l ≠ [])) (val B32 l) = sgn neg (val B32 l) := by
  by_cases h : l = []
  · subst h; cases neg <;> simp [sgn, val]
  · simp [h]
theorem is_mk {w : World} {x : Value} {neg : Bool} {l : List Nat} (hI : IntIs w x (neg && decide (l ≠ [])) l) (ht : Tr l) (hb : ¬ Big (val B32 l)) : IsInt w x (sgn neg (val B32 l)) := by
  obtain ⟨ao, n, cap, rfl, R⟩ := hI
  exact ⟨_, l, ⟨ao, n, cap, rfl, R⟩, good_of ht ((small_len R.dg ht).2 hb), (sgn_of ht).symm⟩
theorem IsInt.open_ {w : World} {x : Value} {z : Int} (h : IsInt w x z) : ∃ s ao n cap l, x = .agg #[.bool s, .slice ao n cap] ∧ Row .u32 B32 w ao n cap l ∧ goodB s l = true ∧ z = sgn s (val B32 l) := by
  obtain ⟨s, l, ⟨ao, n, cap, h1, h2⟩, h3, h4⟩ := h
  exact ⟨s, ao, n, cap, l, h1, h2, h3, h4⟩
theorem good_small {s : Bool} {w : World} {ao : Option Addr} {n cap : Nat} {l : List Nat} (R : Row .u32 B32 w ao n cap l) (g : goodB s l = true) : ¬ Big (val B32 l) := (small_len R.dg (goodB_tr g)).1 (goodB_len g)

theorem sgn_inj {s s' : Bool} {l l' : List Nat} (hg : goodB s l = true) (hg' : goodB s' l' = true) : (sgn s (val B32 l) = sgn s' (val B32 l')) ↔ (s = s' ∧ val B32 l = val B32 l') := by
  have h1 : s = true → val B32 l ≠ 0 := fun hs => (goodB_tr hg).ne_zero (by decide) (fun e => by have := goodB_neg hg (by simp [e]); rw [hs] at this; cases this)
  have h2 : s' = true → val B32 l' ≠ 0 := fun hs => (goodB_tr hg').ne_zero (by decide) (fun e => by have := goodB_neg hg' (by simp [e]); rw [hs] at this; cases this)
  constructor
  · intro h
    cases s <;> cases s' <;> simp [sgn] at * <;> omega
  · rintro ⟨rfl, h⟩
    rw [h]
theorem sameB_of {s s' : Bool} {l l' : List Nat} (hg : goodB s l = true) (hg' : goodB s' l' = true) : sameB s s' l l' = decide (sgn s (val B32 l) = sgn s' (val B32 l')) := by
  unfold sameB
  rw [hg, hg']
  rw [Bool.eq_iff_iff]
  simp only [Bool.and_eq_true, Bool.true_and, beq_iff_eq, decide_eq_true_eq]
  rw [sgn_inj hg hg']

theorem sgn_div (s s' : Bool) (v u : Nat) : sgn (s != s') (v / u) = (sgn s v).tdiv (sgn s' u) := by
  unfold sgn
  cases s <;> cases s' <;> simp [Int.neg_tdiv, Int.tdiv_neg, ← Int.ofNat_tdiv]
theorem sgn_mod (s s' : Bool) (v u : Nat) : sgn s (v % u) = (sgn s v).tmod (sgn s' u) := by
  unfold sgn
  cases s <;> cases s' <;> simp [Int.neg_tmod, Int.tmod_neg, ← Int.ofNat_tmod]

theorem not_big_le {u v : Nat} (h : u ≤ v) (hv : ¬ Big v) : ¬ Big u := by unfold Big at *; omega

end Go.Proofs.Ythiniidgklilnaa
