/-
  Integers as integers: the contracts said of numbers.
-/
import Derived.Test.YtaenegcnobindabW14
set_option linter.unusedVariables false
set_option linter.unusedSimpArgs false
namespace Go.Proofs.Ytaenegcnobindab
open Go.RowKit

/-- A sign and a size as a number. -/
def sgn (neg : Bool) (v : Nat) : Int := if neg then - (v : Int) else v
/-- The value x is the good integer z. -/
def IsInt (w : World) (x : Value) (z : Int) : Prop := ∃ s l, IntIs w x s l ∧ goodB s l = true ∧ z = sgn s (val B32 l)
theorem IsInt.below {w w' : World} {x : Value} {z : Int} (h : IsInt w x z) (hb : Below w.heap.size w w') : IsInt w' x z := by
  obtain ⟨s, l, h1, h2, h3⟩ := h
  exact ⟨s, l, h1.below hb, h2, h3⟩
theorem good_of {neg : Bool} {l : List Nat} (ht : Tr l) (hl : l.length ≤ 40) : goodB (neg && decide (l ≠ [])) l = true := by
  refine goodB_mk ht hl fun h => ?_
  rw [List.length_eq_zero_iff.1 h]; simp
theorem sgn_of {neg : Bool} {l : List Nat} (ht : Tr l) : sgn (neg && decide (l ≠ [])) (val B32 l) = sgn neg (val B32 l) := by
  by_cases h : l = []
  · subst h; cases neg <;> simp [sgn, val]
  · simp [h]
theorem is_mk {w : World} {x : Value} {neg : Bool} {l : List Nat} (hI : IntIs w x (neg && decide (l ≠ [])) l) (ht : Tr l) (hb : ¬ Big (val B32 l)) : IsInt w x (sgn neg (val B32 l)) := by
  obtain ⟨ao, n, cap, rfl, R⟩ := hI
  exact ⟨_, l, ⟨ao, n, cap, rfl, R⟩, good_of ht ((small_len R.dg ht).2 hb), (sgn_of ht).symm⟩
theorem IsInt.open_ {w : World} {x : Value} {z : Int} (h : IsInt w x z) : ∃ s ao n cap l, x = .agg #[.bool s, .slice ao n cap] ∧ Row .u32 B32 w ao n cap l ∧ goodB s l = true ∧ z = sgn s (val B32 l) := by
  obtain ⟨s, l, ⟨ao, n, cap, h1, h2⟩, h3, h4⟩ := h
  exact ⟨s, ao, n, cap, l, h1, h2, h3, h4⟩
theorem good_small {s : Bool} {w : World} {ao : Option Addr} {n cap : Nat} {l : List Nat} (R : Row .u32 B32 w ao n cap l) (g : goodB s l = true) : ¬ Big (val B32 l) := (small_len R.dg (goodB_tr g)).1 (goodB_len g)

theorem sgn_inj {s s' : Bool} {l l' : List Nat} (hg : goodB s l = true) (hg' : goodB s' l' = true) : (sgn s (val B32 l) = sgn s' (val B32 l')) ↔ (s = s' ∧ val B32 l = val B32 l') := by
  have h1 : s = true → val B32 l ≠ 0 := fun hs => (goodB_tr hg).ne_zero (by decide) (fun e => by have := goodB_neg hg (by simp [e]); rw [hs] at this; cases this)
  have h2 : s' = true → val B32 l' ≠ 0 := fun hs => (goodB_tr hg').ne_zero (by decide) (fun e => by have := goodB_neg hg' (by simp [e]); rw [hs] at this; cases this)
  constructor
  · intro h
    cases s <;> cases s' <;> simp [sgn] at * <;> omega
  · rintro ⟨rfl, h⟩
    rw [h]
theorem sameB_of {s s' : Bool} {l l' : List Nat} (hg : goodB s l = true) (hg' : goodB s' l' = true) : sameB s s' l l' = decide (sgn s (val B32 l) = sgn s' (val B32 l')) := by
  unfold sameB
  rw [hg, hg']
  rw [Bool.eq_iff_iff]
  simp only [Bool.and_eq_true, Bool.true_and, beq_iff_eq, decide_eq_true_eq]
  rw [sgn_inj hg hg']

theorem same_is (x y : Value) (a b : Int) (w : World) (hx : IsInt w x a) (hy : IsInt w y b) :
    Calls Try.prog 13 #[x, y] w fun e w' => e = .returned (.bool (decide (a = b))) ∧ Below w.heap.size w w' := by
  obtain ⟨s, ao, n, cap, l, rfl, R, g, rfl⟩ := hx.open_
  obtain ⟨s', ao', n', cap', l', rfl, R', g', rfl⟩ := hy.open_
  rw [← sameB_of g g']
  exact same_any s s' ao ao' n cap n' cap' l l' w R R'

theorem rfrom_is (n : Int) (w : World) (h1 : -9223372036854775808 ≤ n) (h2 : n ≤ 9223372036854775807) :
    Calls Try.prog 22 #[.int .i64 n] w fun e w' => ∃ x, e = .returned x ∧ IsInt w' x n ∧ Below w.heap.size w w' := by
  refine (rfrom_any n w h1 h2).mono ?_
  rintro e w' ⟨x, l, rfl, hI, ht, hv, hb⟩
  have h3 := is_mk hI ht (by rw [hv]; exact not_big_64 _ (by omega))
  refine ⟨x, rfl, ?_, hb⟩
  have : sgn (decide (n < 0)) (val B32 l) = n := by
    rw [hv]; unfold sgn
    by_cases h : n < 0 <;> simp [h] <;> omega
  rw [this] at h3
  exact h3

theorem sgn_div (s s' : Bool) (v u : Nat) : sgn (s != s') (v / u) = (sgn s v).tdiv (sgn s' u) := by
  unfold sgn
  cases s <;> cases s' <;> simp [Int.neg_tdiv, Int.tdiv_neg, ← Int.ofNat_tdiv]
theorem sgn_mod (s s' : Bool) (v u : Nat) : sgn s (v % u) = (sgn s v).tmod (sgn s' u) := by
  unfold sgn
  cases s <;> cases s' <;> simp [Int.neg_tmod, Int.tmod_neg, ← Int.ofNat_tmod]

theorem not_big_le {u v : Nat} (h : u ≤ v) (hv : ¬ Big v) : ¬ Big u := by unfold Big at *; omega

/-- Of long division: the divisor has two limbs or more, and is not greater. -/
def LongOk (x y : Value) (w : World) : Prop :=
  ∀ s ao n cap l s' ao' n' cap' l', x = .agg #[.bool s, .slice ao n cap] → y = .agg #[.bool s', .slice ao' n' cap'] → Row .u32 B32 w ao n cap l → Row .u32 B32 w ao' n' cap' l' → goodB s l = true → goodB s' l' = true → 2 ≤ n' → val B32 l' ≤ val B32 l →
    ∀ wx, Row .u32 B32 wx ao n cap l → Row .u32 B32 wx ao' n' cap' l' → Calls Try.prog 46 #[.slice ao n cap, .slice ao' n' cap'] wx (DivPost wx l l')

theorem div_is (x y : Value) (a b : Int) (w : World) (hx : IsInt w x a) (hy : IsInt w y b) (hb : b ≠ 0) (HL : LongOk x y w) :
    Calls Try.prog 10 #[x, y] w fun e w' => ∃ xq xr, e = .returned (.tuple #[xq, xr, .int .i64 0]) ∧ IsInt w' xq (a.tdiv b) ∧ IsInt w' xr (a.tmod b) ∧ Below w.heap.size w w' := by
  obtain ⟨s, ao, n, cap, l, rfl, R, g, rfl⟩ := hx.open_
  obtain ⟨s', ao', n', cap', l', rfl, R', g', rfl⟩ := hy.open_
  have hn : n' ≠ 0 := by
    intro e
    have : l' = [] := List.length_eq_zero_iff.1 (by rw [R'.len, e])
    subst this
    exact hb (by unfold sgn; simp [val])
  refine (div_any s s' ao ao' n cap n' cap' l l' w R R' g g' hn (fun h2 hle wx r1 r2 => HL s ao n cap l s' ao' n' cap' l' rfl rfl R R' g g' h2 hle wx r1 r2)).mono ?_
  rintro e w' ⟨xq, xr, lq, lr, rfl, hIq, htq, hvq, hIr, htr, hvr, hbl⟩
  have hnb := good_small R g
  refine ⟨xq, xr, rfl, ?_, ?_, hbl⟩
  · have := is_mk hIq htq (by rw [hvq]; exact not_big_le (Nat.div_le_self _ _) hnb)
    rw [hvq, sgn_div] at this
    exact this
  · have := is_mk hIr htr (by rw [hvr]; exact not_big_le (Nat.mod_le _ _) hnb)
    rw [hvr, sgn_mod s s'] at this
    exact this

/-- Long division is not met where the divisor is below B32. -/
theorem long_small {x y : Value} {w : World} {b : Int} (hy : IsInt w y b) (hb : b.natAbs < B32) : LongOk x y w := by
  intro s ao n cap l s' ao' n' cap' l' hx' hy' R R' g g' h2
  obtain ⟨s2, ao2, n2, cap2, l2, e, R2, g2, rfl⟩ := hy.open_
  rw [hy'] at e
  cases e
  exfalso
  have hv : val B32 l2 < B32 := by
    have : (sgn s' (val B32 l2)).natAbs = val B32 l2 := by unfold sgn; cases s' <;> simp
    omega
  have := length_le_of_val (B := B32) (n := 1) (by decide) (goodB_tr g2) (by simpa using hv)
  have := R2.len
  omega

end Go.Proofs.Ytaenegcnobindab
