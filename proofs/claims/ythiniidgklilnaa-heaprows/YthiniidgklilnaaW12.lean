/-
  Walks: rowOf, Parse.
-/
import Derived.Test.YthiniidgklilnaaW11
set_option linter.unusedVariables false
set_option linter.unusedSimpArgs false
namespace Go.Proofs.Ythiniidgklilnaa
open Go.RowKit

/-- The number that digits say, the highest first. -/
def hv (radix : Nat) (l : List Nat) : Nat := l.foldl (fun a c => a * radix + dgt c) 0
theorem hv_snoc (radix : Nat) (l : List Nat) (c : Nat) : hv radix (l ++ [c]) = hv radix l * radix + dgt c := by simp [hv]
theorem hv_take_succ (radix : Nat) (l : List Nat) (k : Nat) (h : k < l.length) : hv radix (l.take (k + 1)) = hv radix (l.take k) * radix + dgt (l.getD k 0) := by
  rw [take_snoc l k h, hv_snoc]
theorem hv_mono (radix : Nat) (hr : 1 ≤ radix) (l : List Nat) : ∀ k j, k + j ≤ l.length → hv radix (l.take k) ≤ hv radix (l.take (k + j))
  | k, 0, _ => Nat.le_refl _
  | k, j + 1, h => by
    have ih := hv_mono radix hr l k j (by omega)
    rw [← Nat.add_assoc, hv_take_succ radix l (k + j) (by omega)]
    have : hv radix (l.take (k + j)) * 1 ≤ hv radix (l.take (k + j)) * radix := Nat.mul_le_mul_left _ hr
    omega
/-- Behind a product without a carry there is no nought at the end. -/
theorem tr_of_ge {B : Nat} {l l' : List Nat} (hB : 1 < B) (hl : l.length = l'.length) (ht : Tr l) (hd : Dg B l') (h : val B l ≤ val B l') : Tr l' := by
  by_cases h0 : l' = []
  · exact .inl h0
  · refine .inr fun hz => ?_
    have hn : 0 < l'.length := List.length_pos_iff.2 h0
    have h1 := ht.pos (B := B) (by omega) (by intro e; rw [e] at hl; simp at hl; omega)
    have e1 : val B l' = val B (l'.take (l'.length - 1)) := by
      have h2 := val_take_zero B l' (l'.length - 1) (by omega) hz
      rw [show l'.length - 1 + 1 = l'.length by omega, List.take_of_length_le (Nat.le_refl _)] at h2
      exact h2
    have h3 := val_lt (hd.take (l'.length - 1))
    rw [List.length_take, Nat.min_eq_left (by omega), ← e1, ← hl] at h3
    omega
theorem tr_snoc {l : List Nat} {c : Nat} (h : c ≠ 0) : Tr (l ++ [c]) := .inr (by rw [getD_append_at (by simp)]; exact h)
theorem big_of {l : List Nat} {c v : Nat} (hl : l.length = 40) (hc : c ≠ 0) (h : val B32 l + B32 ^ 40 * c = v) : Big v := by
  unfold Big
  have : B32 ^ 40 * 1 ≤ B32 ^ 40 * c := Nat.mul_le_mul_left _ (by omega)
  omega

/-- What rowOf answers. -/
def RowPost (w : World) (v : Nat) (e : Ending) (w' : World) : Prop :=
  ((¬ Big v ∧ ∃ ao n cap r, e = .returned (.tuple #[.slice ao n cap, .bool true]) ∧ Row .u32 B32 w' ao n cap r ∧ Tr r ∧ val B32 r = v ∧ n ≤ 40) ∨ (Big v ∧ e = .returned (.tuple #[.slice none 0 0, .bool false]))) ∧ Below w.heap.size w w'

end Go.Proofs.Ythiniidgklilnaa
