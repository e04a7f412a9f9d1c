/-
  Walks: Reverse, Print.
-/
import Derived.Test.YthiniidgklilnaaW13
import Derived.Deep.LoopGhost
set_option linter.unusedVariables false
set_option linter.unusedSimpArgs false
namespace Go.Proofs.Ythiniidgklilnaa
open Go.RowKit

/-- A row whose outer k places on each side are turned round. -/
def Turned (n k : Nat) (l L : List Nat) : Prop := ∀ x, x < n → L.getD x 0 = if x < k ∨ n ≤ x + k then l.getD (n - 1 - x) 0 else l.getD x 0
theorem turned_start (n : Nat) (l : List Nat) : Turned n 0 l l := by
  intro x hx
  rw [if_neg (by omega)]
theorem turned_step {n k j : Nat} {l L : List Nat} (hn : k + j + 1 = n) (hkj : k < j) (hL : L.length = n) (h : Turned n k l L) : Turned n (k + 1) l ((L.set k (l.getD j 0)).set j (l.getD k 0)) := by
  intro x hx
  rw [getD_set (by simp; omega), getD_set (by omega)]
  by_cases h1 : x = j
  · subst h1
    rw [if_pos rfl, if_pos (by omega), show n - 1 - x = k by omega]
  · rw [if_neg h1]
    by_cases h2 : x = k
    · subst h2
      rw [if_pos rfl, if_pos (by omega), show n - 1 - x = j by omega]
    · rw [if_neg h2, h x hx]
      by_cases h3 : x < k ∨ n ≤ x + k
      · rw [if_pos h3, if_pos (by omega)]
      · rw [if_neg h3, if_neg (by omega)]
theorem turned_end {n k j : Nat} {l L : List Nat} (hn : k + j + 1 = n) (hkj : j ≤ k) (hl : l.length = n) (hL : L.length = n) (h : Turned n k l L) : L = l.reverse := by
  apply List.ext_getElem (by simp [hl, hL])
  intro i h1 h2
  have hi : i < n := by omega
  have := h i hi
  rw [List.getD_eq_getElem?_getD, List.getElem?_eq_getElem h1] at this
  rw [List.getElem_reverse]
  simp only [Option.getD_some] at this
  rw [this]
  by_cases h3 : i < k ∨ n ≤ i + k
  · rw [if_pos h3, List.getD_eq_getElem?_getD, List.getElem?_eq_getElem (by omega)]
    simp only [Option.getD_some, hl]
  · rw [if_neg h3, List.getD_eq_getElem?_getD, List.getElem?_eq_getElem (by omega)]
    simp only [Option.getD_some, hl]
    congr 1
    omega

/-- A digit's letter. -/
def chr (d : Nat) : Nat := if d < 10 then 48 + d else 87 + d
theorem chr_lt {d : Nat} (h : d < 36) : chr d < 256 := by unfold chr; split <;> omega
def digitText : ByteArray := ⟨#[48, 49, 50, 51, 52, 53, 54, 55, 56, 57, 97, 98, 99, 100, 101, 102, 103, 104, 105, 106, 107, 108, 109, 110, 111, 112, 113, 114, 115, 116, 117, 118, 119, 120, 121, 122]⟩

theorem dt_get (d : Nat) (h : d < 36) : (digitText[d]'h).toNat = chr d := by
  have : ∀ d : Fin 36, (digitText[d.1]'d.2).toNat = chr d.1 := by decide
  exact this ⟨d, h⟩
theorem pow_bound {l : List Nat} (h : Dg B32 l) (hl : l.length ≤ 40) : ∃ N, N ≤ 1280 ∧ val B32 l < 2 ^ N := by
  refine ⟨32 * l.length, by omega, ?_⟩
  have := val_lt h
  rw [show B32 = 2 ^ 32 from rfl, ← Nat.pow_mul] at this
  exact this

theorem half_lt {v radix gk : Nat} (hr : 2 ≤ radix) (hv : v ≠ 0) (h : v < 2 ^ gk) : 1 ≤ gk ∧ v / radix < 2 ^ (gk - 1) := by
  cases gk with
  | zero => simp at h; omega
  | succ k =>
    refine ⟨by omega, ?_⟩
    rw [Nat.add_sub_cancel, Nat.div_lt_iff_lt_mul (by omega)]
    rw [Nat.pow_succ] at h
    have : 2 ^ k * 2 ≤ 2 ^ k * radix := Nat.mul_le_mul_left _ hr
    omega
theorem print_val {radix vD P v V : Nat} (h : vD + P * v = V) : vD + P * (v % radix) + P * radix * (v / radix) = V := by
  rw [Nat.add_assoc, Nat.mul_assoc, ← Nat.mul_add, Nat.add_comm (v % radix), Nat.div_add_mod]; exact h

/-- What Print answers of a good one that is not nought. -/
def PrintPost (w : World) (neg : Bool) (v : Nat) (radix : Nat) (e : Ending) (w' : World) : Prop :=
  ∃ s D, e = .returned (.tuple #[.string s, .int .i64 0]) ∧ Dg radix D ∧ Tr D ∧ val radix D = v ∧ bs s = (if neg then [45] else []) ++ (D.map chr).reverse ∧ Below w.heap.size w w'

end Go.Proofs.Ythiniidgklilnaa
