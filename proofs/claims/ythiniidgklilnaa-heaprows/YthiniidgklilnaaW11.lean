/-
  Walks: mulSmall of nothing, cutSign, allDigits, rowOf, Parse.
-/
import Derived.Test.YthiniidgklilnaaW10
import Derived.Lib.Strings
set_option linter.unusedVariables false
set_option linter.unusedSimpArgs false
namespace Go.Proofs.Ythiniidgklilnaa
open Go.RowKit

/-- A text's bytes as numbers. -/
def bs (s : ByteArray) : List Nat := s.data.toList.map UInt8.toNat
theorem bs_length (s : ByteArray) : (bs s).length = s.size := by unfold bs; rw [List.length_map]; rfl
theorem bs_get (s : ByteArray) (k : Nat) (h : k < s.size) : (bs s).getD k 0 = (s[k]'h).toNat := by
  unfold bs
  rw [List.getD_eq_getElem?_getD, List.getElem?_map, List.getElem?_eq_getElem (show k < s.data.toList.length from h)]
  rfl
theorem bs_lt (s : ByteArray) : Dg 256 (bs s) := by
  intro x hx
  obtain ⟨c, _, rfl⟩ := List.mem_map.1 hx
  exact c.toNat_lt
theorem bs_extract (s : ByteArray) (a : Nat) : bs (s.extract a s.size) = (bs s).drop a := by
  unfold bs
  rw [Lib.extract_data, List.take_of_length_le (by rw [List.length_drop]; exact Nat.le_refl _), List.map_drop]
theorem empty_iff (s : ByteArray) : s.toList.isEmpty = decide (s.size = 0) := by
  rw [Lib.toList_data]
  by_cases h : s.size = 0
  · have : s.data.toList = [] := List.length_eq_zero_iff.1 h
    rw [this]; simp [h]
  · have : s.data.toList ≠ [] := fun e => h (by show s.data.toList.length = 0; rw [e]; rfl)
    simp only [h, decide_false]
    cases hl : s.data.toList with
    | nil => exact absurd hl this
    | cons => rfl

/-- A sign cut off. -/
def cutS : List Nat → Bool × List Nat
  | [] => (false, [])
  | c :: r => if c = 43 ∨ c = 45 then (decide (c = 45), r) else (false, c :: r)
theorem cutS_len (l : List Nat) : (cutS l).2.length ≤ l.length := by
  cases l with
  | nil => simp [cutS]
  | cons c r => by_cases h : c = 43 ∨ c = 45 <;> simp [cutS, h]

end Go.Proofs.Ythiniidgklilnaa
