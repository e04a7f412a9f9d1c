/-
  Walks, of the document's answer: size, bytes.
-/
import Derived.Test.YthiniidgklilnaaW4
set_option linter.unusedVariables false
set_option linter.unusedSimpArgs false
namespace Go.Proofs.Ythiniidgklilnaa
open Go.RowKit

theorem cmpN_len8 {B : Nat} (h0 : 0 < B) {a b : List Nat} (ha : Dg B a) (hb : Dg B b) (ta : Tr a) (tb : Tr b) (h : a.length ≠ b.length) : cmpN (val B a) (val B b) = if a.length < b.length then -1 else 1 := by
  rcases Nat.lt_or_ge a.length b.length with h' | h'
  · have := lt_of_length h0 ha tb h'
    simp [cmpN, h', this]
  · have := lt_of_length h0 hb ta (by omega : b.length < a.length)
    unfold cmpN
    rw [if_neg (by omega), if_neg (by omega), if_neg (by omega)]

/-- The four bytes of a limb. -/
def b4 (d : Nat) : List Nat := [d % 256, d / 256 % 256, d / 65536 % 256, d / 16777216 % 256]
def bytesOf (l : List Nat) : List Nat := l.flatMap b4
theorem b4_val (d : Nat) (h : d < B32) : val 256 (b4 d) = d := by
  unfold B32 at h
  simp only [b4, val]; omega
theorem b4_dg (d : Nat) : Dg 256 (b4 d) := by
  intro x hx
  simp only [b4, List.mem_cons, List.not_mem_nil, or_false] at hx
  omega
theorem bytesOf_dg (l : List Nat) : Dg 256 (bytesOf l) := by
  intro x hx
  obtain ⟨d, _, hd⟩ := List.mem_flatMap.1 hx
  exact b4_dg d x hd
theorem bytesOf_val (l : List Nat) (h : Dg B32 l) : val 256 (bytesOf l) = val B32 l := by
  induction l with
  | nil => rfl
  | cons d l ih =>
    have h1 := ih (fun x hx => h x (by simp [hx]))
    have h2 : d < B32 := h d (by simp)
    show val 256 (b4 d ++ bytesOf l) = _
    have e : 256 ^ (b4 d).length = B32 := by simp [b4, B32]
    rw [val_append, h1, b4_val d h2, val_cons, e]
theorem bytesOf_length (l : List Nat) : (bytesOf l).length = 4 * l.length := by
  induction l with
  | nil => rfl
  | cons d l ih => show (b4 d ++ bytesOf l).length = _; rw [List.length_append, ih]; simp [b4]; omega
theorem bytesOf_snoc (l : List Nat) (k : Nat) (h : k < l.length) : bytesOf (l.take (k + 1)) = bytesOf (l.take k) ++ b4 (l.getD k 0) := by
  rw [take_snoc l k h]; simp [bytesOf]

/-- What of a limb a byte is. -/
theorem b4_getD (d : Nat) : (b4 d).getD 0 0 = d % 256 ∧ (b4 d).getD 1 0 = d / 256 % 256 ∧ (b4 d).getD 2 0 = d / 65536 % 256 ∧ (b4 d).getD 3 0 = d / 16777216 % 256 := ⟨rfl, rfl, rfl, rfl⟩

end Go.Proofs.Ythiniidgklilnaa
