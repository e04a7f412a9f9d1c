/-
  Walks, of the document's heap: Words.
-/
import Derived.Test.YthgkonjglappjabV5
set_option linter.unusedVariables false
set_option linter.unusedSimpArgs false
set_option maxRecDepth 100000
namespace Go.Proofs.Ythgkonjglappjab
open Go.RowKit

/-- All used words. -/
def wordsL : List Ob → List Int
  | [] => []
  | x :: l => wordR 8 (x.f.length : Nat) x.kind :: (x.f ++ wordsL l)
theorem wordsL_append (a b : List Ob) : wordsL (a ++ b) = wordsL a ++ wordsL b := by
  induction a with
  | nil => rfl
  | cons x l ih => simp only [List.cons_append, wordsL, ih, List.append_assoc]
theorem wordsL_length (a : List Ob) : (wordsL a).length = usedL a := by
  induction a with
  | nil => rfl
  | cons x l ih => simp only [wordsL, usedL, List.length_cons, List.length_append, ih]; omega
theorem wordsL_u64 {a : List Ob} (h : ∀ x ∈ a, ∀ z ∈ x.f, U64 z) : ∀ z ∈ wordsL a, U64 z := by
  induction a with
  | nil => intro z hz; cases hz
  | cons x l ih =>
    intro z hz
    simp only [wordsL, List.mem_cons, List.mem_append] at hz
    rcases hz with rfl | hz | hz
    · exact wordR_rng _ _ _
    · exact h x List.mem_cons_self z hz
    · exact ih (fun y hy => h y (List.mem_cons_of_mem _ hy)) z hz
theorem h3_on {w1 wx wy : World} {p q r s : Nat} {a0 a1 a2 : Value} (h : wx.cell? ⟨p, 1, none⟩ = some a0 ∧ wx.cell? ⟨q, r, none⟩ = some a1 ∧ wx.cell? ⟨q, s, none⟩ = some a2 ∧ Below w1.heap.size w1 wx) (hb : Below wx.heap.size wx wy) : wy.cell? ⟨p, 1, none⟩ = some a0 ∧ wy.cell? ⟨q, r, none⟩ = some a1 ∧ wy.cell? ⟨q, s, none⟩ = some a2 ∧ Below w1.heap.size w1 wy :=
  ⟨(hb.cell (p := ⟨p, 1, none⟩) (cell_lt h.1)).trans h.1, (hb.cell (p := ⟨q, r, none⟩) (cell_lt h.2.1)).trans h.2.1, (hb.cell (p := ⟨q, s, none⟩) (cell_lt h.2.2.1)).trans h.2.2.1, Bt h.2.2.2 hb⟩
theorem h3_bel {w1 wx : World} {p q r s : Nat} {a0 a1 a2 : Value} (h : wx.cell? ⟨p, 1, none⟩ = some a0 ∧ wx.cell? ⟨q, r, none⟩ = some a1 ∧ wx.cell? ⟨q, s, none⟩ = some a2 ∧ Below w1.heap.size w1 wx) : Below w1.heap.size w1 wx := h.2.2.2
end Go.Proofs.Ythgkonjglappjab
