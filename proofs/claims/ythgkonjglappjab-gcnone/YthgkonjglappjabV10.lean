/-
  Walk: step.
-/
import Derived.Test.YthgkonjglappjabV9
set_option linter.unusedVariables false
set_option linter.unusedSimpArgs false
set_option maxRecDepth 100000
namespace Go.Proofs.Ythgkonjglappjab
open Go.RowKit

section
variable {B g : Nat} {v : Value} {N : Int} {osP osR os' : List Ob} {F : Nat → Prop} {vL : Value} {ls : List (Ob × Sl)} {w w' : World}
end
/-- What is of neither heap stays so, and as it is. -/
def Fr (g : Nat) (F : Nat → Prop) (vL : Value) (ls : List (Ob × Sl)) (F' : Nat → Prop) (vL' : Value) (ls' : List (Ob × Sl)) (w w' : World) : Prop := ∀ b, b < w.heap.size → ¬ F b → ¬ RF g vL ls b → ¬ F' b ∧ ¬ RF g vL' ls' b ∧ w'.heap[b]? = w.heap[b]?
section
variable {g : Nat} {F F' F2 : Nat → Prop} {vL vL' vL2 : Value} {ls ls' ls2 : List (Ob × Sl)} {w w1 w2 : World}
theorem Fr.on (h : Below w.heap.size w w1) : Fr g F vL ls F vL ls w w1 := fun b hb n1 n2 => ⟨n1, n2, h.block b hb⟩
theorem Fr.p (h : ∀ b, b < w.heap.size → ¬ F b → ¬ F' b ∧ w1.heap[b]? = w.heap[b]?) : Fr g F vL ls F' vL ls w w1 := fun b hb n1 n2 => ⟨(h b hb n1).1, n2, (h b hb n1).2⟩
theorem Fr.r (h : ∀ b, b < w.heap.size → ¬ RF g vL ls b → ¬ RF g vL' ls' b ∧ w1.heap[b]? = w.heap[b]?) : Fr g F vL ls F vL' ls' w w1 := fun b hb n1 n2 => ⟨n1, (h b hb n2).1, (h b hb n2).2⟩
theorem Fr.trans (h : Fr g F vL ls F' vL' ls' w w1) (hs : w.heap.size ≤ w1.heap.size) (k : Fr g F' vL' ls' F2 vL2 ls2 w1 w2) : Fr g F vL ls F2 vL2 ls2 w w2 := fun b hb n1 n2 => by
  obtain ⟨a1, a2, a3⟩ := h b hb n1 n2
  obtain ⟨b1, b2, b3⟩ := k b (Nat.lt_of_lt_of_le hb hs) a1 a2
  exact ⟨b1, b2, b3.trans a3⟩
end
end Go.Proofs.Ythgkonjglappjab
