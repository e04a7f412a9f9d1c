/-
  Walks: few, says.
-/
import Derived.Test.YthgkonjglappjabU5
import Derived.Test.YthgkonjglappjabV10
import Derived.Deep.QuietTactic
import Derived.BigQuiet
set_option linter.unusedVariables false
set_option linter.unusedSimpArgs false
set_option maxRecDepth 100000
namespace Go.Proofs.Ythgkonjglappjab
open Go.RowKit

def fewG (xs : List Oj) (fs : List Fd) : Bool := decide (xs.length ≤ 60) && decide (fs.length ≤ 60) && xs.all (fun x => decide (x.l.length ≤ 30))
theorem few_parts_g {xs : List Oj} {fs : List Fd} (h : fewG xs fs = true) : xs.length ≤ 60 ∧ fs.length ≤ 60 ∧ ∀ x ∈ xs, x.l.length ≤ 30 := by
  unfold fewG at h
  simp only [Bool.and_eq_true, decide_eq_true_eq] at h
  exact ⟨h.1.1, h.1.2, fun x hx => of_decide_eq_true (List.all_eq_true.1 h.2 x hx)⟩
end Go.Proofs.Ythgkonjglappjab
