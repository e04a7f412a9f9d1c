/-
  Walks: Good, of the program and of the document's answer; trim.
-/
import Derived.Test.YthiniidgklilnaaProg
import Derived.Test.YthiniidgklilnaaBase
set_option linter.unusedVariables false
set_option linter.unusedSimpArgs false
namespace Go.Proofs.Ythiniidgklilnaa
open Go.RowKit

theorem ret_bool {a b : Bool} (h : a = b) : Ending.returned (.bool a) = .returned (.bool b) := by rw [h]

end Go.Proofs.Ythiniidgklilnaa
