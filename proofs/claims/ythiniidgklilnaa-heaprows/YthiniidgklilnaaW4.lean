/-
  Walks: Clone; of the document's answer: trim, size, bytes.
-/
import Derived.Test.YthiniidgklilnaaW2
import Derived.Test.YthiniidgklilnaaApp
import Derived.Lib.SliceRun
set_option linter.unusedVariables false
set_option linter.unusedSimpArgs false
namespace Go.Proofs.Ythiniidgklilnaa
open Go.RowKit

theorem info_u32 : (Try.prog.info? 87).map (fun i => (i.zero, i.size, i.bytes)) = some (some (.int .u32 0), 1, 4) := by kernel_rfl
theorem info_u8 : (Try.prog.info? 5).map (fun i => (i.zero, i.size, i.bytes)) = some (some (.int .u8 0), 1, 1) := by kernel_rfl

end Go.Proofs.Ythiniidgklilnaa
