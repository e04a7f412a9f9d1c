/-
  Walks: Good, of the program and of the document's answer; trim.
-/
import Derived.Test.YtpibfpnhlcpgdaaProg
import Derived.Test.YtpibfpnhlcpgdaaBase
set_option linter.unusedVariables false
set_option linter.unusedSimpArgs false
namespace Go.Proofs.Ytpibfpnhlcpgdaa
open Go.RowKit

theorem ret_bool {a b : Bool} (h : a = b) : Ending.returned (.bool a) = .returned (.bool b) := by rw [h]

end Go.Proofs.Ytpibfpnhlcpgdaa
