/-
  How what is said is opened where it is handed in, over this program.
-/
import Derived.Test.YtpibfpnhlcpgdaaRows
import Derived.Test.YtpibfpnhlcpgdaaX1
import Derived.ProofKit
import Derived.OpenShut
import Derived.ShutString
import Derived.ChangeOld
import Derived.Below
import Derived.Lib.SmallJoins
set_option linter.unusedVariables false
set_option linter.unusedSimpArgs false
namespace Go.Proofs.Ytpibfpnhlcpgdaa
open Go.ChangeShapes Go.WideShapes Go.ChangeAt Go.RowKit Go.Joins

theorem own : ownKnob Try.prog.godebug = none := by kernel_rfl
theorem laidOut : laidOutB Try.prog = true := by kernel_rfl
theorem cellsSaid : Try.prog.cellsOf 23 = 3 := by kernel_rfl

theorem said_arg {H : Type} {enc : TypeId × Value → H} {W : World} {r : Reach} {b0 : Nat} {v : Value} {d : DataW H} {p : List MemPlace} {base : Nat} {spare : TypeId → Bool} {held : Bool}
    (hv : Value.okWide Try.prog W r b0 23 v) (h : DataW.Trod enc Try.prog W base spare held 23 v d p) :
    ∃ k n t, v = SVal k n t ∧ Z64 k ∧ Z64 n ∧ Z64 t := by
  obtain ⟨c0, c1, c2, y0, y1, y2, m, rfl, rfl, rfl, hy0, hy1, hy2⟩ := open_agg3 Try.underlying23 (by kernel_rfl) cellsSaid hv h
  obtain ⟨k, e0, _, w0⟩ := DataW.trod_int Try.underlying3 hy0
  obtain ⟨n, e1, _, w1⟩ := DataW.trod_int Try.underlying2 hy1
  obtain ⟨t, e2, _, w2⟩ := DataW.trod_int Try.underlying3 hy2
  cases e0
  cases e1
  cases e2
  exact ⟨k, n, t, rfl, bounds_i64 w0, bounds_i64 w1, bounds_i64 w2⟩

end Go.Proofs.Ytpibfpnhlcpgdaa
