import Derived.Test.YticimejfjjmikaaGreatDoorRows
import Derived.Test.YticimejfjjmikaaGreatDoorQ1
import Derived.ProofKit
import Derived.OpenShut
import Derived.ShutString
import Derived.ChangeOld
import Derived.Below
import Derived.Lib.SmallJoins
import Derived.Deep.Slices
set_option linter.unusedVariables false
set_option linter.unusedSimpArgs false
set_option maxRecDepth 100000
namespace Go.Proofs.YticimejfjjmikaaGreatDoor
open Go.ChangeShapes Go.WideShapes Go.ChangeAt Go.RowKit Go.Joins Go.Deep
theorem own : ownKnob Tryz.prog.godebug = none:=by kernel_rfl
theorem laidOut : laidOutB Tryz.prog = true:=by kernel_rfl
theorem addp (b o k : Nat) : Addr.add ⟨b,o,none⟩ k = ⟨b,o + k,none⟩:=by
 unfold Addr.add
 by_cases h : k = 0
 ·subst h;simp
 ·rw [if_neg h]
theorem plain_of {W : World} {a : Addr} {v : Value} (h : W.cell? a = some v) : ∃ b o,a = ⟨b,o,none⟩ /\ b < W.heap.size:=by
 obtain ⟨bb,o,sp⟩:=a
 have hsp : sp = none:=by
  cases sp with
  | none=>rfl
  | some k =>
   exfalso
   simp [World.cell?] at h
   split at h <;> simp_all
 subst hsp
 exact ⟨bb,o,rfl,World.block_lt_of_cell? W ⟨bb,o,none⟩ h⟩
theorem add0 (a : Addr) : a.add 0 = a:=by simp [Addr.add]
end Go.Proofs.YticimejfjjmikaaGreatDoor
