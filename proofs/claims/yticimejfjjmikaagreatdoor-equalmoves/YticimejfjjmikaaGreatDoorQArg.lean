import Derived.Test.YticimejfjjmikaaGreatDoorSArg
import Derived.WideKeyPair
import Derived.Laws.IdiomArrays
set_option linter.unusedVariables false
set_option linter.unusedSimpArgs false
set_option maxRecDepth 100000
namespace Go.Proofs.YticimejfjjmikaaGreatDoor
open Go.ChangeShapes Go.WideShapes Go.ChangeAt Go.RowKit Go.Joins Go.Deep
section
variable {H : Type} {enc : TypeId × Value -> H} {W : World} {base : Nat} {sp : Nat -> Bool} {held : Bool}
theorem zhr1 {r : Reach} {b0 : Nat} {v : Value} {d : DataW H} {ps : List MemPlace} (hval : Value.okWide Tryz.prog W r b0 55 v) (hd : DataW.Trod enc Tryz.prog W base sp held 55 v d ps) :
  ∃ a b : Int,v = .agg #[.int .i64 a,.int .i64 b] /\ Z64 a /\ Z64 b:=by
 obtain ⟨a,b,rfl,_,_,wa,wb⟩:=WideMaps.open_pair (e:=3) ⟨Tryz.underlying55,by kernel_rfl,by kernel_rfl,by kernel_rfl⟩ Tryz.underlying3 hval hd
 have:=bounds_i64 wa
 have:=bounds_i64 wb
 exact ⟨a,b,rfl,by unfold Z64;omega,by unfold Z64;omega⟩
end
end Go.Proofs.YticimejfjjmikaaGreatDoor
