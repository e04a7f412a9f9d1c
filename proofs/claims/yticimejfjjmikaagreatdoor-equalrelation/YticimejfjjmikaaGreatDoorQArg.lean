import Derived.Test.YticimejfjjmikaaGreatDoorSArg
import Derived.WideKeyPair
import Derived.Laws.IdiomArrays
set_option linter.unusedVariables false
set_option linter.unusedSimpArgs false
set_option maxRecDepth 100000
namespace Go.Proofs.YticimejfjjmikaaGreatDoor
open Go.ChangeShapes Go.WideShapes Go.ChangeAt Go.RowKit Go.Joins Go.Deep
section
variable {H : Type} {enc : TypeId × Value -> H} {W : World} {base : Nat} {sp : Nat -> Bool} {held : Bool}
theorem zys {r : Reach} {b0 : Nat} {v : Value} {d : DataW H} {ps : List MemPlace} (hval : Value.okWide Tryz.prog W r b0 49 v) (hd : DataW.Trod enc Tryz.prog W base sp held 49 v d ps) :
  ∃ a b c : Int, v = .agg #[.int .i64 a, .int .i64 b, .int .i64 c] /\ Z64 a /\ Z64 b /\ Z64 c := by
 have hv : ∃ c0 c1 c2, v = .agg #[c0, c1, c2] := by
  simp only [Value.okWide, Tryz.underlying49] at hval
  obtain ⟨cs, h1, h2, _⟩ := hval
  have hc : Tryz.prog.cellsOf 49 = 3 := by kernel_rfl
  rw [hc] at h2
  obtain ⟨l⟩ := cs
  match l, h2 with
  | [c0, c1, c2], _ => exact ⟨c0, c1, c2, h1⟩
 obtain ⟨c0, c1, c2, rfl⟩ := hv
 obtain ⟨fuel, hf⟩ := hd
 obtain ⟨y0, y1, y2, n, _, g0, g1, g2⟩ := trod_array3 Tryz.underlying49 (by kernel_rfl) hf
 obtain ⟨z0, q0, _, w0⟩ := DataW.trod_int Tryz.underlying3 g0
 obtain ⟨z1, q1, _, w1⟩ := DataW.trod_int Tryz.underlying3 g1
 obtain ⟨z2, q2, _, w2⟩ := DataW.trod_int Tryz.underlying3 g2
 cases q0; cases q1; cases q2
 have := bounds_i64 w0
 have := bounds_i64 w1
 have := bounds_i64 w2
 exact ⟨z0, z1, z2, rfl, by unfold Z64; omega, by unfold Z64; omega, by unfold Z64; omega⟩
end
end Go.Proofs.YticimejfjjmikaaGreatDoor
