/-
  Walk: Twin of the document's heap.
-/
import Derived.Test.YthgkonjglappjaaV6
set_option linter.unusedVariables false
set_option linter.unusedSimpArgs false
set_option maxRecDepth 100000
namespace Go.Proofs.Ythgkonjglappjaa
open Go.RowKit

theorem vl_slice {B g : Nat} {N : Int} {vL : Value} {ls : List (Ob × Sl)} {w : World} (h : RH B g N vL ls w) : ∃ gl cap, vL = .slice gl ls.length cap := by
  rcases h.own.2 with ⟨h1, h2⟩ | ⟨g, cap, cur, h1, _⟩
  · rw [h2]; exact ⟨_, _, h1⟩
  · exact ⟨_, _, h1⟩
/-- The states of 'g.L = append(g.L, x)'. -/
structure TSt (W : World) (vL : Value) (ag : Array Value) (k : Nat) (al : Bool) (t37 t38 t39 : Value) (wx : World) : Prop where
  bel : Below W.heap.size W wx
  i0 : al = true → t37 = vL
  i1 : k = 1 → t38 = .agg ag
  i2 : k = 2 → ∃ gb, t39 = .slice (some ⟨gb, 0, none⟩) 1 1 ∧ wx.heap[gb]? = some (.cells ag 52 (0, 0))
def Lt (s : Nat × Bool) : Array Bool := #[true, true, true, true, s.2, decide (1 ≤ s.1), decide (2 ≤ s.1), false, false, false, false]
def Mt (s : Nat × Bool) : Nat := (2 - s.1) + (if s.2 then 0 else 1)
section
variable {W wx : World} {vL : Value} {ag : Array Value} {k : Nat} {al : Bool} {t37 t38 t39 : Value}
theorem TSt.load (h : TSt W vL ag k false t37 t38 t39 wx) : TSt W vL ag k true vL t38 t39 wx := ⟨h.bel, fun _ => rfl, h.i1, h.i2⟩
theorem TSt.s1 (h : TSt W vL ag 0 al t37 t38 t39 wx) : TSt W vL ag 1 al t37 (.agg ag) t39 wx := ⟨h.bel, h.i0, fun _ => rfl, fun e => by omega⟩
theorem TSt.s2 (h : TSt W vL ag 1 al t37 t38 t39 wx) : TSt W vL ag 2 al t37 t38 (.slice (some ⟨wx.heap.size, 0, none⟩) 1 1) (wx.alloc (.cells ag 52)) :=
  ⟨Bt h.bel (Ba _ _), h.i0, fun e => by omega, fun _ => ⟨_, rfl, blk_new _ _ _⟩⟩
end
end Go.Proofs.Ythgkonjglappjaa
