/-
  Walks: sign, Cmp, Neg, of the program and of the document's answer.
-/
import Derived.Test.YthiniidgklilnaaW16
import Derived.Deep.RegionLaw
set_option linter.unusedVariables false
set_option linter.unusedSimpArgs false
namespace Go.Proofs.Ythiniidgklilnaa
open Go.RowKit

theorem keepb {wx wy : World} {p : Nat} {u v : Value} (h : wx.cell? ⟨p, 0, none⟩ = some u ∧ wx.cell? ⟨p, 1, none⟩ = some v) (hb : Below wx.heap.size wx wy) : wy.cell? ⟨p, 0, none⟩ = some u ∧ wy.cell? ⟨p, 1, none⟩ = some v :=
  ⟨(hb.cell (p := ⟨p, 0, none⟩) (cell_lt h.1)).trans h.1, (hb.cell (p := ⟨p, 1, none⟩) (cell_lt h.1)).trans h.2⟩
theorem keepbs {wx : World} {p s : Nat} {u v u' v' : Value} (h : wx.cell? ⟨p, 0, none⟩ = some u ∧ wx.cell? ⟨p, 1, none⟩ = some v) (hp : p ≠ s) :
    ((wx.setCell ⟨s, 0, none⟩ u').setCell ⟨s, 1, none⟩ v').cell? ⟨p, 0, none⟩ = some u ∧ ((wx.setCell ⟨s, 0, none⟩ u').setCell ⟨s, 1, none⟩ v').cell? ⟨p, 1, none⟩ = some v :=
  ⟨(World.cell?_of_block (w := wx) (a := ⟨p, 0, none⟩) ((Below.heap_setCell _ _ _ _ hp).trans (Below.heap_setCell _ _ _ _ hp))).trans h.1, (World.cell?_of_block (w := wx) (a := ⟨p, 1, none⟩) ((Below.heap_setCell _ _ _ _ hp).trans (Below.heap_setCell _ _ _ _ hp))).trans h.2⟩

/-- What a turned sign is. -/
theorem sgn_neg (s : Bool) (v : Nat) : sgn (!s) v = - sgn s v := by cases s <;> simp [sgn]

end Go.Proofs.Ythiniidgklilnaa
