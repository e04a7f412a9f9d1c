/-
  The walk of GraphGood.
-/
import Derived.Test.YtaenegcnobindacDoorG21
import Derived.Test.YtaenegcnobindacDoorG12
import Derived.Test.YtaenegcnobindacDoorG1
set_option linter.unusedVariables false
set_option linter.unusedSimpArgs false
namespace Go.Proofs.YtaenegcnobindacDoor
open Go.RowKit

theorem few_parts {ns : List Nd} {rs : List Int} {most : Nat} (h : fewB ns rs most = true) : ns.length ≤ most ∧ rs.length ≤ most ∧ smallG ns ∧ ∀ d ∈ ns, d.kids.length ≤ 100 := by
  unfold fewB fewTo at h
  rw [List.take_length] at h
  simp only [Bool.and_eq_true, decide_eq_true_eq, List.all_eq_true] at h
  exact ⟨h.1.1, h.1.2, fun d hd => (h.2 d hd).1, fun d hd => (h.2 d hd).2⟩

theorem gone_on {W wx wy : World} {p : Nat} {a0 a1 : Value} (h : wx.cell? ⟨p, 0, none⟩ = some a0 ∧ wx.cell? ⟨p, 1, none⟩ = some a1 ∧ Below W.heap.size W wx) (hb : Below wx.heap.size wx wy) :
    wy.cell? ⟨p, 0, none⟩ = some a0 ∧ wy.cell? ⟨p, 1, none⟩ = some a1 ∧ Below W.heap.size W wy :=
  ⟨(hb.cell (p := ⟨p, 0, none⟩) (cell_lt h.1)).trans h.1, (hb.cell (p := ⟨p, 1, none⟩) (cell_lt h.1)).trans h.2.1, Bt h.2.2 hb⟩
theorem gone_bel {W wx : World} {p : Nat} {a0 a1 : Value} (h : wx.cell? ⟨p, 0, none⟩ = some a0 ∧ wx.cell? ⟨p, 1, none⟩ = some a1 ∧ Below W.heap.size W wx) : Below W.heap.size W wx := h.2.2

end Go.Proofs.YtaenegcnobindacDoor
