/-
  The walk of GraphEqual.
-/
import Derived.Test.YtaenegcnobindacDoorH5
import Derived.Test.YtaenegcnobindacDoorG21
import Derived.Test.YtaenegcnobindacDoorG22
set_option linter.unusedVariables false
set_option linter.unusedSimpArgs false
set_option maxRecDepth 100000
namespace Go.Proofs.YtaenegcnobindacDoor
open Go.RowKit

theorem sameGB_self (ns : List Nd) (rs : List Int) : sameGB ns rs ns rs = goodG ns rs := by unfold sameGB; simp
theorem sameGB_comm (ns : List Nd) (rs : List Int) (ns' : List Nd) (rs' : List Int) : sameGB ns rs ns' rs' = sameGB ns' rs' ns rs := by
  unfold sameGB; rw [Bool.eq_iff_iff]; simp only [Bool.and_eq_true, decide_eq_true_eq]
  constructor
  · rintro ⟨⟨⟨h1, h2⟩, h3⟩, h4⟩; exact ⟨⟨⟨h2, h1⟩, h3.symm⟩, h4.symm⟩
  · rintro ⟨⟨⟨h1, h2⟩, h3⟩, h4⟩; exact ⟨⟨⟨h2, h1⟩, h3.symm⟩, h4.symm⟩
theorem sameGB_trans {ns : List Nd} {rs : List Int} {ns' : List Nd} {rs' : List Int} {ns'' : List Nd} {rs'' : List Int} (h1 : sameGB ns rs ns' rs' = true) (h2 : sameGB ns' rs' ns'' rs'' = true) : sameGB ns rs ns'' rs'' = true := by
  unfold sameGB at *; simp only [Bool.and_eq_true, decide_eq_true_eq] at *
  exact ⟨⟨⟨h1.1.1.1, h2.1.1.2⟩, h1.1.2.trans h2.1.2⟩, h1.2.trans h2.2⟩
theorem gok_of {w : World} {an ar : Option Addr} {nn cn nr cr : Nat} {ns : List Nd} {rs : List Int} (h : GIs w an nn cn ar nr cr ns rs) (hf : fewB ns rs 100 = true) : GOk w an nn cn ar nr cr ns rs := by
  obtain ⟨f1, f2, f3, f4⟩ := few_parts hf
  rw [h.nodes.len] at f1
  rw [h.roots.len] at f2
  exact ⟨h, f3, f4, by omega, by omega⟩

/-- Three boxes, in a world behind w1. -/
def H3b (w1 : World) (p q r : Nat) (a0 a1 b0 b1 c0 c1 : Value) (wx : World) : Prop := (wx.cell? ⟨p, 0, none⟩ = some a0 ∧ wx.cell? ⟨p, 1, none⟩ = some a1 ∧ wx.cell? ⟨q, 0, none⟩ = some b0 ∧ wx.cell? ⟨q, 1, none⟩ = some b1 ∧ wx.cell? ⟨r, 0, none⟩ = some c0 ∧ wx.cell? ⟨r, 1, none⟩ = some c1) ∧ Below w1.heap.size w1 wx
theorem H3b.on {w1 wx wy : World} {p q r : Nat} {a0 a1 b0 b1 c0 c1 : Value} (h : H3b w1 p q r a0 a1 b0 b1 c0 c1 wx) (hb : Below wx.heap.size wx wy) : H3b w1 p q r a0 a1 b0 b1 c0 c1 wy := by
  obtain ⟨⟨h1, h2, h3, h4, h5, h6⟩, h7⟩ := h
  exact ⟨⟨(hb.cell (p := ⟨p, 0, none⟩) (cell_lt h1)).trans h1, (hb.cell (p := ⟨p, 1, none⟩) (cell_lt h1)).trans h2, (hb.cell (p := ⟨q, 0, none⟩) (cell_lt h3)).trans h3, (hb.cell (p := ⟨q, 1, none⟩) (cell_lt h3)).trans h4, (hb.cell (p := ⟨r, 0, none⟩) (cell_lt h5)).trans h5, (hb.cell (p := ⟨r, 1, none⟩) (cell_lt h5)).trans h6⟩, Bt h7 hb⟩

theorem H3b.bel {w1 wx : World} {p q r : Nat} {a0 a1 b0 b1 c0 c1 : Value} (h : H3b w1 p q r a0 a1 b0 b1 c0 c1 wx) : Below w1.heap.size w1 wx := h.2
theorem h6_on {w1 wx wy : World} {p q r : Nat} {a0 a1 b0 b1 c0 c1 : Value} (h : wx.cell? ⟨p, 0, none⟩ = some a0 ∧ wx.cell? ⟨p, 1, none⟩ = some a1 ∧ wx.cell? ⟨q, 0, none⟩ = some b0 ∧ wx.cell? ⟨q, 1, none⟩ = some b1 ∧ wx.cell? ⟨r, 0, none⟩ = some c0 ∧ wx.cell? ⟨r, 1, none⟩ = some c1 ∧ Below w1.heap.size w1 wx) (hb : Below wx.heap.size wx wy) : wy.cell? ⟨p, 0, none⟩ = some a0 ∧ wy.cell? ⟨p, 1, none⟩ = some a1 ∧ wy.cell? ⟨q, 0, none⟩ = some b0 ∧ wy.cell? ⟨q, 1, none⟩ = some b1 ∧ wy.cell? ⟨r, 0, none⟩ = some c0 ∧ wy.cell? ⟨r, 1, none⟩ = some c1 ∧ Below w1.heap.size w1 wy := by
  obtain ⟨h1, h2, h3, h4, h5, h6, h7⟩ := h
  exact ⟨(hb.cell (p := ⟨p, 0, none⟩) (cell_lt h1)).trans h1, (hb.cell (p := ⟨p, 1, none⟩) (cell_lt h1)).trans h2, (hb.cell (p := ⟨q, 0, none⟩) (cell_lt h3)).trans h3, (hb.cell (p := ⟨q, 1, none⟩) (cell_lt h3)).trans h4, (hb.cell (p := ⟨r, 0, none⟩) (cell_lt h5)).trans h5, (hb.cell (p := ⟨r, 1, none⟩) (cell_lt h5)).trans h6, Bt h7 hb⟩
theorem h6_bel {w1 wx : World} {p q r : Nat} {a0 a1 b0 b1 c0 c1 : Value} (h : wx.cell? ⟨p, 0, none⟩ = some a0 ∧ wx.cell? ⟨p, 1, none⟩ = some a1 ∧ wx.cell? ⟨q, 0, none⟩ = some b0 ∧ wx.cell? ⟨q, 1, none⟩ = some b1 ∧ wx.cell? ⟨r, 0, none⟩ = some c0 ∧ wx.cell? ⟨r, 1, none⟩ = some c1 ∧ Below w1.heap.size w1 wx) : Below w1.heap.size w1 wx := h.2.2.2.2.2.2

end Go.Proofs.YtaenegcnobindacDoor
