/-
  Walks: divRows, Div.
-/
import Derived.Test.YthiniidgklilnaaW8
import Derived.Test.YthiniidgklilnaaW3
set_option linter.unusedVariables false
set_option linter.unusedSimpArgs false
namespace Go.Proofs.Ythiniidgklilnaa
open Go.RowKit

/-- What a division of rows answers. -/
def DivPost (w : World) (l l' : List Nat) (e : Ending) (w' : World) : Prop :=
  ∃ aq nq cq ar nr cr q r, e = .returned (.tuple #[.slice aq nq cq, .slice ar nr cr]) ∧ Row .u32 B32 w' aq nq cq q ∧ Row .u32 B32 w' ar nr cr r ∧ val B32 q = val B32 l / val B32 l' ∧ val B32 r = val B32 l % val B32 l' ∧ nq ≤ 100 ∧ nr ≤ 100 ∧ Below w.heap.size w w'

theorem Onto.row_ {k : IntKind} {e : TypeId} {g n : Nat} {w w' : World} {cur : Array Value} {l : List Nat} {B cap : Nat} (h : Onto k e g 0 n w w' cur l) (hd : Dg B l) (h1 : n ≤ cap) (h2 : cap ≤ maxLen) : Row k B w' (some ⟨g, 0, none⟩) n cap l := by
  obtain ⟨c, hw⟩ := h.win
  exact ⟨hw.len, h1, h2, fun h => (by cases h), hd, hw.rd⟩

theorem keep2 {wx wy : World} {p q : Nat} {u v : Value} (h : wx.cell? ⟨p, 0, none⟩ = some u ∧ wx.cell? ⟨q, 0, none⟩ = some v) (hb : Below wx.heap.size wx wy) : wy.cell? ⟨p, 0, none⟩ = some u ∧ wy.cell? ⟨q, 0, none⟩ = some v :=
  ⟨(hb.cell (p := ⟨p, 0, none⟩) (cell_lt h.1)).trans h.1, (hb.cell (p := ⟨q, 0, none⟩) (cell_lt h.2)).trans h.2⟩

theorem keep2s {wx : World} {p q s : Nat} {u v u' v' : Value} (h : wx.cell? ⟨p, 0, none⟩ = some u ∧ wx.cell? ⟨q, 0, none⟩ = some v) (hp : p ≠ s) (hq : q ≠ s) :
    ((wx.setCell ⟨s, 0, none⟩ u').setCell ⟨s, 1, none⟩ v').cell? ⟨p, 0, none⟩ = some u ∧ ((wx.setCell ⟨s, 0, none⟩ u').setCell ⟨s, 1, none⟩ v').cell? ⟨q, 0, none⟩ = some v :=
  ⟨(World.cell?_of_block (w := wx) (a := ⟨p, 0, none⟩) ((Below.heap_setCell _ _ _ _ hp).trans (Below.heap_setCell _ _ _ _ hp))).trans h.1, (World.cell?_of_block (w := wx) (a := ⟨q, 0, none⟩) ((Below.heap_setCell _ _ _ _ hq).trans (Below.heap_setCell _ _ _ _ hq))).trans h.2⟩

/-- What Div answers of good ones, the divisor not nought. -/
def DivAns (w : World) (neg neg' : Bool) (x y : Nat) (e : Ending) (w' : World) : Prop :=
  ∃ xq xr lq lr, e = .returned (.tuple #[xq, xr, .int .i64 0]) ∧ IntIs w' xq ((neg != neg') && decide (lq ≠ [])) lq ∧ Tr lq ∧ val B32 lq = x / y ∧ IntIs w' xr (neg && decide (lr ≠ [])) lr ∧ Tr lr ∧ val B32 lr = x % y ∧ Below w.heap.size w w'

end Go.Proofs.Ythiniidgklilnaa
