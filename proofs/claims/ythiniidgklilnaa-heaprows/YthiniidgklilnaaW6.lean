/-
  Walks, of the document's answer: Cmp, Same; the statements' own: good, same.
-/
import Derived.Test.YthiniidgklilnaaW5
import Derived.Deep.RegionHeld3
set_option linter.unusedVariables false
set_option linter.unusedSimpArgs false
namespace Go.Proofs.Ythiniidgklilnaa
open Go.RowKit

/-- How two integers stand. -/
def cmpR (neg neg' : Bool) (x y : Nat) : Int := if neg = neg' then (if neg then - cmpN x y else cmpN x y) else (if neg then -1 else 1)
theorem cmpR_ne {neg neg' : Bool} (x y : Nat) (h : neg ≠ neg') : cmpR neg neg' x y = if neg then -1 else 1 := by simp [cmpR, h]
theorem cmpR_eq (neg : Bool) (x y : Nat) : cmpR neg neg x y = if neg then - cmpN x y else cmpN x y := by simp [cmpR]
theorem cmpN_bd (x y : Nat) : -1 ≤ cmpN x y ∧ cmpN x y ≤ 1 := by unfold cmpN; split <;> (try split) <;> omega

/-- Two boxes of a call lie as they were made, and nothing older has turned. -/
def Two (W : World) (p q : Nat) (neg neg' : Bool) (ao ao' : Option Addr) (n cap n' cap' : Nat) (wx : World) : Prop :=
  wx.cell? ⟨p, 0, none⟩ = some (.bool neg) ∧ wx.cell? ⟨p, 1, none⟩ = some (.slice ao n cap) ∧ wx.cell? ⟨q, 0, none⟩ = some (.bool neg') ∧ wx.cell? ⟨q, 1, none⟩ = some (.slice ao' n' cap') ∧ Below W.heap.size W wx
theorem cell_lt {w : World} {b i : Nat} {v : Value} (h : w.cell? ⟨b, i, none⟩ = some v) : b < w.heap.size := World.block_lt_of_cell? w ⟨b, i, none⟩ h
theorem two_on {W wx wy : World} {p q : Nat} {neg neg' : Bool} {ao ao' : Option Addr} {n cap n' cap' : Nat}
    (h : wx.cell? ⟨p, 0, none⟩ = some (.bool neg) ∧ wx.cell? ⟨p, 1, none⟩ = some (.slice ao n cap) ∧ wx.cell? ⟨q, 0, none⟩ = some (.bool neg') ∧ wx.cell? ⟨q, 1, none⟩ = some (.slice ao' n' cap') ∧ Below W.heap.size W wx) (hb : Below wx.heap.size wx wy) :
    wy.cell? ⟨p, 0, none⟩ = some (.bool neg) ∧ wy.cell? ⟨p, 1, none⟩ = some (.slice ao n cap) ∧ wy.cell? ⟨q, 0, none⟩ = some (.bool neg') ∧ wy.cell? ⟨q, 1, none⟩ = some (.slice ao' n' cap') ∧ Below W.heap.size W wy := by
  obtain ⟨h1, h2, h3, h4, h5⟩ := h
  exact ⟨(hb.cell (p := ⟨p, 0, none⟩) (cell_lt h1)).trans h1, (hb.cell (p := ⟨p, 1, none⟩) (cell_lt h1)).trans h2, (hb.cell (p := ⟨q, 0, none⟩) (cell_lt h3)).trans h3, (hb.cell (p := ⟨q, 1, none⟩) (cell_lt h3)).trans h4, Bt h5 hb⟩
theorem two_start (w : World) (neg neg' : Bool) (ao ao' : Option Addr) (n cap n' cap' : Nat) (t : TypeId) :
    ∀ W, W = ((w.alloc (.cells #[.bool neg, .slice ao n cap] t)).alloc (.cells #[.bool neg', .slice ao' n' cap'] t)) →
    W.cell? ⟨w.heap.size, 0, none⟩ = some (.bool neg) ∧ W.cell? ⟨w.heap.size, 1, none⟩ = some (.slice ao n cap) ∧ W.cell? ⟨w.heap.size + 1, 0, none⟩ = some (.bool neg') ∧ W.cell? ⟨w.heap.size + 1, 1, none⟩ = some (.slice ao' n' cap') ∧ Below W.heap.size W W := by
  intro W hW
  subst hW
  refine ⟨?_, ?_, ?_, ?_, Below.refl _ _⟩ <;> simp
theorem two_bel {W wx : World} {p q : Nat} {neg neg' : Bool} {ao ao' : Option Addr} {n cap n' cap' : Nat}
    (h : wx.cell? ⟨p, 0, none⟩ = some (.bool neg) ∧ wx.cell? ⟨p, 1, none⟩ = some (.slice ao n cap) ∧ wx.cell? ⟨q, 0, none⟩ = some (.bool neg') ∧ wx.cell? ⟨q, 1, none⟩ = some (.slice ao' n' cap') ∧ Below W.heap.size W wx) : Below W.heap.size W wx := h.2.2.2.2
theorem two_drew {W wx : World} {p q : Nat} {neg neg' : Bool} {ao ao' : Option Addr} {n cap n' cap' : Nat}
    (h : wx.cell? ⟨p, 0, none⟩ = some (.bool neg) ∧ wx.cell? ⟨p, 1, none⟩ = some (.slice ao n cap) ∧ wx.cell? ⟨q, 0, none⟩ = some (.bool neg') ∧ wx.cell? ⟨q, 1, none⟩ = some (.slice ao' n' cap') ∧ Below W.heap.size W wx) :
    wx.drew.cell? ⟨p, 0, none⟩ = some (.bool neg) ∧ wx.drew.cell? ⟨p, 1, none⟩ = some (.slice ao n cap) ∧ wx.drew.cell? ⟨q, 0, none⟩ = some (.bool neg') ∧ wx.drew.cell? ⟨q, 1, none⟩ = some (.slice ao' n' cap') ∧ Below W.heap.size W wx.drew :=
  two_on h (Bd wx 1)

def allGood (N : Nat → Bool) (D : Nat → List Nat) (k : Nat) : Bool := (List.range k).all fun i => goodB (N i) (D i)
theorem allGood_succ (N : Nat → Bool) (D : Nat → List Nat) (k : Nat) : allGood N D (k + 1) = (allGood N D k && goodB (N k) (D k)) := by
  simp [allGood, List.range_succ]
theorem allGood_false {N : Nat → Bool} {D : Nat → List Nat} {k i : Nat} (hi : i < k) (h : goodB (N i) (D i) = false) : allGood N D k = false := by
  unfold allGood
  rw [List.all_eq_false]
  exact ⟨i, by simpa using hi, by simp [h]⟩

/-- The statements' own 'same': are two good ones the same? -/
def sameB (neg neg' : Bool) (l l' : List Nat) : Bool := goodB neg l && goodB neg' l' && (neg == neg') && (val B32 l == val B32 l')

theorem cmpR_zero (neg : Bool) (x y : Nat) : (cmpR neg neg x y == 0) = (x == y) := by
  rw [cmpR_eq]
  unfold cmpN
  by_cases h1 : x < y
  · have h2 : (x == y) = false := by simp; omega
    cases neg <;> simp [h1, h2]
  · by_cases h2 : x = y
    · subst h2; cases neg <;> simp
    · have h3 : (x == y) = false := by simp; exact h2
      cases neg <;> simp [h1, h2, h3]

end Go.Proofs.Ythiniidgklilnaa
