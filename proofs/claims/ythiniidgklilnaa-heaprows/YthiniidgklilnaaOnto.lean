/-
  A window of a row that is written in place: what is said of it, and small laws, of whatever program.
-/
import Derived.Test.YthiniidgklilnaaBase
import Derived.Laws.BitsAllLaws
set_option linter.unusedVariables false
set_option linter.unusedSimpArgs false
namespace Go.Proofs.Ythiniidgklilnaa
open Go.RowKit

/-- The window of n cells from o on of block g (a row of type e, nothing frozen) holds l. -/
structure Win (k : IntKind) (e : TypeId) (w : World) (g o n : Nat) (cur : Array Value) (l : List Nat) : Prop where
  blk : w.heap[g]? = some (.cells cur e (0, 0))
  fits : o + n ≤ cur.size
  len : l.length = n
  at_ : ∀ i, i < n → cur[o + i]? = some (.int k (l.getD i 0 : Nat))

/-- w' is w but for block g, where the window's n cells now hold l. -/
structure Onto (k : IntKind) (e : TypeId) (g o n : Nat) (w w' : World) (cur : Array Value) (l : List Nat) : Prop where
  os : w'.os = w.os
  tape : w'.tape = w.tape
  output : w'.output = w.output
  size : w'.heap.size = w.heap.size
  block : ∀ j, j ≠ g → w'.heap[j]? = w.heap[j]?
  row : ∃ cur', Win k e w' g o n cur' l ∧ cur'.size = cur.size ∧ ∀ j, (j < o ∨ o + n ≤ j) → cur'[j]? = cur[j]?

variable {k : IntKind} {e : TypeId} {g o n : Nat} {w w' w'' : World} {cur : Array Value} {l : List Nat}

theorem Win.cell (h : Win k e w g o n cur l) {i : Nat} (hi : i < n) : w.cell? ⟨g, o + i, none⟩ = some (.int k (l.getD i 0 : Nat)) := by
  simp [World.cell?, h.blk, h.at_ i hi]
theorem Win.frozen (h : Win k e w g o n cur l) (i : Nat) : w.frozen? ⟨g, i, none⟩ = false := by simp [World.frozen?, h.blk]
theorem Win.lt (h : Win k e w g o n cur l) : g < w.heap.size := (Array.getElem?_eq_some_iff.1 h.blk).1
theorem Win.onto (h : Win k e w g o n cur l) : Onto k e g o n w w cur l := ⟨rfl, rfl, rfl, rfl, fun _ _ => rfl, cur, h, rfl, fun _ _ => rfl⟩
theorem Win.rd (h : Win k e w g o n cur l) : Rd k w (some ⟨g, o, none⟩) l := .inr ⟨g, o, rfl, h.lt, fun i hi => h.cell (by rw [← h.len]; exact hi)⟩

theorem Onto.win (h : Onto k e g o n w w' cur l) : ∃ cur', Win k e w' g o n cur' l := ⟨h.row.choose, h.row.choose_spec.1⟩
theorem Onto.cell (h : Onto k e g o n w w' cur l) {i : Nat} (hi : i < n) : w'.cell? ⟨g, o + i, none⟩ = some (.int k (l.getD i 0 : Nat)) := by
  obtain ⟨c, hw, _⟩ := h.row; exact hw.cell hi
theorem Onto.frozen (h : Onto k e g o n w w' cur l) (i : Nat) : w'.frozen? ⟨g, i, none⟩ = false := by
  obtain ⟨c, hw, _⟩ := h.row; exact hw.frozen i
theorem Onto.len (h : Onto k e g o n w w' cur l) : l.length = n := by
  obtain ⟨c, hw, _⟩ := h.row; exact hw.len
theorem Onto.lt (h : Onto k e g o n w w' cur l) : g < w'.heap.size := by
  obtain ⟨c, hw, _⟩ := h.row; exact hw.lt
theorem Onto.drewN (h : Onto k e g o n w w' cur l) (q : Nat) : Onto k e g o n w (w'.drewN q) cur l := by
  obtain ⟨c, hw, h1, h2⟩ := h.row
  exact ⟨h.os, h.tape, h.output, h.size, h.block, c, ⟨hw.blk, hw.fits, hw.len, hw.at_⟩, h1, h2⟩
/-- A cell of another block. -/
theorem Onto.other (h : Onto k e g o n w w' cur l) {b i : Nat} (hb : b ≠ g) : w'.cell? ⟨b, i, none⟩ = w.cell? ⟨b, i, none⟩ := World.cell?_of_block (w := w) (h.block b hb)
theorem getD_set {l : List Nat} {i j x : Nat} (hi : i < l.length) : (l.set i x).getD j 0 = if j = i then x else l.getD j 0 := by
  rw [List.getD_eq_getElem?_getD, List.getElem?_set]
  by_cases h : i = j
  · subst h; simp [hi]
  · rw [if_neg h, if_neg (fun e => h e.symm), ← List.getD_eq_getElem?_getD]
theorem Onto.store (h : Onto k e g o n w w' cur l) {i : Nat} (hi : i < n) (x : Nat) : Onto k e g o n w (w'.setCell ⟨g, o + i, none⟩ (.int k x)) cur (l.set i x) := by
  obtain ⟨c, hw, h1, h2⟩ := h.row
  have hb : (w'.setCell ⟨g, o + i, none⟩ (.int k x)).heap[g]? = some (.cells (c.setIfInBounds (o + i) (.int k x)) e (0, 0)) := by
    simp [World.setCell, Array.getElem?_modify, hw.blk]
  refine ⟨h.os, h.tape, h.output, by rw [← h.size]; simp [World.setCell], fun j hj => ?_, c.setIfInBounds (o + i) (.int k x), ⟨hb, by simpa using hw.fits, by simpa using hw.len, fun j hj => ?_⟩, by simpa using h1, fun j hj => ?_⟩
  · rw [← h.block j hj]; exact Below.heap_setCell _ _ _ _ hj
  · have := hw.fits
    rw [Array.getElem?_setIfInBounds, getD_set (by rw [hw.len]; exact hi)]
    by_cases e1 : j = i
    · subst e1; simp; omega
    · rw [if_neg (by omega), if_neg e1]; exact hw.at_ j hj
  · rw [Array.getElem?_setIfInBounds, if_neg (by omega)]; exact h2 j hj
theorem Onto.below (h : Onto k e g o n w w' cur l) {B : Nat} (hB : B ≤ g) : Below B w w' := ⟨h.os, h.tape, h.output, Nat.le_of_eq h.size.symm, fun j hj => h.block j (by omega)⟩
theorem Onto.congr (h : Onto k e g o n w w' cur l) {l2 : List Nat} (e2 : l = l2) : Onto k e g o n w w' cur l2 := e2 ▸ h

/-- A slice of numbers that is the call's own: it may be written. -/
structure Own (k : IntKind) (e : TypeId) (B base : Nat) (w : World) (ao : Option Addr) (n cap : Nat) (l : List Nat) : Prop where
  row : Row k B w ao n cap l
  own : n = 0 ∨ ∃ g cur, ao = some ⟨g, 0, none⟩ ∧ base ≤ g ∧ Win k e w g 0 n cur l

end Go.Proofs.Ythiniidgklilnaa
