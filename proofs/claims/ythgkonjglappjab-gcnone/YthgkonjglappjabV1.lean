/-
  Walks, of the document's heap: what only reads it.
-/
import Derived.Test.YthgkonjglappjabV0
import Derived.Deep.RegionHeld3
import Derived.BigQuiet
import Derived.Deep.QuietTactic
set_option linter.unusedVariables false
set_option linter.unusedSimpArgs false
set_option maxRecDepth 100000
namespace Go.Proofs.Ythgkonjglappjab
open Go.RowKit

def atO (os : List Ob) (i : Nat) : Nat := usedL (os.take i)
theorem atI_eq (ls : List (Ob × Sl)) (i : Nat) : atI ls i = atO (ls.map Prod.fst) i := by unfold atI atO; rw [List.map_take]
theorem getD_fst (ls : List (Ob × Sl)) (i : Nat) : (ls.getD i default).1 = (ls.map Prod.fst).getD i default := by
  rw [List.getD_eq_getElem?_getD, List.getD_eq_getElem?_getD, List.getElem?_map]
  cases h : ls[i]? <;> rfl
theorem used_last {os : List Ob} (h : 0 < os.length) : atO os (os.length - 1) + 1 + (os.getD (os.length - 1) default).f.length = usedL os := by
  have e : os = os.take (os.length - 1) ++ [os.getD (os.length - 1) default] := by
    conv => lhs; rw [← List.take_append_drop (os.length - 1) os]
    congr 1
    rw [List.drop_eq_getElem_cons (by omega), List.getD_eq_getElem?_getD, List.getElem?_eq_getElem (by omega)]
    rw [List.drop_eq_nil_of_le (by omega)]; rfl
  conv => rhs; rw [e, usedL_append]
  simp [usedL, atO]; omega
theorem used_take_le (os : List Ob) (i : Nat) : atO os i ≤ usedL os := by
  have : usedL os = usedL (os.take i) + usedL (os.drop i) := by rw [← usedL_append, List.take_append_drop]
  unfold atO; omega
theorem used_mem {os : List Ob} {x : Ob} (h : x ∈ os) : 1 + x.f.length ≤ usedL os := by
  induction os with
  | nil => cases h
  | cons y l ih =>
    rcases List.mem_cons.1 h with rfl | h
    · unfold usedL; omega
    · have := ih h; unfold usedL; omega
theorem len_le_used (os : List Ob) : os.length ≤ usedL os := by
  induction os with
  | nil => simp
  | cons x l ih => simp only [List.length_cons, usedL]; omega

theorem h2_on {w1 wx wy : World} {p : Nat} {a0 : Value} (h : wx.cell? ⟨p, 0, none⟩ = some a0 ∧ Below w1.heap.size w1 wx) (hb : Below wx.heap.size wx wy) : wy.cell? ⟨p, 0, none⟩ = some a0 ∧ Below w1.heap.size w1 wy := ⟨(hb.cell (p := ⟨p, 0, none⟩) (cell_lt h.1)).trans h.1, Bt h.2 hb⟩
theorem h2_bel {w1 wx : World} {p : Nat} {a0 : Value} (h : wx.cell? ⟨p, 0, none⟩ = some a0 ∧ Below w1.heap.size w1 wx) : Below w1.heap.size w1 wx := h.2
section
variable {B g : Nat} {N : Int} {vL : Value} {ls : List (Ob × Sl)}
end

/-- The first object at a place, from number i on. -/
def fnd (os : List Ob) (n : Int) (i : Nat) : Option Nat := if i < os.length then (if (atO os i : Int) = n then some i else fnd os n (i + 1)) else none
termination_by os.length - i
def findM (os : List Ob) (p : Int) : Option Nat := if (ofR p).1 = 2 then fnd os (ofR p).2.1 0 else none
def optI : Option Nat → Int
  | some i => i
  | none => -1
theorem fnd_lt {os : List Ob} {n : Int} {i j : Nat} (h : fnd os n i = some j) : j < os.length ∧ (atO os j : Int) = n := by
  induction hk : os.length - i generalizing i with
  | zero => rw [fnd, if_neg (by omega)] at h; cases h
  | succ k ih =>
    rw [fnd, if_pos (by omega)] at h
    split at h
    · injection h with h; subst h; exact ⟨by omega, by assumption⟩
    · exact ih h (by omega)
section
variable {B g : Nat} {N : Int} {vL : Value} {ls : List (Ob × Sl)}
end
end Go.Proofs.Ythgkonjglappjab
