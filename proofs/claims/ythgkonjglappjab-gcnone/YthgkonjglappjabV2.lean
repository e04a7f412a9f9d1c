/-
  Walks, of the document's heap: field, Get, Set.
-/
import Derived.Test.YthgkonjglappjabV1
set_option linter.unusedVariables false
set_option linter.unusedSimpArgs false
set_option maxRecDepth 100000
namespace Go.Proofs.Ythgkonjglappjab
open Go.RowKit

/-- The number of the object that has the field, and what is wrong. -/
def fieldM (os : List Ob) (p kind i : Int) : Int × Int :=
  match findM os p with
  | none => (0, 70)
  | some n => if kind ≠ 0 ∧ (os.getD n default).kind ≠ kind then (0, 70) else if i < 0 ∨ ((os.getD n default).f.length : Int) ≤ i then (0, 2) else ((n : Int), 0)
def getM (os : List Ob) (p kind i : Int) : Int × Int :=
  if (fieldM os p kind i).2 = 0 then ((os.getD (fieldM os p kind i).1.toNat default).f.getD i.toNat 0, 0) else (0, (fieldM os p kind i).2)
theorem findM_lt {os : List Ob} {p : Int} {n : Nat} (h : findM os p = some n) : n < os.length ∧ (atO os n : Int) = (ofR p).2.1 := by
  unfold findM at h
  split at h
  · exact fnd_lt h
  · cases h
theorem fieldM_ok {os : List Ob} {p kind i : Int} (h : (fieldM os p kind i).2 = 0) : ∃ n : Nat, fieldM os p kind i = ((n : Int), 0) ∧ n < os.length ∧ findM os p = some n ∧ 0 ≤ i ∧ i < (os.getD n default).f.length := by
  unfold fieldM at h ⊢
  cases hf : findM os p with
  | none => rw [hf] at h; simp at h
  | some n =>
    rw [hf] at h
    simp only at h ⊢
    split at h
    · simp at h
    · rename_i h1
      split at h
      · simp at h
      · rename_i h2
        exact ⟨n, by rw [if_neg h1, if_neg h2], (findM_lt hf).1, rfl, by omega, by omega⟩
section
variable {B g : Nat} {N : Int} {vL : Value} {ls : List (Ob × Sl)}
end

section
variable {B g : Nat} {N : Int} {vL : Value} {ls : List (Ob × Sl)}
theorem owned_cell {w : World} {B : Nat} {e : TypeId} {v : Value} {l : List Int} (h : w.ownsRow B e 1 v l.length (uz l)) {i : Nat} (hi : i < l.length) :
    ∃ gr cap, v = .slice (some ⟨gr, 0, none⟩) l.length cap ∧ B ≤ gr ∧ l.length ≤ cap ∧ cap ≤ maxLen ∧ w.cell? ⟨gr, i, none⟩ = some (.int .u64 (l.getD i 0)) ∧ w.frozen? ⟨gr, i, none⟩ = false := by
  rcases h.2 with ⟨h0, h1⟩ | ⟨gr, cap, cur, h1, h2, h3, h4, h5, h6, h7⟩
  · omega
  · refine ⟨gr, cap, h1, h2, h4, h5, ?_, blk_free h3 i⟩
    rw [blk_cell h3]
    have : cur[i]? = (uz l)[i]? := by rw [← h7, List.getElem?_take, if_pos (by omega)]; simp
    rw [this, uz_get hi]
end
end Go.Proofs.Ythgkonjglappjab
