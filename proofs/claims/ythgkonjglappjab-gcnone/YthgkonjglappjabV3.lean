/-
  Walks, of the document's heap: Set.
-/
import Derived.Test.YthgkonjglappjabV2
set_option linter.unusedVariables false
set_option linter.unusedSimpArgs false
set_option maxRecDepth 100000
namespace Go.Proofs.Ythgkonjglappjab
open Go.RowKit

/-- An object with one field set. -/
def setF (x : Ob) (j : Nat) (z : Int) : Ob := { x with f := x.f.set j z }
def setM (os : List Ob) (p kind i z : Int) : List Ob × Int :=
  if (fieldM os p kind i).2 ≠ 0 then (os, (fieldM os p kind i).2)
  else if (ofR z).1 = 8 then (os, 1)
  else (os.set (fieldM os p kind i).1.toNat (setF (os.getD (fieldM os p kind i).1.toNat default) i.toNat z), 0)
theorem uset {w : World} {base : Nat} {e : TypeId} {g n cap : Nat} {l : List Int} (h : w.ownsRow base e 1 (.slice (some ⟨g, 0, none⟩) n cap) n (uz l)) {k : Nat} (z : Int) : (w.setCell ⟨g, k, none⟩ (.int .u64 z)).ownsRow base e 1 (.slice (some ⟨g, 0, none⟩) n cap) n (uz (l.set k z)) := by
  have e1 : uz (l.set k z) = (uz l).set k (.int .u64 z) := by simp [uz, List.map_set]
  rw [e1]
  refine ⟨by rw [List.length_set]; exact h.1, ?_⟩
  rcases h.2 with ⟨h0, _⟩ | ⟨g', cap', cur, h1, h2, h3, h4, h5, h6, h7⟩
  · cases h0
  · cases h1
    refine .inr ⟨g, cap, cur.setIfInBounds k (.int .u64 z), rfl, h2, blk_set (i := k) h3 _, h4, h5, by simpa using h6, ?_⟩
    rw [← h7, Array.toList_setIfInBounds, List.take_set]
theorem ocs_set (y : Ob × Sl) : ∀ (l : List (Ob × Sl)) (a n : Nat), n < l.length → y.1.kind = (l.getD n default).1.kind → y.1.f.length = (l.getD n default).1.f.length → y.2 = (l.getD n default).2 → ocs a (l.set n y) = ocs a l
  | [], _, _, h, _, _, _ => by simp at h
  | x :: l, a, 0, _, h1, h2, h3 => by
    simp only [List.getD_cons_zero] at h1 h2 h3
    simp only [List.set_cons_zero, ocs, oc, h1, h2, h3]
  | x :: l, a, n + 1, h, h1, h2, h3 => by
    simp only [List.getD_cons_succ] at h1 h2 h3
    simp only [List.set_cons_succ, ocs]
    rw [ocs_set y l _ n (by simpa using h) h1 h2 h3]
theorem used_set (y : Ob) : ∀ (l : List Ob) (n : Nat), n < l.length → y.f.length = (l.getD n default).f.length → usedL (l.set n y) = usedL l
  | [], _, h, _ => by simp at h
  | x :: l, 0, _, h2 => by simp only [List.getD_cons_zero] at h2; simp only [List.set_cons_zero, usedL, h2]
  | x :: l, n + 1, h, h2 => by
    simp only [List.getD_cons_succ] at h2
    simp only [List.set_cons_succ, usedL]
    rw [used_set y l n (by simpa using h) h2]
section
variable {B g : Nat} {N : Int} {vL : Value} {ls : List (Ob × Sl)}
theorem mem_set_cases {α : Type} {l : List α} {n : Nat} {y x : α} (h : x ∈ l.set n y) : x = y ∨ ∃ m, ∃ hm : m < l.length, m ≠ n ∧ x = l[m] := by
  obtain ⟨m, hm, rfl⟩ := List.mem_iff_getElem.1 h
  rw [List.getElem_set]
  by_cases e : n = m
  · left; rw [if_pos e]
  · right; rw [if_neg e]; exact ⟨m, by simpa using hm, fun e' => e e'.symm, rfl⟩
end
end Go.Proofs.Ythgkonjglappjab
