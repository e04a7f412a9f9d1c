/-
  Both heaps in one memory; objects behind Alloc, Fill, Set.
-/
import Derived.Test.YthgkonjglappjabV9f
set_option linter.unusedVariables false
set_option linter.unusedSimpArgs false
set_option maxRecDepth 100000
namespace Go.Proofs.Ythgkonjglappjab
open Go.RowKit

section
variable {B g : Nat} {v : Value} {N : Int} {osP osR os' : List Ob} {w w' : World}
end
theorem alloc_ok {os : List Ob} {N kind : Int} {fl : List Int} (h : OsOk os) (hf : ∀ z ∈ fl, U64 z) : OsOk (allocO os N kind fl) := by
  unfold allocO
  split
  · rename_i h0
    unfold allocM at h0
    split at h0
    · simp at h0
    rename_i hk
    split at h0
    · simp at h0
    rename_i hh
    have hany : fl.any isHd = false := by simpa using hh
    have hnh : ∀ z ∈ fl, isHd z = false := fun z hz => by
      rw [← Bool.not_eq_true]; intro e
      have := List.any_eq_true.2 ⟨z, hz, e⟩
      rw [hany] at this; cases this
    refine ⟨fun x hx => ?_, fun x hx => ?_, fun x hx => ?_⟩ <;> rcases List.mem_append.1 hx with hx | hx
    · exact h.kd x hx
    · obtain rfl := List.mem_singleton.1 hx; simp only; omega
    · exact h.uf x hx
    · obtain rfl := List.mem_singleton.1 hx; exact hf
    · exact h.nh x hx
    · obtain rfl := List.mem_singleton.1 hx; exact hnh
  · exact h
theorem fill_ok {os : List Ob} {N kind n z : Int} (h : OsOk os) (hz : U64 z) : OsOk (fillO os N kind n z) := by
  have key : fillO os N kind n z = os ∨ fillO os N kind n z = allocO os N kind (List.replicate n.toNat z) := by
    unfold fillO allocO fillM
    by_cases h1 : kind < 1 ∨ 22 < kind
    · left; rw [if_pos h1]; rfl
    · rw [if_neg h1]
      by_cases h2 : n < 0 ∨ 4194304 < n ∨ isHd z = true
      · left; rw [if_pos h2]; rfl
      · right; rw [if_neg h2]
  rcases key with e | e <;> rw [e]
  · exact h
  · exact alloc_ok h (fun y hy => by rw [List.eq_of_mem_replicate hy]; exact hz)
theorem fillQ_ok {os : List Ob} {N kind n z : Int} (h : OsOk os) (hz : U64 z) : OsOk (fillQ os N kind n z) := by
  have key : fillQ os N kind n z = os ∨ fillQ os N kind n z = allocO os N kind (List.replicate n.toNat z) := by
    unfold fillQ allocO fillP
    by_cases h1 : kind < 1 ∨ 22 < kind
    · left; rw [if_pos h1]; rfl
    · rw [if_neg h1]
      by_cases h2 : n < 0 ∨ 4194304 < n
      · left; rw [if_pos h2]; rfl
      · right; rw [if_neg h2]
  rcases key with e | e <;> rw [e]
  · exact h
  · exact alloc_ok h (fun y hy => by rw [List.eq_of_mem_replicate hy]; exact hz)
theorem set_ok {os : List Ob} {p kind i z : Int} (h : OsOk os) (hz : U64 z) : OsOk (setM os p kind i z).1 := by
  unfold setM
  split
  · exact h
  · split
    · exact h
    · rename_i h0 h8
      obtain ⟨n, e1, e2, _⟩ := fieldM_ok (by simpa using h0)
      rw [e1]
      simp only [Int.toNat_natCast]
      have hm : os.getD n default ∈ os := by rw [List.getD_eq_getElem?_getD, List.getElem?_eq_getElem e2]; exact List.getElem_mem e2
      refine ⟨fun x hx => ?_, fun x hx => ?_, fun x hx => ?_⟩ <;> rcases List.mem_or_eq_of_mem_set hx with hx | rfl
      · exact h.kd x hx
      · have := h.kd _ hm; exact this
      · exact h.uf x hx
      · intro y hy
        simp only [setF] at hy
        rcases List.mem_or_eq_of_mem_set hy with hy | rfl
        · exact h.uf _ hm y hy
        · exact hz
      · exact h.nh x hx
      · intro y hy
        simp only [setF] at hy
        rcases List.mem_or_eq_of_mem_set hy with hy | rfl
        · exact h.nh _ hm y hy
        · exact decide_eq_false h8
end Go.Proofs.Ythgkonjglappjab
