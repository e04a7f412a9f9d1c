/-
  Both heaps in one memory; objects behind Alloc, Fill, Set.
-/
import Derived.Test.YthgkonjglappjaaV9f
set_option linter.unusedVariables false
set_option linter.unusedSimpArgs false
set_option maxRecDepth 100000
namespace Go.Proofs.Ythgkonjglappjaa
open Go.RowKit

/-- Both heaps in one memory; what the program's has may be ahead of the document's. -/
structure Mix (B : Nat) (v : Value) (g : Nat) (N : Int) (osP osR : List Ob) (w : World) : Prop where
  ex : ∃ F vL ls, PH B v N (wordsL osP) F w ∧ RH B g N vL ls w ∧ ls.map Prod.fst = osR ∧ ∀ b, F b → ¬ RF g vL ls b
  okP : OsOk osP
  okR : OsOk osR
  bw : B ≤ w.heap.size
section
variable {B g : Nat} {v : Value} {N : Int} {osP osR os' : List Ob} {w w' : World}
theorem Mix.on (h : Mix B v g N osP osR w) (hb : Below w.heap.size w w') : Mix B v g N osP osR w' := by
  obtain ⟨⟨F, vL, ls, h1, h2, h3, h4⟩, h5, h6, h7⟩ := h
  exact ⟨⟨F, vL, ls, h1.keep (fun b hf => hb.block b (h1.ge b hf).2), h2.on hb, h3, h4⟩, h5, h6, Nat.le_trans h7 hb.size⟩
theorem Mix.p {F : Nat → Prop} {vL : Value} {ls : List (Ob × Sl)} (h1 : PH B v N (wordsL osP) F w) (h2 : RH B g N vL ls w) (h3 : ls.map Prod.fst = osR) (h4 : ∀ b, F b → ¬ RF g vL ls b) (hR : OsOk osR) (hB : B ≤ w.heap.size) (ho : OsOk os') (hp : PPost B v N F w (wordsL os') w') : Mix B v g N os' osR w' ∧ Below B w w' := by
  obtain ⟨F', p1, p2, p3⟩ := hp
  refine ⟨⟨⟨F', vL, ls, p1, h2.mod p3 (fun b hb hf => h4 b hf hb), h3, fun b hb hr => ?_⟩, ho, hR, Nat.le_trans hB p3.size⟩, p3.below (fun b hb => (h1.ge b hb).1) hB⟩
  rcases p2 b hb with h' | h'
  · exact h4 b h' hr
  · have := (h2.foot_ge b hr).2; omega
theorem Mix.r {F : Nat → Prop} {vL : Value} {ls : List (Ob × Sl)} (h1 : PH B v N (wordsL osP) F w) (h2 : RH B g N vL ls w) (h4 : ∀ b, F b → ¬ RF g vL ls b) (hP : OsOk osP) (hB : B ≤ w.heap.size) (ho : OsOk os') (hp : RPost B g N vL ls w os' w') : Mix B v g N osP os' w' ∧ Below B w w' := by
  obtain ⟨vL', ls', p1, p2, p3, p4⟩ := hp
  refine ⟨⟨⟨F, vL', ls', h1.keep (fun b hb => p4.block b (h1.ge b hb).2 (h4 b hb)), p1, p2, fun b hb hr => ?_⟩, hP, ho, Nat.le_trans hB p4.size⟩, p4.below (fun b hb => (h2.foot_ge b hb).1) hB⟩
  rcases p3 b hr with h' | h'
  · exact h4 b hb h'
  · have := (h1.ge b hb).2; omega
end
theorem alloc_ok {os : List Ob} {N kind : Int} {fl : List Int} (h : OsOk os) (hf : ∀ z ∈ fl, U64 z) : OsOk (allocO os N kind fl) := by
  unfold allocO
  split
  · rename_i h0
    unfold allocM at h0
    split at h0
    · simp at h0
    rename_i hk
    split at h0
    · simp at h0
    rename_i hh
    have hany : fl.any isHd = false := by simpa using hh
    have hnh : ∀ z ∈ fl, isHd z = false := fun z hz => by
      rw [← Bool.not_eq_true]; intro e
      have := List.any_eq_true.2 ⟨z, hz, e⟩
      rw [hany] at this; cases this
    refine ⟨fun x hx => ?_, fun x hx => ?_, fun x hx => ?_⟩ <;> rcases List.mem_append.1 hx with hx | hx
    · exact h.kd x hx
    · obtain rfl := List.mem_singleton.1 hx; simp only; omega
    · exact h.uf x hx
    · obtain rfl := List.mem_singleton.1 hx; exact hf
    · exact h.nh x hx
    · obtain rfl := List.mem_singleton.1 hx; exact hnh
  · exact h
theorem fill_ok {os : List Ob} {N kind n z : Int} (h : OsOk os) (hz : U64 z) : OsOk (fillO os N kind n z) := by
  have key : fillO os N kind n z = os ∨ fillO os N kind n z = allocO os N kind (List.replicate n.toNat z) := by
    unfold fillO allocO fillM
    by_cases h1 : kind < 1 ∨ 22 < kind
    · left; rw [if_pos h1]; rfl
    · rw [if_neg h1]
      by_cases h2 : n < 0 ∨ 4194304 < n ∨ isHd z = true
      · left; rw [if_pos h2]; rfl
      · right; rw [if_neg h2]
  rcases key with e | e <;> rw [e]
  · exact h
  · exact alloc_ok h (fun y hy => by rw [List.eq_of_mem_replicate hy]; exact hz)
theorem fillQ_ok {os : List Ob} {N kind n z : Int} (h : OsOk os) (hz : U64 z) : OsOk (fillQ os N kind n z) := by
  have key : fillQ os N kind n z = os ∨ fillQ os N kind n z = allocO os N kind (List.replicate n.toNat z) := by
    unfold fillQ allocO fillP
    by_cases h1 : kind < 1 ∨ 22 < kind
    · left; rw [if_pos h1]; rfl
    · rw [if_neg h1]
      by_cases h2 : n < 0 ∨ 4194304 < n
      · left; rw [if_pos h2]; rfl
      · right; rw [if_neg h2]
  rcases key with e | e <;> rw [e]
  · exact h
  · exact alloc_ok h (fun y hy => by rw [List.eq_of_mem_replicate hy]; exact hz)
theorem set_ok {os : List Ob} {p kind i z : Int} (h : OsOk os) (hz : U64 z) : OsOk (setM os p kind i z).1 := by
  unfold setM
  split
  · exact h
  · split
    · exact h
    · rename_i h0 h8
      obtain ⟨n, e1, e2, _⟩ := fieldM_ok (by simpa using h0)
      rw [e1]
      simp only [Int.toNat_natCast]
      have hm : os.getD n default ∈ os := by rw [List.getD_eq_getElem?_getD, List.getElem?_eq_getElem e2]; exact List.getElem_mem e2
      refine ⟨fun x hx => ?_, fun x hx => ?_, fun x hx => ?_⟩ <;> rcases List.mem_or_eq_of_mem_set hx with hx | rfl
      · exact h.kd x hx
      · have := h.kd _ hm; exact this
      · exact h.uf x hx
      · intro y hy
        simp only [setF] at hy
        rcases List.mem_or_eq_of_mem_set hy with hy | rfl
        · exact h.uf _ hm y hy
        · exact hz
      · exact h.nh x hx
      · intro y hy
        simp only [setF] at hy
        rcases List.mem_or_eq_of_mem_set hy with hy | rfl
        · exact h.nh _ hm y hy
        · exact decide_eq_false h8
end Go.Proofs.Ythgkonjglappjaa
