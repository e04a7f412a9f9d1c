/-
  Walks: awake, HeapPlays.
-/
import Derived.Test.YthgkonjglappjabV10
set_option linter.unusedVariables false
set_option linter.unusedSimpArgs false
set_option maxRecDepth 100000
namespace Go.Proofs.Ythgkonjglappjab
open Go.RowKit

theorem urow_two {w : World} {g : Nat} {t : TypeId} (h : w.heap[g]? = some (.cells #[.int .u64 2, .int .u64 2] t (0, 0))) : URow w (some ⟨g, 0, none⟩) 2 2 [2, 2] :=
  ⟨rfl, Nat.le_refl _, by unfold maxLen; omega, fun e => (by cases e), fun y hy => by simp at hy; rw [hy]; unfold U64; omega, .inr ⟨g, 0, rfl, (Array.getElem?_eq_some_iff.1 h).1, fun i hi => by
    have : i = 0 ∨ i = 1 := by simp at hi; omega
    rcases this with rfl | rfl
    · exact blk_cell h 0
    · exact blk_cell h 1⟩⟩
theorem os_nil : OsOk [] := ⟨fun x hx => (by cases hx), fun x hx => (by cases hx), fun x hx => (by cases hx)⟩
theorem PPost.below {B : Nat} {v : Value} {N : Int} {ws ws' : List Int} {F : Nat → Prop} {w w' : World} (h : PH B v N ws F w) (hp : PPost B v N F w ws' w') (hB : B ≤ w.heap.size) : Below B w w' := by
  obtain ⟨F', p1, p2, p3⟩ := hp
  exact p3.below (fun b hb => (h.ge b hb).1) hB
theorem awake_alloc {B : Nat} {v : Value} {F : Nat → Prop} {os : List Ob} (ho : OsOk os) (w0 w : World) (h : PH B v 4 (wordsL os) F w) (hb : Below B w0 w) (hB : B ≤ w.heap.size) :
    Calls Try.prog 12 #[v, .int .i64 1, .slice (some ⟨w.heap.size, 0, none⟩) 2 2] (w.alloc (.cells #[.int .u64 2, .int .u64 2] 32)) fun e w' => e = .returned (.tuple #[.int .u64 (allocM os 4 1 [2, 2]).1, .int .i64 (allocM os 4 1 [2, 2]).2]) ∧ ∃ F', PH B v 4 (wordsL (allocO os 4 1 [2, 2])) F' w' ∧ Below B w0 w' ∧ B ≤ w'.heap.size := by
  have hk : PH B v 4 (wordsL os) F (w.alloc (.cells #[.int .u64 2, .int .u64 2] 32)) := h.keep (fun b hb' => (Ba w _).block b (h.ge b hb').2)
  have hB2 : B ≤ (w.alloc (.cells #[.int .u64 2, .int .u64 2] 32)).heap.size := by rw [size_alloc]; omega
  refine (palloc_any ho 1 (by unfold Z64; omega) (some ⟨w.heap.size, 0, none⟩) 2 2 [2, 2] _ hk (urow_two (blk_new w _ _)) hB2 (fun a ha hf => ?_) (by omega)).mono ?_
  · cases ha; have := (h.ge _ hf).2; simp at this
  rintro e w' ⟨rfl, hp⟩
  have hbl := PPost.below hk hp hB2
  obtain ⟨F', p1, p2, p3⟩ := hp
  refine ⟨rfl, F', p1, ?_, Nat.le_trans hB2 hbl.size⟩
  exact (hb.trans ((Ba w _).mono hB)).trans hbl
end Go.Proofs.Ythgkonjglappjab
