/-
  Mathematics: a second collection changes nothing.
-/
import Derived.Test.YthgkonjglappjaaU14
set_option linter.unusedVariables false
set_option linter.unusedSimpArgs false
set_option maxRecDepth 100000
namespace Go.Proofs.Ythgkonjglappjaa
open Go.RowKit

/-- No word says a place that is not there. -/
def Whole (os : List Ob) (z : Int) : Prop := (∃ k, findM os z = some k) ∨ (ofR z).1 ≠ 2
theorem cntM_zero (os : List Ob) (l : List Bool) : cntM os l 0 = 0 := by simp [cntM, keepL]
/-- Each one that is kept was one that lives. -/
theorem cnt_onto {os : List Ob} {l : List Bool} (hl : l.length = os.length) {c : Nat} (hc : c < (collO os l).length) : ∃ i, i < os.length ∧ l.getD i false = true ∧ cntM os l i = c := by
  rw [← cntM_all hl] at hc
  have key : ∀ q, q ≤ os.length → c < cntM os l q → ∃ i, i < os.length ∧ l.getD i false = true ∧ cntM os l i = c := fun q => by
    induction q with
    | zero => intro _ h; rw [cntM_zero] at h; omega
    | succ q ih =>
      intro hq h
      rw [cntM_succ (by omega) hl] at h
      by_cases e : c < cntM os l q
      · exact ih (by omega) e
      · split at h
        · rename_i hb; exact ⟨q, by omega, hb, by omega⟩
        · omega
  exact key os.length (Nat.le_refl _) hc
section
variable {os : List Ob} {rs : List Int} (hu : usedL os ≤ 1099511627776)
include hu
theorem find_coll {l : List Bool} (hl : l.length = os.length) {k : Nat} (hk : k < os.length) (hb : l.getD k false = true) : findM (collO os l) (wordR 2 (toM os l k : Nat) 0) = some (cntM os l k) := by
  obtain ⟨h1, h2, h3⟩ := coll_at hk hl hb
  have h4 : usedL (collO os l) ≤ 1099511627776 := by
    have h5 := toM_le hl (i := os.length) (Nat.le_refl _)
    have h6 := at_all os
    unfold toM at h5
    rw [keep_all _ _ hl] at h5
    rw [coll_used]; omega
  have := find_ptr h1 h4
  rw [h3] at this; exact this
theorem lv_coll {i : Nat} (h : Lv os rs i) : Lv (collO os (lvL os rs)) (collR os (lvL os rs) rs) (cntM os (lvL os rs) i) := by
  have hl := lvL_length os rs
  induction h with
  | root h1 h2 =>
    rename_i r i
    have hlv : Lv os rs i := .root h1 h2
    have hm : movedM os (lvL os rs) r = wordR 2 (toM os (lvL os rs) i : Nat) 0 := by unfold movedM; rw [h2]; simp only [lvL_iff.2 hlv, if_true]
    refine .root (r := movedM os (lvL os rs) r) (List.mem_map_of_mem h1) ?_
    rw [hm]; exact find_coll hu hl hlv.lt (lvL_iff.2 hlv)
  | step h1 h2 h3 ih =>
    rename_i i j z
    have hlv : Lv os rs j := .step h1 h2 h3
    have hm : movedM os (lvL os rs) z = wordR 2 (toM os (lvL os rs) j : Nat) 0 := by unfold movedM; rw [h3]; simp only [lvL_iff.2 hlv, if_true]
    obtain ⟨k1, k2, k3⟩ := coll_at h1.lt hl (lvL_iff.2 h1)
    refine .step ih (z := movedM os (lvL os rs) z) ?_ ?_
    · rw [k2]; exact List.mem_map_of_mem h2
    · rw [hm]; exact find_coll hu hl hlv.lt (lvL_iff.2 hlv)
theorem lv_twice : lvL (collO os (lvL os rs)) (collR os (lvL os rs) rs) = List.replicate (collO os (lvL os rs)).length true := by
  have hl := lvL_length os rs
  refine (lv_all (by simp) (fun c hc => ?_) (fun r _ i hi => ?_) (fun i _ z _ j hj => ?_)).symm
  · rw [rep_get] at hc
    have h : c < (collO os (lvL os rs)).length := by simpa using hc
    obtain ⟨i, h1, h2, h3⟩ := cnt_onto hl h
    rw [← h3]
    exact lv_coll hu (lvL_iff.1 h2)
  · rw [rep_get]; have := (findM_lt hi).1; simp [this]
  · rw [rep_get]; have := (findM_lt hj).1; simp [this]
theorem coll_twice (ho : OsOk os) (hr : ∀ z ∈ rs, U64 z) :
    let l := lvL os rs
    let os1 := collO os l
    let rs1 := collR os l rs
    collO os1 (lvL os1 rs1) = os1 ∧ collR os1 (lvL os1 rs1) rs1 = rs1 ∧ usedL (keepL os1 (lvL os1 rs1)) = usedL (keepL os l) ∧ usedL os1 = usedL (keepL os l) := by
  intro l os1 rs1
  have hl : l.length = os.length := lvL_length os rs
  have hok : OsOk os1 := coll_ok ho hu hl
  have hu1 : usedL os1 ≤ 1099511627776 := by
    have h5 := toM_le hl (i := os.length) (Nat.le_refl _)
    have h6 := at_all os
    unfold toM at h5
    rw [keep_all _ _ hl] at h5
    show usedL (collO os l) ≤ _
    rw [coll_used]; omega
  have hlv : lvL os1 rs1 = List.replicate os1.length true := lv_twice hu
  have hk : keepL os1 (List.replicate os1.length true) = os1 := by rw [keep_rep, if_pos rfl]
  rw [hlv]
  refine ⟨?_, ?_, ?_, coll_used os l⟩
  · show (keepL os1 (List.replicate os1.length true)).map (movOb os1 (List.replicate os1.length true)) = os1
    rw [hk]
    have key : ∀ (a : List Ob), (∀ x ∈ a, ∀ z ∈ x.f, U64 z) → a.map (movOb os1 (List.replicate os1.length true)) = a := fun a => by
      induction a with
      | nil => intro _; rfl
      | cons x a ih =>
        intro h
        have e : movOb os1 (List.replicate os1.length true) x = x := by
          unfold movOb
          rw [map_id' (fun z hz => moved_rep hu1 (h x List.mem_cons_self z hz))]
        rw [List.map_cons, e, ih (fun y hy => h y (List.mem_cons_of_mem _ hy))]
    exact key os1 hok.uf
  · exact map_id' (fun z hz => moved_rep hu1 (by obtain ⟨z', hz', rfl⟩ := List.mem_map.1 hz; exact moved_u64 (hr z' hz')))
  · rw [hk]; exact coll_used os l
end
end Go.Proofs.Ythgkonjglappjaa
