/-
  Mathematics of what lives, and where it goes.
-/
import Derived.Test.YthgkonjglappjabVM
set_option linter.unusedVariables false
set_option linter.unusedSimpArgs false
namespace Go.Proofs.Ythgkonjglappjab
open Go.RowKit

/-- An object lives. -/
inductive Lv (os : List Ob) (rs : List Int) : Nat → Prop
  | root {r : Int} {i : Nat} : r ∈ rs → findM os r = some i → Lv os rs i
  | step {i j : Nat} {z : Int} : Lv os rs i → z ∈ (os.getD i default).f → findM os z = some j → Lv os rs j
open Classical in
noncomputable def lvB (os : List Ob) (rs : List Int) (i : Nat) : Bool := decide (Lv os rs i)
noncomputable def lvL (os : List Ob) (rs : List Int) : List Bool := (List.range os.length).map (lvB os rs)
theorem lvB_iff {os : List Ob} {rs : List Int} {i : Nat} : lvB os rs i = true ↔ Lv os rs i := by unfold lvB; simp
theorem Lv.lt {os : List Ob} {rs : List Int} {i : Nat} (h : Lv os rs i) : i < os.length := by
  cases h with
  | root _ h => exact (findM_lt h).1
  | step _ _ h => exact (findM_lt h).1
theorem lvL_length (os : List Ob) (rs : List Int) : (lvL os rs).length = os.length := by unfold lvL; simp
theorem lvL_get {os : List Ob} {rs : List Int} {i : Nat} (h : i < os.length) : (lvL os rs).getD i false = lvB os rs i := by
  unfold lvL; rw [List.getD_eq_getElem?_getD, List.getElem?_map, List.getElem?_range h]; rfl
theorem lvL_iff {os : List Ob} {rs : List Int} {i : Nat} : (lvL os rs).getD i false = true ↔ Lv os rs i := by
  by_cases h : i < os.length
  · rw [lvL_get h, lvB_iff]
  · constructor
    · intro e
      rw [List.getD_eq_getElem?_getD, List.getElem?_eq_none (by rw [lvL_length]; omega)] at e; cases e
    · intro e; exact absurd e.lt h
/-- What is sound, has the roots and is closed is what lives. -/
theorem lv_all {os : List Ob} {rs : List Int} {l : List Bool} (hl : l.length = os.length) (hs : ∀ i, l.getD i false = true → Lv os rs i) (hr : ∀ r ∈ rs, ∀ i, findM os r = some i → l.getD i false = true)
    (hc : ∀ i, l.getD i false = true → ∀ z ∈ (os.getD i default).f, ∀ j, findM os z = some j → l.getD j false = true) : l = lvL os rs := by
  have key : ∀ i, Lv os rs i → l.getD i false = true := fun i h => by
    induction h with
    | root h1 h2 => exact hr _ h1 _ h2
    | step h1 h2 h3 ih => exact hc _ ih _ h2 _ h3
  apply List.ext_getElem?
  intro i
  by_cases h : i < os.length
  · have e : l.getD i false = (lvL os rs).getD i false := by
      cases e1 : l.getD i false
      · cases e2 : (lvL os rs).getD i false
        · rfl
        · have := key i (lvL_iff.1 e2); rw [e1] at this; cases this
      · rw [lvL_iff.2 (hs i e1)]
    rw [List.getD_eq_getElem?_getD, List.getD_eq_getElem?_getD, List.getElem?_eq_getElem (by omega), List.getElem?_eq_getElem (by rw [lvL_length]; omega)] at e
    rw [List.getElem?_eq_getElem (by omega), List.getElem?_eq_getElem (by rw [lvL_length]; omega)]
    simpa using e
  · rw [List.getElem?_eq_none (by omega), List.getElem?_eq_none (by rw [lvL_length]; omega)]

/-- What is kept. -/
def keepL : List Ob → List Bool → List Ob
  | x :: os, b :: l => if b then x :: keepL os l else keepL os l
  | _, _ => []
theorem keepL_append : ∀ (a : List Ob) (l : List Bool) (b : List Ob) (m : List Bool), a.length = l.length → keepL (a ++ b) (l ++ m) = keepL a l ++ keepL b m
  | [], [], b, m, _ => rfl
  | [], _ :: _, _, _, h => by simp at h
  | _ :: _, [], _, _, h => by simp at h
  | x :: a, c :: l, b, m, h => by
    have ih := keepL_append a l b m (by simpa using h)
    cases c <;> simp [keepL, ih]
def toM (os : List Ob) (l : List Bool) (i : Nat) : Nat := usedL (keepL (os.take i) (l.take i))
theorem toM_zero (os : List Ob) (l : List Bool) : toM os l 0 = 0 := by simp [toM, keepL, usedL]
theorem keep_succ {os : List Ob} {l : List Bool} {i : Nat} (h : i < os.length) (hl : l.length = os.length) : keepL (os.take (i + 1)) (l.take (i + 1)) = keepL (os.take i) (l.take i) ++ (if l.getD i false then [os.getD i default] else []) := by
  rw [List.take_succ_eq_append_getElem h, List.take_succ_eq_append_getElem (by omega), keepL_append _ _ _ _ (by rw [List.length_take, List.length_take]; omega)]
  congr 1
  rw [List.getD_eq_getElem?_getD, List.getD_eq_getElem?_getD, List.getElem?_eq_getElem h, List.getElem?_eq_getElem (by omega)]
  simp only [Option.getD_some, keepL]
theorem toM_succ {os : List Ob} {l : List Bool} {i : Nat} (h : i < os.length) (hl : l.length = os.length) : toM os l (i + 1) = toM os l i + (if l.getD i false then 1 + (os.getD i default).f.length else 0) := by
  unfold toM
  rw [keep_succ h hl, usedL_append]
  split <;> simp [usedL]
theorem keep_all (os : List Ob) (l : List Bool) (hl : l.length = os.length) : keepL (os.take os.length) (l.take os.length) = keepL os l := by
  rw [List.take_length, List.take_of_length_le (by omega)]
theorem toM_le {os : List Ob} {l : List Bool} (hl : l.length = os.length) {i : Nat} (h : i ≤ os.length) : toM os l i ≤ atO os i := by
  induction i with
  | zero => rw [toM_zero]; exact Nat.zero_le _
  | succ i ih =>
    rw [toM_succ (by omega) hl, at_succ (by omega)]
    have := ih (by omega)
    split <;> omega
/-- Where a word goes. -/
def movedM (os : List Ob) (l : List Bool) (z : Int) : Int :=
  match findM os z with
  | some k => if l.getD k false then wordR 2 (toM os l k : Nat) 0 else z
  | none => z
def movOb (os : List Ob) (l : List Bool) (x : Ob) : Ob := { x with f := x.f.map (movedM os l) }
def collO (os : List Ob) (l : List Bool) : List Ob := (keepL os l).map (movOb os l)
def collR (os : List Ob) (l : List Bool) (rs : List Int) : List Int := rs.map (movedM os l)
theorem moved_u64 {os : List Ob} {l : List Bool} {z : Int} (h : U64 z) : U64 (movedM os l z) := by
  unfold movedM
  split
  · split
    · exact wordR_rng _ _ _
    · exact h
  · exact h
theorem used_map {os : List Ob} {g : Ob → Ob} (h : ∀ x, (g x).f.length = x.f.length) : usedL (os.map g) = usedL os := by
  induction os with
  | nil => rfl
  | cons x l ih => simp only [List.map_cons, usedL, ih, h]
theorem coll_used (os : List Ob) (l : List Bool) : usedL (collO os l) = usedL (keepL os l) := used_map (fun x => by simp [movOb])
theorem keep_mem : ∀ {os : List Ob} {l : List Bool} {x : Ob}, x ∈ keepL os l → x ∈ os
  | [], _, _, h => by simp [keepL] at h
  | _ :: _, [], _, h => by simp [keepL] at h
  | y :: os, b :: l, x, h => by
    cases b
    · simp only [keepL] at h; exact List.mem_cons_of_mem _ (keep_mem h)
    · simp only [keepL, if_true] at h
      rcases List.mem_cons.1 h with rfl | h
      · exact List.mem_cons_self
      · exact List.mem_cons_of_mem _ (keep_mem h)
theorem moved_head {os : List Ob} {l : List Bool} (hu : usedL os ≤ 1099511627776) (hl : l.length = os.length) {z : Int} (h : isHd z = false) : isHd (movedM os l z) = false := by
  unfold movedM
  split
  · rename_i k hk
    have hk' := findM_lt hk
    split
    · have h1 := toM_le hl (i := k) (by omega)
      have h2 := at_lt hk'.1
      unfold isHd
      rw [ptr_of (by omega)]; rfl
    · exact h
  · exact h
theorem coll_ok {os : List Ob} {l : List Bool} (ho : OsOk os) (hu : usedL os ≤ 1099511627776) (hl : l.length = os.length) : OsOk (collO os l) := by
  unfold collO
  refine ⟨fun x hx => ?_, fun x hx z hz => ?_, fun x hx z hz => ?_⟩ <;> obtain ⟨y, hy, rfl⟩ := List.mem_map.1 hx
  · exact ho.kd y (keep_mem hy)
  · simp only [movOb] at hz
    obtain ⟨z', hz', rfl⟩ := List.mem_map.1 hz
    exact moved_u64 (ho.uf y (keep_mem hy) z' hz')
  · simp only [movOb] at hz
    obtain ⟨z', hz', rfl⟩ := List.mem_map.1 hz
    exact moved_head hu hl (ho.nh y (keep_mem hy) z' hz')
/-- How many are false. -/
def cntB (l : List Bool) : Nat := (l.filter (fun b => !b)).length
theorem cnt_set : ∀ {l : List Bool} {i : Nat}, i < l.length → l.getD i false = false → cntB (l.set i true) + 1 = cntB l
  | [], _, h, _ => by simp at h
  | b :: l, 0, _, h => by
    have : b = false := h
    subst this
    simp [cntB]
  | b :: l, i + 1, h, h2 => by
    have ih := cnt_set (l := l) (i := i) (by simpa using h) (by simpa using h2)
    unfold cntB at *
    cases b <;> simp_all
theorem set_get_b {l : List Bool} {i j : Nat} (h : i < l.length) : (l.set i true).getD j false = if i = j then true else l.getD j false := by
  rw [List.getD_eq_getElem?_getD, List.getD_eq_getElem?_getD, List.getElem?_set]
  split
  · rename_i e; subst e; simp [h]
  · rfl
end Go.Proofs.Ythgkonjglappjab
