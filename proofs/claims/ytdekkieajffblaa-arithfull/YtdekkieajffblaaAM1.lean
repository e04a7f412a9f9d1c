/-
  Mathematics of integers that lie in a heap.
-/
import Derived.Test.YtdekkieajffblaaV8
import Derived.Test.YtdekkieajffblaaVM
import Derived.Test.YtdekkieajffblaaV9
import Derived.Test.YtdekkieajffblaaX3
import Derived.Test.YtdekkieajffblaaAB1
set_option linter.unusedVariables false
set_option linter.unusedSimpArgs false
set_option maxRecDepth 100000
namespace Go.Proofs.Ytdekkieajffblaa
open Go.RowKit

/-- An integer's object. -/
def bigO (z : Int) : Ob := ⟨5, bigL (decide (z < 0)) (mg z.natAbs)⟩
/-- All objects are integers out of Fix's bounds. -/
def AllBig (os : List Ob) : Prop := ∀ x ∈ os, ∃ z, x = bigO z ∧ fixB z = false ∧ ¬ Big z.natAbs
def intL (f : List Int) : Int := sgn (numNeg f) (val B32 (numMag f))
/-- The number that a word is. -/
def numM (os : List Ob) (p : Int) : Option Int := if isR 1 p = true then some (hasR 1 p) else (findM os p).map (fun k => intL (os.getD k default).f)
def layM (os : List Ob) (N z : Int) : Int × Int := if fixB z = true then (wordR 1 z 0, 0) else allocM os N 5 (bigL (decide (z < 0)) (mg z.natAbs))
def layO (os : List Ob) (N z : Int) : List Ob := if fixB z = true then os else allocO os N 5 (bigL (decide (z < 0)) (mg z.natAbs))
theorem say_fix {x : Int} (h : fixB x = true) : ofR (wordR 1 x 0) = (1, x, 0) := by
  have := word_back (k := 1) (n := x) (t := 0) h
  rw [this]; rfl
theorem fixB_limb {x : Nat} (h : x < 4294967296) : fixB (x : Int) = true := by
  unfold fixB
  rw [Bool.and_eq_true, decide_eq_true_eq, decide_eq_true_eq]; omega
theorem say_both {x : Int} (h : fixB x = true) : nK (wordR 1 x 0) = 1 ∧ nN (wordR 1 x 0) = x := by
  unfold nK nN
  rw [say_fix h]
  exact ⟨rfl, rfl⟩
theorem say_limb {x : Nat} (h : x < B32) : nK (wordR 1 (x : Int) 0) = 1 ∧ nN (wordR 1 (x : Int) 0) = (x : Int) := say_both (fixB_limb h)
theorem mg_ok (v : Nat) : Dg B32 (mg v) ∧ Tr (mg v) ∧ val B32 (mg v) = v := by
  obtain ⟨m1, m2, m3, _⟩ := mgF_ok v v (Nat.le_refl _)
  exact ⟨m1, m2, m3⟩
theorem mg_len40 {v : Nat} (h : ¬ Big v) : (mg v).length ≤ 40 := by
  obtain ⟨m1, m2, m3⟩ := mg_ok v
  exact (small_len m1 m2).2 (by rw [m3]; exact h)
theorem sgn_abs (z : Int) : sgn (decide (z < 0)) z.natAbs = z := by
  unfold sgn
  by_cases e : z < 0
  · rw [decide_eq_true e, if_pos rfl]; omega
  · rw [decide_eq_false e, if_neg (by decide)]; omega
theorem mag_map : ∀ {l : List Nat}, Dg B32 l → (l.map (fun x => wordR 1 (x : Nat) 0)).map (fun y => (nN y).toNat) = l
  | [], _ => rfl
  | x :: l, h => by
    have h1 := (say_limb (h x (List.mem_cons_self))).2
    rw [List.map_cons, List.map_cons, h1, Int.toNat_natCast, mag_map (fun y hy => h y (List.mem_cons_of_mem _ hy))]
theorem good_mg {z : Int} (h : ¬ Big z.natAbs) : goodB (decide (z < 0)) (mg z.natAbs) = true := by
  obtain ⟨m1, m2, m3⟩ := mg_ok z.natAbs
  refine goodB_mk m2 (mg_len40 h) (fun e => ?_)
  have e0 := List.length_eq_zero_iff.1 e
  rw [e0] at m3
  refine decide_eq_false ?_
  have : z.natAbs = 0 := m3.symm
  omega
theorem big_sign (z : Int) : nK (wordR 1 (if decide (z < 0) = true then 1 else 0) 0) = 1 ∧ nN (wordR 1 (if decide (z < 0) = true then 1 else 0) 0) = if decide (z < 0) = true then 1 else 0 := by
  split
  · exact say_limb (x := 1) (by decide)
  · exact say_limb (x := 0) (by decide)
theorem big_mag (z : Int) : numMag (bigL (decide (z < 0)) (mg z.natAbs)) = mg z.natAbs := by
  unfold numMag bigL
  rw [List.drop_one, List.tail_cons]
  exact mag_map (mg_ok _).1
theorem big_neg (z : Int) : numNeg (bigL (decide (z < 0)) (mg z.natAbs)) = decide (z < 0) := by
  unfold numNeg bigL
  show decide (nN (wordR 1 (if decide (z < 0) = true then 1 else 0) 0) = 1) = _
  rw [(big_sign z).2]
  cases decide (z < 0) <;> rfl
theorem big_intL (z : Int) : intL (bigL (decide (z < 0)) (mg z.natAbs)) = z := by
  unfold intL
  rw [big_mag, big_neg, (mg_ok _).2.2, sgn_abs]
theorem big_limbs (z : Int) : (bigL (decide (z < 0)) (mg z.natAbs)).all limbB = true := by
  rw [List.all_eq_true]
  intro y hy
  unfold bigL at hy
  rcases List.mem_cons.1 hy with rfl | hy
  · unfold limbB
    rw [(big_sign z).1, (big_sign z).2]
    cases decide (z < 0) <;> rfl
  · obtain ⟨x, hx, rfl⟩ := List.mem_map.1 hy
    have hxb := (mg_ok z.natAbs).1 x hx
    unfold limbB
    rw [(say_limb hxb).1, (say_limb hxb).2]
    unfold B32 at hxb
    rw [decide_eq_true (show (0 : Int) ≤ (x : Int) by omega), decide_eq_true (show (x : Int) < 4294967296 by omega)]; rfl
theorem big_is {z : Int} (hf : fixB z = false) (hb : ¬ Big z.natAbs) : bigB (bigL (decide (z < 0)) (mg z.natAbs)) = true := by
  unfold bigB
  have e := big_intL z
  unfold intL at e
  rw [e, big_neg, big_mag, good_mg hb, hf, big_limbs]
  have a1 : 0 < (bigL (decide (z < 0)) (mg z.natAbs)).length := by rw [bigL_len]; omega
  have a3 : nN ((bigL (decide (z < 0)) (mg z.natAbs)).getD 0 0) ≤ 1 := by
    show nN (wordR 1 (if decide (z < 0) = true then 1 else 0) 0) ≤ 1
    rw [(big_sign z).2]; split <;> omega
  rw [decide_eq_true a1, decide_eq_true a3]; rfl
theorem big_nohead (z : Int) : (bigL (decide (z < 0)) (mg z.natAbs)).any isHd = false := by
  rw [List.any_eq_false]
  intro y hy h
  have := List.all_eq_true.1 (big_limbs z) y hy
  unfold limbB nK at this
  unfold isHd at h
  simp only [Bool.and_eq_true, decide_eq_true_eq] at this h
  rw [this.1] at h
  exact absurd h (by decide)
theorem big_need {z : Int} (hf : fixB z = false) : needZ z = 1 + ((bigL (decide (z < 0)) (mg z.natAbs)).length : Nat) := by
  unfold needZ
  rw [hf, bigL_len]; simp; omega
theorem layM_is (os : List Ob) (N z : Int) : layM os N z = if fixB z = true then (wordR 1 z 0, 0) else if N - (usedL os : Nat) < needZ z then (0, 3) else (wordR 2 (usedL os : Nat) 0, 0) := by
  unfold layM
  cases hf : fixB z
  · unfold allocM
    rw [big_nohead, big_need hf]
    simp
  · rfl
theorem layO_is (os : List Ob) (N z : Int) : layO os N z = if fixB z = true then os else if N - (usedL os : Nat) < needZ z then os else os ++ [bigO z] := by
  have h := layM_is os N z
  unfold layM at h
  unfold layO
  cases hf : fixB z
  · rw [hf] at h
    simp only [Bool.false_eq_true, if_false] at h ⊢
    unfold allocO
    rw [h]
    split
    · simp
    · simp [bigO]
  · rfl
theorem layO_all {os : List Ob} (h : AllBig os) (N : Int) {z : Int} (hb : ¬ Big z.natAbs) : AllBig (layO os N z) := by
  rw [layO_is]
  cases hf : fixB z
  · simp only [Bool.false_eq_true, if_false]
    split
    · exact h
    · intro x hx
      rcases List.mem_append.1 hx with hx | hx
      · exact h x hx
      · rw [List.mem_singleton] at hx
        exact ⟨z, hx, hf, hb⟩
  · exact h
theorem layO_ok {os : List Ob} (h : OsOk os) (N z : Int) : OsOk (layO os N z) := by
  unfold layO
  split
  · exact h
  · exact alloc_ok h (bigL_u _ _)
theorem layM_err {os : List Ob} {N z : Int} (h : (layM os N z).2 ≠ 0) : layO os N z = os := by
  rw [layM_is] at h
  rw [layO_is]
  split
  · rfl
  · rename_i h1
    rw [if_neg h1] at h
    split
    · rfl
    · rename_i h2
      rw [if_neg h2] at h
      exact absurd rfl h
theorem need_nn (z : Int) : 0 ≤ needZ z := by unfold needZ; split <;> omega
theorem lay_used (os : List Ob) (N z : Int) (h : (layM os N z).2 = 0) : ((usedL (layO os N z) : Nat) : Int) = (usedL os : Nat) + needZ z := by
  rw [layM_is] at h
  rw [layO_is]
  split
  · rename_i h1
    unfold needZ; rw [if_pos h1]; omega
  · rename_i h1
    rw [if_neg h1] at h
    split
    · rename_i h2
      rw [if_pos h2] at h; cases h
    · have hf : fixB z = false := by simpa using h1
      rw [usedL_append, big_need hf]
      unfold bigO
      simp [usedL]
theorem numM_lay {os : List Ob} {N z : Int} (hN : N ≤ 4194304) (h : (layM os N z).2 = 0) : numM (layO os N z) (layM os N z).1 = some z := by
  have hu := lay_used os N z h
  rw [layM_is] at h ⊢
  rw [layO_is] at hu ⊢
  cases hf : fixB z
  · rw [hf] at h hu
    simp only [Bool.false_eq_true, if_false] at h hu ⊢
    by_cases h2 : N - (usedL os : Nat) < needZ z
    · rw [if_pos h2] at h; cases h
    · rw [if_neg h2] at h hu
      simp only [if_neg h2]
      have hn := need_nn z
      have hp : ofR (wordR 2 ((usedL os : Nat) : Int) 0) = (2, ((usedL os : Nat) : Int), 0) := by
        have := word_back (k := 2) (n := ((usedL os : Nat) : Int)) (t := 0) (by unfold rightB; simp; omega)
        rw [this]; rfl
      have hat : atO (os ++ [bigO z]) os.length = usedL os := by unfold atO; rw [List.take_left]
      have hfd := find_ptr (os := os ++ [bigO z]) (k := os.length) (by simp) (by omega)
      rw [hat] at hfd
      unfold numM isR
      rw [hp, if_neg (by simp), hfd]
      have hg : (os ++ [bigO z]).getD os.length default = bigO z := by
        rw [List.getD_eq_getElem?_getD, List.getElem?_append_right (Nat.le_refl _), Nat.sub_self]; rfl
      rw [Option.map_some, hg]
      show some (intL (bigL (decide (z < 0)) (mg z.natAbs))) = _
      rw [big_intL]
  · have hp := say_fix hf
    rw [if_pos rfl, if_pos rfl]
    unfold numM isR hasR
    simp only
    rw [hp, if_pos (by simp), if_pos rfl]
/-- What a word that is a number has: it is not too big. -/
theorem numM_small {os : List Ob} (h : AllBig os) {p z : Int} (hz : numM os p = some z) : ¬ Big z.natAbs := by
  unfold numM at hz
  split at hz
  · rename_i h1
    have e : z = hasR 1 p := (Option.some.inj hz).symm
    have hb : fixB z = true := by
      unfold isR at h1
      have h1' := of_decide_eq_true h1
      rw [e]
      unfold hasR
      rw [if_pos h1']
      rcases ofR_right (w := p) with h | h
      · rw [h] at h1'; cases h1'
      · rw [h1'] at h; exact h
    unfold fixB at hb
    simp only [Bool.and_eq_true, decide_eq_true_eq] at hb
    exact not_big_64 _ (by omega)
  · cases hf : findM os p with
    | none => rw [hf] at hz; cases hz
    | some k =>
      rw [hf] at hz
      have e : intL (os.getD k default).f = z := Option.some.inj hz
      have hk := (findM_lt hf).1
      obtain ⟨y, h1, h2, h3⟩ := h (os.getD k default) (by rw [List.getD_eq_getElem?_getD, List.getElem?_eq_getElem hk]; exact List.getElem_mem _)
      rw [h1] at e
      rw [← e]
      show ¬ Big (intL (bigL (decide (y < 0)) (mg y.natAbs))).natAbs
      rw [big_intL]; exact h3
end Go.Proofs.Ytdekkieajffblaa
