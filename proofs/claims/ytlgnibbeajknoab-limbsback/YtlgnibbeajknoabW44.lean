/-
  What is printed is read: texts of digits.
-/
import Derived.Test.YtlgnibbeajknoabW43
import Derived.Test.YtlgnibbeajknoabW13
set_option linter.unusedVariables false
set_option linter.unusedSimpArgs false
namespace Go.Proofs.Ytlgnibbeajknoab
open Go.RowKit

theorem dgt_chr {d : Nat} (h : d < 36) : dgt (chr d) = d := by
  unfold dgt chr
  by_cases h1 : d < 10
  · rw [if_pos h1, if_pos (by omega)]; omega
  · rw [if_neg h1, if_neg (by omega), if_pos (by omega)]; omega
theorem hv_rev (radix : Nat) : ∀ {D : List Nat}, (∀ x ∈ D, x < 36) → hv radix ((D.map chr).reverse) = val radix D
  | [], _ => rfl
  | d :: D, h => by
    rw [List.map_cons, List.reverse_cons, hv_snoc, hv_rev radix (fun x hx => h x (by simp [hx])), dgt_chr (h d (by simp)), val_cons, Nat.mul_comm]
    omega
theorem hv_zeros (radix k : Nat) : hv radix (List.replicate k 48) = 0 := by
  induction k with
  | zero => rfl
  | succ k ih => rw [List.replicate_succ', hv_snoc, ih]; simp [dgt]
theorem hv_append (radix : Nat) (a b : List Nat) (h : hv radix a = 0) : hv radix (a ++ b) = hv radix b := by
  unfold hv at *
  rw [List.foldl_append, h]
/-- The digits of a text without its sign. -/
def body (D : List Nat) : List Nat := if D = [] then [48] else (D.map chr).reverse
theorem body_val {radix : Nat} {D : List Nat} (h : Dg radix D) (hr : radix ≤ 36) : hv radix (body D) = val radix D := by
  unfold body
  by_cases hD : D = []
  · subst hD; simp [hv, dgt, val]
  · rw [if_neg hD]; exact hv_rev radix (fun x hx => by have := h x hx; omega)
theorem body_digits {radix : Nat} {D : List Nat} (h : Dg radix D) (h2 : 2 ≤ radix) (hr : radix ≤ 36) : ∀ c ∈ body D, dgt c < radix := by
  unfold body
  by_cases hD : D = []
  · subst hD
    intro c hc
    simp at hc
    subst hc
    simp [dgt]; omega
  · rw [if_neg hD]
    intro c hc
    rw [List.mem_reverse] at hc
    obtain ⟨d, hd, rfl⟩ := List.mem_map.1 hc
    have := h d hd
    rw [dgt_chr (by omega)]; exact this
theorem body_ne (D : List Nat) : body D ≠ [] := by
  unfold body
  by_cases hD : D = []
  · simp [hD]
  · simp [hD]
theorem zeros_body {radix : Nat} {D : List Nat} (h : Dg radix D) (h2 : 2 ≤ radix) (hr : radix ≤ 36) (k : Nat) :
    digitsB (radix : Int) (List.replicate k 48 ++ body D) = true ∧ hv radix (List.replicate k 48 ++ body D) = val radix D := by
  refine ⟨?_, by rw [hv_append _ _ _ (hv_zeros radix k), body_val h hr]⟩
  unfold digitsB
  rw [Bool.and_eq_true]
  refine ⟨?_, by simp; exact Or.inr (body_ne D)⟩
  rw [List.all_eq_true]
  intro c hc
  rcases List.mem_append.1 hc with hc | hc
  · have := List.eq_of_mem_replicate hc
    subst this
    simp [dgt]; omega
  · have := body_digits h h2 hr c hc
    simp; exact this
theorem cutS_sg {l : List Nat} {c : Nat} {r : List Nat} (h : l = c :: r) (hc : c = 43 ∨ c = 45) : cutS l = (decide (c = 45), r) := by
  subst h; simp [cutS, hc]
theorem cutS_none {radix : Nat} {l : List Nat} (h : ∀ c ∈ l, dgt c < radix) (hr : radix ≤ 36) : cutS l = (false, l) := by
  cases l with
  | nil => rfl
  | cons c r =>
    have hc := h c (by simp)
    have : ¬ (c = 43 ∨ c = 45) := by
      rintro (rfl | rfl) <;> simp [dgt] at hc <;> omega
    simp [cutS, this]
/-- What Parse answers of a text of digits that say v. -/
theorem parse_ok (s : ByteArray) (rx : Nat) (w : World) (hs : s.size ≤ maxLen) (h2 : 2 ≤ rx) (hr : rx ≤ 36) {sg : Bool} {t : List Nat} {v : Nat} (hc : cutS (bs s) = (sg, t)) (hd : digitsB (rx : Int) t = true) (hv_ : hv rx t = v) (hb : ¬ Big v) :
    Calls Try.prog 19 #[.string s, .int .i64 rx] w fun e w' => ∃ x, e = .returned (.tuple #[x, .int .i64 0]) ∧ IsInt w' x (sgn sg v) ∧ Below w.heap.size w w' := by
  refine (parse_any s rx w hs).mono fun e w' ⟨x, en, h1, h3, h4⟩ => ?_
  rw [hc] at h4
  rcases h4 with ⟨a, _⟩ | ⟨_, b, _⟩ | ⟨_, _, a⟩
  · exact absurd ⟨by omega, by omega⟩ a
  · rw [hd] at b; cases b
  · have e1 : hv (rx : Int).toNat t = v := hv_
    simp only [e1] at a
    rcases a with ⟨b1, b2, l, b3, b4, b5⟩ | ⟨b1, _⟩
    · subst b2
      refine ⟨x, h1, ?_, h3⟩
      rw [← b5] at b1 ⊢
      exact is_mk b3 b4 b1
    · exact absurd b1 hb

theorem len_bound {radix : Nat} {D : List Nat} {v : Nat} (h2 : 2 ≤ radix) (ht : Tr D) (hv_ : val radix D = v) (hb : ¬ Big v) : D.length ≤ 1280 := by
  by_cases hD : D = []
  · subst hD; simp
  · have h1 := ht.pos (B := radix) (by omega) hD
    have h3 : 2 ^ (D.length - 1) ≤ radix ^ (D.length - 1) := Nat.pow_le_pow_left h2 _
    unfold Big at hb
    have h4 : 2 ^ (D.length - 1) < B32 ^ 40 := by omega
    rw [show B32 = 2 ^ 32 from rfl, ← Nat.pow_mul] at h4
    have h5 := (Nat.pow_lt_pow_iff_right (a := 2) (by decide)).1 h4
    omega
/-- The text that Print answers. -/
theorem Printed.text {neg : Bool} {l : List Nat} {rx : Nat} {s : ByteArray} {en : Int} (h : Printed neg (val B32 l) (rx : Int) s en) (hg : goodB neg l = true) (h2 : 2 ≤ rx) (hr : rx ≤ 36) :
    en = 0 ∧ ∃ D, Dg rx D ∧ Tr D ∧ val rx D = val B32 l ∧ bs s = (if neg then [45] else []) ++ body D := by
  rcases h with ⟨a, _⟩ | ⟨_, b, D, d1, d2, d3, d4⟩
  · exact absurd ⟨by omega, by omega⟩ a
  · refine ⟨b, D, d1, d2, d3, ?_⟩
    rw [d4]
    unfold body
    by_cases hD : D = []
    · subst hD
      have : l = [] := (goodB_tr hg).zero (B := B32) (by decide) d3.symm
      subst this
      have := goodB_neg hg rfl
      subst this
      rfl
    · rw [if_neg hD, if_neg hD]
theorem small_good {neg : Bool} {l : List Nat} (hd : Dg B32 l) (hg : goodB neg l = true) : ¬ Big (val B32 l) := by
  unfold Big
  have h1 := val_lt hd
  have h2 : B32 ^ l.length ≤ B32 ^ 40 := Nat.pow_le_pow_right (by decide) (goodB_len hg)
  omega

end Go.Proofs.Ytlgnibbeajknoab
