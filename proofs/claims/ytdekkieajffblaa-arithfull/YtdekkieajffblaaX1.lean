/-
  Walks, of the document's answer: right, Word, Of.
-/
import Derived.Test.YtdekkieajffblaaMath2
import Derived.Test.YtdekkieajffblaaProg
set_option linter.unusedVariables false
set_option linter.unusedSimpArgs false
namespace Go.Proofs.Ytdekkieajffblaa
open Go.RowKit

/-- Is a number a letter's? -/
def ltrB (n : Int) : Bool := decide (0 ≤ n) && decide (n ≤ 1114111) && (decide (n < 55296) || decide (57343 < n))
/-- Is what is said in its bounds? -/
def rightB (k n t : Int) : Bool :=
  if k = 1 then decide (-1152921504606846976 ≤ n) && decide (n < 1152921504606846976)
  else if k = 2 then decide (0 ≤ n) && decide (n ≤ 1099511627776)
  else if k = 3 then decide (0 ≤ n) && decide (n ≤ 5)
  else if k = 4 then decide (0 ≤ n) && decide (n < 1073741824) && ltrB n
  else if k = 5 ∨ k = 6 ∨ k = 7 then decide (0 ≤ n) && decide (n ≤ 1073741824)
  else if k = 8 then decide (1 ≤ t) && decide (t ≤ 255) && (decide (0 ≤ n) && decide (n ≤ 1099511627776))
  else false
/-- The word that says it, if it is in its bounds. -/
def wrdB (k n t : Int) : Int :=
  if k = 1 then (n * 8) % 18446744073709551616
  else if k = 2 then n * 8 + 1
  else if k = 3 then n * 8 + 2
  else if k = 8 then n * 2048 + t * 8 + 7
  else n * 256 + (k + 2) * 8 + 2
def wordR (k n t : Int) : Int := if rightB k n t then wrdB k n t else 0
/-- A word as a number with a sign. -/
def sgnW (w : Int) : Int := if w < 9223372036854775808 then w else w - 18446744073709551616
/-- What a word would say, if it were in its bounds. -/
def ofRaw (w : Int) : Int × Int × Int :=
  if w % 8 = 0 then (1, sgnW w / 8, 0)
  else if w % 8 = 1 then (2, w / 8, 0)
  else if w % 8 = 2 then
    (if w / 8 % 32 ≤ 5 ∧ w / 256 = 0 then (3, w / 8 % 32, 0)
     else if 6 ≤ w / 8 % 32 ∧ w / 8 % 32 ≤ 9 then (w / 8 % 32 - 2, w / 256, 0) else (0, 0, 0))
  else if w % 8 = 7 then (8, w / 2048, w / 8 % 256)
  else (0, 0, 0)
def ofR (w : Int) : Int × Int × Int := if rightB (ofRaw w).1 (ofRaw w).2.1 (ofRaw w).2.2 then ofRaw w else (0, 0, 0)
/-- A number of 64 bits without a sign. -/
def U64 (w : Int) : Prop := 0 ≤ w ∧ w < 18446744073709551616

theorem ltrB_rng {n : Int} (h : ltrB n = true) : 0 ≤ n ∧ n ≤ 1114111 := by
  unfold ltrB at h
  simp only [Bool.and_eq_true, Bool.or_eq_true, decide_eq_true_eq] at h
  omega
/-- What is right, kind by kind. -/
theorem right_cases {k n t : Int} (h : rightB k n t = true) :
    (k = 1 ∧ -1152921504606846976 ≤ n ∧ n < 1152921504606846976) ∨ (k = 2 ∧ 0 ≤ n ∧ n ≤ 1099511627776) ∨ (k = 3 ∧ 0 ≤ n ∧ n ≤ 5) ∨ (k = 4 ∧ 0 ≤ n ∧ n ≤ 1114111 ∧ ltrB n = true) ∨ ((k = 5 ∨ k = 6 ∨ k = 7) ∧ 0 ≤ n ∧ n ≤ 1073741824) ∨ (k = 8 ∧ 1 ≤ t ∧ t ≤ 255 ∧ 0 ≤ n ∧ n ≤ 1099511627776) := by
  unfold rightB at h
  split at h
  · simp only [Bool.and_eq_true, decide_eq_true_eq] at h; omega
  split at h
  · simp only [Bool.and_eq_true, decide_eq_true_eq] at h; omega
  split at h
  · simp only [Bool.and_eq_true, decide_eq_true_eq] at h; omega
  split at h
  · simp only [Bool.and_eq_true, decide_eq_true_eq] at h
    have := ltrB_rng h.2
    refine .inr (.inr (.inr (.inl ⟨by assumption, by omega, by omega, h.2⟩)))
  split at h
  · simp only [Bool.and_eq_true, decide_eq_true_eq] at h; omega
  split at h
  · simp only [Bool.and_eq_true, decide_eq_true_eq] at h; omega
  · cases h
theorem wrd_rng {k n t : Int} (h : rightB k n t = true) : U64 (wrdB k n t) := by
  unfold U64 wrdB
  rcases right_cases h with ⟨rfl, h1⟩ | ⟨rfl, h1⟩ | ⟨rfl, h1⟩ | ⟨rfl, h1⟩ | ⟨h0, h1⟩ | ⟨rfl, h1⟩
  · simp only [if_true]; omega
  · simp only [show (2 : Int) ≠ 1 from by decide, if_true, if_false]; omega
  · simp only [show (3 : Int) ≠ 1 from by decide, show (3 : Int) ≠ 2 from by decide, if_true, if_false]; omega
  · simp only [show (4 : Int) ≠ 1 from by decide, show (4 : Int) ≠ 2 from by decide, show (4 : Int) ≠ 3 from by decide, show (4 : Int) ≠ 8 from by decide, if_true, if_false]; omega
  · rw [if_neg (by omega), if_neg (by omega), if_neg (by omega), if_neg (by omega)]; omega
  · simp only [show (8 : Int) ≠ 1 from by decide, show (8 : Int) ≠ 2 from by decide, show (8 : Int) ≠ 3 from by decide, if_true, if_false]; omega
theorem wordR_rng (k n t : Int) : U64 (wordR k n t) := by
  unfold wordR
  split
  · exact wrd_rng (by assumption)
  · unfold U64; omega
/-- What was said is told again. -/
theorem raw_back {k n t : Int} (h : rightB k n t = true) : ofRaw (wrdB k n t) = (k, n, if k = 8 then t else 0) := by
  have hr := wrd_rng h
  unfold U64 wrdB at hr
  unfold ofRaw wrdB sgnW
  rcases right_cases h with ⟨rfl, h1, h2⟩ | ⟨rfl, h1, h2⟩ | ⟨rfl, h1, h2⟩ | ⟨rfl, h1, h2, h3⟩ | ⟨h0, h1, h2⟩ | ⟨rfl, h1, h2, h3, h4⟩
  · simp only [if_true] at hr ⊢
    obtain ⟨m, hm⟩ : ∃ m, m = n * 8 % 18446744073709551616 := ⟨_, rfl⟩
    rw [← hm] at hr ⊢
    rw [if_pos (by omega), if_neg (by decide : ¬ (1 : Int) = 8)]
    have e : (if m < 9223372036854775808 then m else m - 18446744073709551616) / 8 = n := by split <;> omega
    rw [e]
  · simp only [show (2 : Int) ≠ 1 from by decide, if_true, if_false]
    rw [if_neg (by omega), if_pos (by omega), if_neg (by decide)]
    congr 2; omega
  · simp only [show (3 : Int) ≠ 1 from by decide, show (3 : Int) ≠ 2 from by decide, if_true, if_false]
    rw [if_neg (by omega), if_neg (by omega), if_pos (by omega), if_pos (by omega), if_neg (by decide)]
    congr 2; omega
  · simp only [show (4 : Int) ≠ 1 from by decide, show (4 : Int) ≠ 2 from by decide, show (4 : Int) ≠ 3 from by decide, show (4 : Int) ≠ 8 from by decide, if_true, if_false]
    rw [if_neg (by omega), if_neg (by omega), if_pos (by omega), if_neg (by omega), if_pos (by omega)]
    have e1 : (n * 256 + (4 + 2) * 8 + 2) / 8 % 32 - 2 = 4 := by omega
    have e2 : (n * 256 + (4 + 2) * 8 + 2) / 256 = n := by omega
    rw [e1, e2]
  · rw [if_neg (by omega : ¬ k = 1), if_neg (by omega : ¬ k = 2), if_neg (by omega : ¬ k = 3), if_neg (by omega : ¬ k = 8), if_neg (by omega : ¬ k = 8)]
    rw [if_neg (by omega), if_neg (by omega), if_pos (by omega), if_neg (by omega), if_pos (by omega)]
    have e1 : (n * 256 + (k + 2) * 8 + 2) / 8 % 32 - 2 = k := by omega
    have e2 : (n * 256 + (k + 2) * 8 + 2) / 256 = n := by omega
    rw [e1, e2]
  · simp only [show (8 : Int) ≠ 1 from by decide, show (8 : Int) ≠ 2 from by decide, show (8 : Int) ≠ 3 from by decide, if_true, if_false]
    rw [if_neg (by omega), if_neg (by omega), if_neg (by omega), if_pos (by omega)]
    have e1 : (n * 2048 + t * 8 + 7) / 8 % 256 = t := by omega
    have e2 : (n * 2048 + t * 8 + 7) / 2048 = n := by omega
    rw [e1, e2]
theorem right_norm {k n t : Int} : rightB k n (if k = 8 then t else 0) = rightB k n t := by
  unfold rightB
  by_cases h : k = 8
  · simp only [if_pos h]
  · simp only [if_neg h]
theorem word_back {k n t : Int} (h : rightB k n t = true) : ofR (wordR k n t) = (k, n, if k = 8 then t else 0) := by
  unfold wordR ofR
  rw [if_pos h, raw_back h]
  simp only [right_norm, h, if_true]
theorem word_apart {k n t k' n' t' : Int} (h : rightB k n t = true) (h' : rightB k' n' t' = true) : (wordR k n t = wordR k' n' t') ↔ (k = k' ∧ n = n' ∧ (if k = 8 then t else 0) = (if k' = 8 then t' else 0)) := by
  constructor
  · intro e
    have := (word_back h).symm.trans ((congrArg ofR e).trans (word_back h'))
    simp only [Prod.mk.injEq] at this
    exact this
  · rintro ⟨rfl, rfl, e⟩
    unfold wordR
    rw [h, h']
    unfold wrdB
    by_cases h8 : k = 8
    · rw [if_pos h8, if_pos h8] at e; rw [e]
    · simp only [if_neg h8]
/-- The kinds of what a word says. -/
theorem ofR_right {w : Int} : ofR w = (0, 0, 0) ∨ rightB (ofR w).1 (ofR w).2.1 (ofR w).2.2 = true := by
  unfold ofR
  split
  · right; assumption
  · left; rfl
end Go.Proofs.Ytdekkieajffblaa

set_option linter.unusedVariables false
set_option linter.unusedSimpArgs false
set_option maxRecDepth 100000
namespace Go.Proofs.Ytdekkieajffblaa
open Go.RowKit

/-- A number of 64 bits with a sign. -/
def Z64 (n : Int) : Prop := -9223372036854775808 ≤ n ∧ n ≤ 9223372036854775807
def SVal (k n t : Int) : Value := .agg #[.int .i64 k, .int .i64 n, .int .i64 t]

/-- Three cells are stored. -/
theorem store3 {w : World} {g : Nat} {a b c v1 v2 v3 : Value} {t : TypeId} (h : w.heap[g]? = some (.cells #[a, b, c] t (0, 0))) : (((w.setCell ⟨g, 0, none⟩ v1).setCell ⟨g, 1, none⟩ v2).setCell ⟨g, 2, none⟩ v3).heap[g]? = some (.cells #[v1, v2, v3] t (0, 0)) := by
  have h1 := blk_set (i := 0) h v1
  have h2 := blk_set (i := 1) h1 v2
  have h3 := blk_set (i := 2) h2 v3
  rw [h3]; rfl
theorem store3_below {n : Nat} {w0 w : World} {g : Nat} {v1 v2 v3 : Value} (h : Below n w0 w) (hg : n ≤ g) : Below n w0 (((w.setCell ⟨g, 0, none⟩ v1).setCell ⟨g, 1, none⟩ v2).setCell ⟨g, 2, none⟩ v3) :=
  ((h.setCell (p := ⟨g, 0, none⟩) hg _).setCell (p := ⟨g, 1, none⟩) hg _).setCell (p := ⟨g, 2, none⟩) hg _
end Go.Proofs.Ytdekkieajffblaa
