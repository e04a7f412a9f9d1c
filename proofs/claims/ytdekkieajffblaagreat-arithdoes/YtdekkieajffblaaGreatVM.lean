/-
  Mathematics of objects one behind the other.
-/
import Derived.Test.YtdekkieajffblaaGreatV8
set_option linter.unusedVariables false
set_option linter.unusedSimpArgs false
namespace Go.Proofs.YtdekkieajffblaaGreat
open Go.RowKit

/-- Objects as a heap has them: no field is a head. -/
structure OsOk (os : List Ob) : Prop where
  kd : ∀ x ∈ os, 1 ≤ x.kind ∧ x.kind ≤ 22
  uf : ∀ x ∈ os, ∀ z ∈ x.f, U64 z
  nh : ∀ x ∈ os, ∀ z ∈ x.f, isHd z = false
def kindM (os : List Ob) (p : Int) : Int × Int := match findM os p with | none => (0, 70) | some n => ((os.getD n default).kind, 0)
def sizeM (os : List Ob) (p : Int) : Int × Int := match findM os p with | none => (0, 70) | some n => ((os.getD n default).f.length, 0)
def ptrsL (os : List Ob) : List Int := (List.range os.length).map (fun i => wordR 2 (atO os i : Nat) 0)

/-- What counts for places. -/
def sh (x : Ob) : Int × Nat := (x.kind, x.f.length)
theorem sh_used : ∀ {a b : List Ob}, a.map sh = b.map sh → usedL a = usedL b
  | [], [], _ => rfl
  | [], _ :: _, h => by cases h
  | _ :: _, [], h => by cases h
  | x :: a, y :: b, h => by
    simp only [List.map_cons, List.cons.injEq] at h
    have h1 : x.f.length = y.f.length := congrArg Prod.snd h.1
    simp only [usedL, sh_used h.2, h1]
theorem sh_len {a b : List Ob} (h : a.map sh = b.map sh) : a.length = b.length := by
  have := congrArg List.length h; simpa using this
theorem sh_at {a b : List Ob} (h : a.map sh = b.map sh) (i : Nat) : atO a i = atO b i := by
  unfold atO; exact sh_used (by rw [List.map_take, List.map_take, h])
theorem sh_fnd {a b : List Ob} (h : a.map sh = b.map sh) (n : Int) (i : Nat) : fnd a n i = fnd b n i := by
  induction hk : a.length - i generalizing i with
  | zero =>
    have := sh_len h
    have e1 : fnd a n i = none := by rw [fnd, if_neg (by omega)]
    have e2 : fnd b n i = none := by rw [fnd, if_neg (by omega)]
    rw [e1, e2]
  | succ k ih =>
    have := sh_len h
    have e1 : fnd a n i = if (atO a i : Int) = n then some i else fnd a n (i + 1) := by rw [fnd, if_pos (by omega)]
    have e2 : fnd b n i = if (atO b i : Int) = n then some i else fnd b n (i + 1) := by rw [fnd, if_pos (by omega)]
    rw [e1, e2, sh_at h, ih (i + 1) (by omega)]
theorem sh_find {a b : List Ob} (h : a.map sh = b.map sh) (p : Int) : findM a p = findM b p := by
  unfold findM; rw [sh_fnd h]
theorem sh_get {a b : List Ob} (h : a.map sh = b.map sh) (n : Nat) : sh (a.getD n default) = sh (b.getD n default) := by
  have e : ∀ l : List Ob, sh (l.getD n default) = (l.map sh).getD n (sh default) := fun l => by
    rw [List.getD_eq_getElem?_getD, List.getD_eq_getElem?_getD, List.getElem?_map]
    cases l[n]? <;> rfl
  rw [e, e, h]
theorem sh_field {a b : List Ob} (h : a.map sh = b.map sh) (p kind i : Int) : fieldM a p kind i = fieldM b p kind i := by
  unfold fieldM
  rw [sh_find h]
  cases findM b p with
  | none => rfl
  | some n =>
    have e := sh_get h n
    have e1 : (a.getD n default).kind = (b.getD n default).kind := congrArg Prod.fst e
    have e2 : (a.getD n default).f.length = (b.getD n default).f.length := congrArg Prod.snd e
    simp only [e1, e2]
theorem sh_set {l : List Ob} {n : Nat} {j : Nat} {z : Int} : (l.set n (setF (l.getD n default) j z)).map sh = l.map sh := by
  apply List.ext_getElem?
  intro i
  rw [List.getElem?_map, List.getElem?_map, List.getElem?_set]
  split
  · rename_i e; subst e
    split
    · rename_i hn
      rw [List.getElem?_eq_getElem hn, List.getD_eq_getElem?_getD, List.getElem?_eq_getElem hn]
      simp [sh, setF]
    · rename_i hn
      rw [List.getElem?_eq_none (by omega)]
  · rfl
theorem sh_setM (os : List Ob) (p kind i z : Int) : (setM os p kind i z).1.map sh = os.map sh := by
  unfold setM
  split
  · rfl
  split
  · rfl
  · exact sh_set
/-- A place's word. -/
theorem place_word {p : Int} (hp : U64 p) (h : (ofR p).1 = 2) : p = (ofR p).2.1 * 8 + 1 := by
  unfold ofR at h ⊢
  split at h
  · rename_i hr
    rw [if_pos hr]
    unfold U64 at hp
    unfold ofRaw at h ⊢
    split at h
    · exact absurd h (by simp)
    rename_i h0
    split at h
    · rename_i h1
      rw [if_neg h0, if_pos h1]
      show p = p / 8 * 8 + 1
      omega
    · rename_i h1
      split at h
      · split at h
        · exact absurd h (by simp)
        split at h
        · have h' : p / 8 % 32 - 2 = 2 := h
          omega
        · exact absurd h (by simp)
      split at h
      · exact absurd h (by simp)
      · exact absurd h (by simp)
  · exact absurd h (by simp)
theorem find_same {os : List Ob} {p q : Int} {n : Nat} (hp : U64 p) (hq : U64 q) (h1 : findM os p = some n) (h2 : findM os q = some n) : p = q := by
  have e1 := findM_lt h1
  have e2 := findM_lt h2
  unfold findM at h1 h2
  split at h1
  · rename_i k1
    split at h2
    · rename_i k2
      have a1 := place_word hp k1
      have a2 := place_word hq k2
      omega
    · cases h2
  · cases h1
/-- What was set last. -/
theorem set_get {os : List Ob} {p q i j z z' : Int} (hp : U64 p) (hq : U64 q) (h : (setM os p 0 i z).2 = 0) :
    getM (setM (setM os p 0 i z).1 q 0 j z').1 p 0 i = (if (setM (setM os p 0 i z).1 q 0 j z').2 = 0 ∧ p = q ∧ i = j then z' else z, 0) := by
  have hsh := sh_setM os p 0 i z
  have hsh2 := (sh_setM (setM os p 0 i z).1 q 0 j z').trans hsh
  have hf0 : (fieldM os p 0 i).2 = 0 := by
    unfold setM at h
    split at h
    · rename_i h0; exact absurd h h0
    · rename_i h0; simpa using h0
  obtain ⟨n, e1, e2, e3, e4, e5⟩ := fieldM_ok hf0
  have ho1 : (setM os p 0 i z).1 = os.set n (setF (os.getD n default) i.toNat z) := by
    unfold setM at h ⊢
    rw [if_neg (by simpa using hf0)] at h ⊢
    split at h
    · simp at h
    · rename_i h8; rw [if_neg h8, e1]; rfl
  generalize hos1 : (setM os p 0 i z).1 = os1 at *
  have hl : n < os1.length := by rw [sh_len hsh]; exact e2
  have hx1 : os1.getD n default = setF (os.getD n default) i.toNat z := by
    rw [ho1, List.getD_eq_getElem?_getD, List.getElem?_set_self e2]; rfl
  unfold getM
  rw [sh_field hsh2, e1]
  simp only [if_true, Int.toNat_natCast, Prod.mk.injEq, and_true]
  have base : (os1.getD n default).f.getD i.toNat 0 = z := by
    rw [hx1]
    simp only [setF]
    rw [List.getD_eq_getElem?_getD, List.getElem?_set_self (by omega)]; rfl
  unfold setM
  by_cases hg : (fieldM os1 q 0 j).2 = 0
  · rw [if_neg (by simpa using hg)]
    by_cases h8 : (ofR z').1 = 8
    · rw [if_pos h8]
      simp only [show ((1 : Int) = 0) = False from by simp, false_and, if_false]
      exact base
    · rw [if_neg h8]
      simp only [true_and]
      obtain ⟨n', g1, g2, g3, g4, g5⟩ := fieldM_ok hg
      rw [g1]
      simp only [Int.toNat_natCast]
      by_cases hnn : n = n'
      · subst hnn
        have hy : (os1.set n (setF (os1.getD n default) j.toNat z')).getD n default = setF (os1.getD n default) j.toNat z' := by
          rw [List.getD_eq_getElem?_getD, List.getElem?_set_self hl]; rfl
        rw [hy]
        simp only [setF]
        have epq : p = q := find_same hp hq e3 ((sh_find hsh q).symm.trans g3)
        by_cases hij : i = j
        · rw [if_pos ⟨epq, hij⟩, hij, List.getD_eq_getElem?_getD, List.getElem?_set_self (by omega)]; rfl
        · rw [if_neg (fun e => hij e.2), List.getD_eq_getElem?_getD, List.getElem?_set_ne (by omega), ← List.getD_eq_getElem?_getD]; exact base
      · have hpq : p ≠ q := fun e => hnn (by
          subst e
          have := (sh_find hsh p).symm.trans g3
          rw [e3] at this; injection this)
        have hy : (os1.set n' (setF (os1.getD n' default) j.toNat z')).getD n default = os1.getD n default := by
          rw [List.getD_eq_getElem?_getD, List.getElem?_set_ne (by omega), ← List.getD_eq_getElem?_getD]
        rw [if_neg (fun e => hpq e.1), hy]; exact base
  · rw [if_pos (by simpa using hg)]
    rw [if_neg (fun e => hg e.1)]
    exact base
/-- The words, object by object. -/
theorem words_split {os : List Ob} {k : Nat} (h : k < os.length) : wordsL os = wordsL (os.take k) ++ (wordR 8 ((os.getD k default).f.length : Nat) (os.getD k default).kind :: ((os.getD k default).f ++ wordsL (os.drop (k + 1)))) := by
  have h1 : os = os.take k ++ (os.getD k default :: os.drop (k + 1)) := by
    conv => lhs; rw [← List.take_append_drop k os, List.drop_eq_getElem_cons h]
    rw [List.getD_eq_getElem?_getD, List.getElem?_eq_getElem h]; rfl
  conv => lhs; rw [h1, wordsL_append]
  rfl
theorem at_len (os : List Ob) (k : Nat) : (wordsL (os.take k)).length = atO os k := by rw [wordsL_length]; rfl
theorem word_head {os : List Ob} {k : Nat} (h : k < os.length) : (wordsL os).getD (atO os k) 0 = wordR 8 ((os.getD k default).f.length : Nat) (os.getD k default).kind := by
  rw [words_split h, List.getD_eq_getElem?_getD, List.getElem?_append_right (by rw [at_len]; exact Nat.le_refl _), at_len, Nat.sub_self]; rfl
theorem word_field {os : List Ob} {k j : Nat} (h : k < os.length) (hj : j < (os.getD k default).f.length) : (wordsL os).getD (atO os k + 1 + j) 0 = (os.getD k default).f.getD j 0 := by
  rw [words_split h, List.getD_eq_getElem?_getD, List.getElem?_append_right (by rw [at_len]; omega), at_len, show atO os k + 1 + j - atO os k = j + 1 by omega, List.getElem?_cons_succ, List.getElem?_append_left hj, ← List.getD_eq_getElem?_getD]
theorem at_succ {os : List Ob} {k : Nat} (h : k < os.length) : atO os (k + 1) = atO os k + 1 + (os.getD k default).f.length := by
  unfold atO
  rw [List.take_succ_eq_append_getElem h, usedL_append, List.getD_eq_getElem?_getD, List.getElem?_eq_getElem h]
  simp only [usedL, Option.getD_some]; omega
theorem at_all (os : List Ob) : atO os os.length = usedL os := by unfold atO; rw [List.take_length]
theorem at_mono {os : List Ob} {j k : Nat} (h : j ≤ k) (hk : k ≤ os.length) : atO os j + (k - j) ≤ atO os k := by
  induction k with
  | zero => obtain rfl : j = 0 := by omega
            simp
  | succ k ih =>
    by_cases e : j = k + 1
    · subst e; simp
    · have := ih (by omega) (by omega)
      rw [at_succ (by omega)]; omega
theorem at_inj {os : List Ob} {j k : Nat} (hj : j < os.length) (hk : k < os.length) (h : atO os j = atO os k) : j = k := by
  rcases Nat.lt_trichotomy j k with h1 | h1 | h1
  · have := at_mono (os := os) (Nat.le_of_lt h1) (Nat.le_of_lt hk); omega
  · exact h1
  · have := at_mono (os := os) (Nat.le_of_lt h1) (Nat.le_of_lt hj); omega
theorem at_lt {os : List Ob} {k : Nat} (h : k < os.length) : atO os k + 1 + (os.getD k default).f.length ≤ usedL os := by
  rw [← at_succ h, ← at_all]
  have := at_mono (os := os) (j := k + 1) (k := os.length) h (Nat.le_refl _)
  omega
/-- Each place is an object's head, or a field of it. -/
theorem place_of {os : List Ob} {i : Nat} (h : i < usedL os) : ∃ k, k < os.length ∧ (i = atO os k ∨ ∃ j, j < (os.getD k default).f.length ∧ i = atO os k + 1 + j) := by
  have key : ∀ n, n ≤ os.length → i < atO os n → ∃ k, k < n ∧ atO os k ≤ i ∧ i < atO os (k + 1) := fun n => by
    induction n with
    | zero => intro _ h; simp [atO, usedL] at h
    | succ n ih =>
      intro hn hi
      by_cases e : i < atO os n
      · obtain ⟨k, a, b⟩ := ih (by omega) e; exact ⟨k, by omega, b⟩
      · exact ⟨n, by omega, by omega, hi⟩
  obtain ⟨k, h1, h2, h3⟩ := key os.length (Nat.le_refl _) (by rw [at_all]; exact h)
  rw [at_succ h1] at h3
  refine ⟨k, h1, ?_⟩
  by_cases e : i = atO os k
  · exact .inl e
  · exact .inr ⟨i - atO os k - 1, by omega, by omega⟩
theorem fnd_at {os : List Ob} {k : Nat} (h : k < os.length) {i : Nat} (hi : i ≤ k) : fnd os (atO os k : Nat) i = some k := by
  induction hk : k - i generalizing i with
  | zero =>
    obtain rfl : i = k := by omega
    rw [fnd, if_pos h, if_pos rfl]
  | succ n ih =>
    rw [fnd, if_pos (by omega), if_neg (fun e => by have := at_inj (os := os) (j := i) (k := k) (by omega) h (by omega); omega), ih (by omega) (by omega)]
theorem fnd_none {os : List Ob} {n : Int} (h : ∀ k, k < os.length → (atO os k : Int) ≠ n) (i : Nat) : fnd os n i = none := by
  cases e : fnd os n i with
  | none => rfl
  | some k => have := fnd_lt e; exact absurd this.2 (h k this.1)
theorem ptr_of {n : Nat} (h : n ≤ 1099511627776) : ofR (wordR 2 (n : Int) 0) = (2, (n : Int), 0) := by
  have := word_back (k := 2) (n := n) (t := 0) (by unfold rightB; simp; omega)
  simpa using this
theorem find_ptr {os : List Ob} {k : Nat} (h : k < os.length) (hu : usedL os ≤ 1099511627776) : findM os (wordR 2 (atO os k : Nat) 0) = some k := by
  have hl := at_lt h
  unfold findM
  rw [ptr_of (by omega)]
  simp only [if_true]
  exact fnd_at h (Nat.zero_le _)
theorem head_of {x : Ob} (hk : 1 ≤ x.kind ∧ x.kind ≤ 22) (hl : x.f.length ≤ 1099511627776) : ofR (wordR 8 (x.f.length : Nat) x.kind) = (8, ((x.f.length : Nat) : Int), x.kind) := by
  have := word_back (k := 8) (n := (x.f.length : Nat)) (t := x.kind) (by unfold rightB; simp; omega)
  simpa using this
theorem getD_in_os {l : List Ob} {i : Nat} (h : i < l.length) : l.getD i default ∈ l := by
  rw [List.getD_eq_getElem?_getD, List.getElem?_eq_getElem h]; exact List.getElem_mem h
theorem getD_in_f {l : List Int} {i : Nat} (h : i < l.length) : l.getD i 0 ∈ l := by
  rw [List.getD_eq_getElem?_getD, List.getElem?_eq_getElem h]; exact List.getElem_mem h
/-- A word that is used is a head just where an object lies. -/
theorem head_iff {os : List Ob} (ho : OsOk os) (hu : usedL os ≤ 1099511627776) {i : Nat} (h : i < usedL os) : (ofR ((wordsL os).getD i 0)).1 = 8 ↔ ∃ k, k < os.length ∧ i = atO os k := by
  constructor
  · intro e
    obtain ⟨k, hk, h1 | ⟨j, hj, h1⟩⟩ := place_of h
    · exact ⟨k, hk, h1⟩
    · rw [h1, word_field hk hj] at e
      have := ho.nh _ (getD_in_os hk) _ (getD_in_f hj)
      unfold isHd at this
      simp only [decide_eq_false_iff_not] at this
      exact absurd e this
  · rintro ⟨k, hk, rfl⟩
    have hl := at_lt hk
    rw [word_head hk, head_of (ho.kd _ (getD_in_os hk)) (by omega)]
theorem no_find {os : List Ob} {p : Int} (h : ∀ k, k < os.length → (ofR p).1 = 2 → (atO os k : Int) ≠ (ofR p).2.1) : findM os p = none := by
  unfold findM
  split
  · rename_i h2; exact fnd_none (fun k hk => h k hk h2) 0
  · rfl
end Go.Proofs.YtdekkieajffblaaGreat
