/-
  Plain mathematics: numbers written as lists of digits, the lowest first.
-/
set_option linter.unusedVariables false
set_option linter.unusedSimpArgs false
namespace Go.Proofs.Ythiniidgklilnaa

/-- The number that digits say, the lowest first. -/
def val (B : Nat) : List Nat → Nat
  | [] => 0
  | x :: r => x + B * val B r

def Dg (B : Nat) (l : List Nat) : Prop := ∀ x ∈ l, x < B
/-- No nought at the end. -/
def Tr (l : List Nat) : Prop := l = [] ∨ l.getD (l.length - 1) 0 ≠ 0

theorem val_nil (B : Nat) : val B [] = 0 := rfl
theorem val_cons (B x : Nat) (r : List Nat) : val B (x :: r) = x + B * val B r := rfl
theorem val_append (B : Nat) (l r : List Nat) : val B (l ++ r) = val B l + B ^ l.length * val B r := by
  induction l with
  | nil => simp [val]
  | cons x l ih => simp only [List.cons_append, val_cons, ih, List.length_cons, Nat.pow_succ]; rw [Nat.mul_add]; rw [Nat.mul_comm (B ^ l.length) B, Nat.mul_assoc]; omega
theorem val_snoc (B : Nat) (l : List Nat) (x : Nat) : val B (l ++ [x]) = val B l + B ^ l.length * x := by rw [val_append]; simp [val]

theorem take_snoc (l : List Nat) (k : Nat) (h : k < l.length) : l.take (k + 1) = l.take k ++ [l.getD k 0] := by
  rw [List.take_succ_eq_append_getElem h, List.getD_eq_getElem?_getD, List.getElem?_eq_getElem h]; rfl
theorem drop_cons (l : List Nat) (k : Nat) (h : k < l.length) : l.drop k = l.getD k 0 :: l.drop (k + 1) := by
  rw [List.drop_eq_getElem_cons h, List.getD_eq_getElem?_getD, List.getElem?_eq_getElem h]; rfl
theorem val_take_succ (B : Nat) (l : List Nat) (k : Nat) (h : k < l.length) : val B (l.take (k + 1)) = val B (l.take k) + B ^ k * l.getD k 0 := by
  rw [take_snoc l k h, val_snoc, List.length_take, Nat.min_eq_left (Nat.le_of_lt h)]
theorem val_drop_succ (B : Nat) (l : List Nat) (k : Nat) (h : k < l.length) : val B (l.drop k) = l.getD k 0 + B * val B (l.drop (k + 1)) := by
  rw [drop_cons l k h, val_cons]
theorem val_split (B : Nat) (l : List Nat) (k : Nat) (h : k ≤ l.length) : val B l = val B (l.take k) + B ^ k * val B (l.drop k) := by
  have := val_append B (l.take k) (l.drop k)
  rw [List.take_append_drop, List.length_take, Nat.min_eq_left h] at this
  exact this

theorem Dg.take {B : Nat} {l : List Nat} (h : Dg B l) (k : Nat) : Dg B (l.take k) := fun x hx => h x (List.mem_of_mem_take hx)
theorem Dg.drop {B : Nat} {l : List Nat} (h : Dg B l) (k : Nat) : Dg B (l.drop k) := fun x hx => h x (List.mem_of_mem_drop hx)
theorem Dg.append {B : Nat} {l r : List Nat} (h : Dg B l) (k : Dg B r) : Dg B (l ++ r) := fun x hx => (List.mem_append.1 hx).elim (h x) (k x)
theorem Dg.nil (B : Nat) : Dg B [] := fun x hx => by cases hx
theorem Dg.one {B x : Nat} (h : x < B) : Dg B [x] := fun y hy => by simp at hy; omega
theorem getD_mem {l : List Nat} {k : Nat} (h : k < l.length) : l.getD k 0 ∈ l := by
  rw [List.getD_eq_getElem?_getD, List.getElem?_eq_getElem h]; exact List.getElem_mem h
theorem Dg.getD {B : Nat} {l : List Nat} (h : Dg B l) (k : Nat) (hk : k < l.length) : l.getD k 0 < B := h _ (getD_mem hk)
theorem Dg.getD0 {B : Nat} {l : List Nat} (h : Dg B l) (hB : 0 < B) (k : Nat) : l.getD k 0 < B := by
  by_cases hk : k < l.length
  · exact h.getD k hk
  · rw [List.getD_eq_getElem?_getD, List.getElem?_eq_none (by omega)]; exact hB

theorem val_lt {B : Nat} {l : List Nat} (h : Dg B l) : val B l < B ^ l.length := by
  induction l with
  | nil => simp [val]
  | cons x l ih =>
    have h1 : x < B := h x (by simp)
    have h2 := ih (fun y hy => h y (by simp [hy]))
    rw [val_cons, List.length_cons, Nat.pow_succ, Nat.mul_comm (B ^ l.length) B]
    have h3 : B * (val B l + 1) ≤ B * B ^ l.length := Nat.mul_le_mul_left B h2
    rw [Nat.mul_add] at h3
    omega

theorem Tr.nil : Tr [] := .inl rfl
theorem Tr.pos {B : Nat} (hB : 0 < B) {l : List Nat} (h : Tr l) (hl : l ≠ []) : B ^ (l.length - 1) ≤ val B l := by
  have hn : l.length - 1 < l.length := by cases l with | nil => exact absurd rfl hl | cons => simp
  have hd : l.getD (l.length - 1) 0 ≠ 0 := h.resolve_left hl
  rw [val_split B l (l.length - 1) (by omega), val_drop_succ B l _ hn]
  have : B ^ (l.length - 1) * 1 ≤ B ^ (l.length - 1) * (l.getD (l.length - 1) 0 + B * val B (l.drop (l.length - 1 + 1))) := Nat.mul_le_mul_left _ (by omega)
  omega
theorem Tr.ne_zero {B : Nat} (hB : 0 < B) {l : List Nat} (h : Tr l) (hl : l ≠ []) : val B l ≠ 0 := by
  have := h.pos hB hl
  have := Nat.pow_pos (n := l.length - 1) hB
  omega
theorem Tr.zero {B : Nat} (hB : 0 < B) {l : List Nat} (h : Tr l) (hv : val B l = 0) : l = [] := by
  apply Classical.byContradiction; intro hl; exact h.ne_zero hB hl hv
theorem Tr.zero_iff {B : Nat} (hB : 0 < B) {l : List Nat} (h : Tr l) : val B l = 0 ↔ l.length = 0 := by
  constructor
  · intro hv; rw [h.zero hB hv]; rfl
  · intro hv; rw [List.length_eq_zero_iff.1 hv]; rfl

theorem lt_of_length {B : Nat} (hB : 0 < B) {a b : List Nat} (ha : Dg B a) (hb : Tr b) (h : a.length < b.length) : val B a < val B b := by
  have h1 := val_lt ha
  have h2 := hb.pos hB (by intro e; simp [e] at h)
  have h3 : B ^ a.length ≤ B ^ (b.length - 1) := Nat.pow_le_pow_right hB (by omega)
  omega
theorem lt_of_digit {B : Nat} {a b : List Nat} {k : Nat} (ha : Dg B a) (hka : k < a.length) (hkb : k < b.length) (ht : a.drop (k + 1) = b.drop (k + 1)) (h : a.getD k 0 < b.getD k 0) : val B a < val B b := by
  rw [val_split B a k (by omega), val_split B b k (by omega), val_drop_succ B a k hka, val_drop_succ B b k hkb, ht]
  have h1 := val_lt (ha.take k)
  rw [List.length_take, Nat.min_eq_left (by omega)] at h1
  have h2 : B ^ k * (a.getD k 0 + 1 + B * val B (b.drop (k + 1))) ≤ B ^ k * (b.getD k 0 + B * val B (b.drop (k + 1))) := Nat.mul_le_mul_left _ (by omega)
  simp only [Nat.mul_add, Nat.mul_one] at h2 ⊢
  omega

theorem length_of_val {B : Nat} (hB : 0 < B) {a b : List Nat} (ha : Dg B a) (hb : Dg B b) (ta : Tr a) (tb : Tr b) (h : val B a = val B b) : a.length = b.length := by
  rcases Nat.lt_trichotomy a.length b.length with h' | h' | h'
  · have := lt_of_length hB ha tb h'; omega
  · exact h'
  · have := lt_of_length hB hb ta h'; omega

theorem eq_of_val_len {B : Nat} : ∀ {a b : List Nat}, Dg B a → Dg B b → a.length = b.length → val B a = val B b → a = b
  | [], [], _, _, _, _ => rfl
  | [], _ :: _, _, _, h, _ => by simp at h
  | _ :: _, [], _, _, h, _ => by simp at h
  | x :: a, y :: b, ha, hb, hl, hv => by
    have h1 : x < B := ha x (by simp)
    have h2 : y < B := hb y (by simp)
    rw [val_cons, val_cons] at hv
    have hx : x = y := by
      have e1 : (x + B * val B a) % B = x := by rw [Nat.add_mul_mod_self_left]; exact Nat.mod_eq_of_lt h1
      have e2 : (y + B * val B b) % B = y := by rw [Nat.add_mul_mod_self_left]; exact Nat.mod_eq_of_lt h2
      rw [hv] at e1; omega
    subst hx
    have hv2 : val B a = val B b := Nat.eq_of_mul_eq_mul_left (by omega : 0 < B) (by omega)
    rw [eq_of_val_len (fun z hz => ha z (by simp [hz])) (fun z hz => hb z (by simp [hz])) (by simpa using hl) hv2]
theorem eq_of_val {B : Nat} (hB : 0 < B) {a b : List Nat} (ha : Dg B a) (hb : Dg B b) (ta : Tr a) (tb : Tr b) (h : val B a = val B b) : a = b :=
  eq_of_val_len ha hb (length_of_val hB ha hb ta tb h) h

/-- How many limbs a size wants. -/
theorem length_le_of_val {B n : Nat} (hB : 1 < B) {a : List Nat} (ta : Tr a) (h : val B a < B ^ n) : a.length ≤ n := by
  apply Classical.byContradiction; intro hl
  have h2 := ta.pos (B := B) (by omega) (by intro e; simp [e] at hl)
  have h3 : B ^ n ≤ B ^ (a.length - 1) := Nat.pow_le_pow_right (by omega) (by omega)
  omega
theorem val_lt_iff {B n : Nat} (hB : 1 < B) {a : List Nat} (ha : Dg B a) (ta : Tr a) : a.length ≤ n ↔ val B a < B ^ n := by
  constructor
  · intro h
    have h1 := val_lt ha
    have h3 : B ^ a.length ≤ B ^ n := Nat.pow_le_pow_right (by omega) h
    omega
  · exact length_le_of_val hB ta

/-- Cutting off one nought. -/
theorem val_take_zero (B : Nat) (l : List Nat) (k : Nat) (h : k < l.length) (h0 : l.getD k 0 = 0) : val B (l.take (k + 1)) = val B (l.take k) := by
  rw [val_take_succ B l k h, h0]; simp
theorem Tr.take_of {l : List Nat} {m : Nat} (hm : m ≤ l.length) (h : m = 0 ∨ l.getD (m - 1) 0 ≠ 0) : Tr (l.take m) := by
  by_cases h0 : m = 0
  · subst h0; exact .inl (by simp)
  · refine .inr ?_
    rw [List.length_take, Nat.min_eq_left hm, List.getD_eq_getElem?_getD, List.getElem?_take, if_pos (by omega), ← List.getD_eq_getElem?_getD]
    rcases h with h | h
    · exact absurd h h0
    · exact h

theorem getD_take {l : List Nat} {m i : Nat} (h : i < m) : (l.take m).getD i 0 = l.getD i 0 := by
  rw [List.getD_eq_getElem?_getD, List.getElem?_take, if_pos h, ← List.getD_eq_getElem?_getD]
theorem getD_append_left {l r : List Nat} {i : Nat} (h : i < l.length) : (l ++ r).getD i 0 = l.getD i 0 := by
  rw [List.getD_eq_getElem?_getD, List.getElem?_append_left h, ← List.getD_eq_getElem?_getD]
theorem getD_append_at {l : List Nat} {x : Nat} {i : Nat} (h : i = l.length) : (l ++ [x]).getD i 0 = x := by
  subst h; rw [List.getD_eq_getElem?_getD]; simp

end Go.Proofs.Ythiniidgklilnaa
