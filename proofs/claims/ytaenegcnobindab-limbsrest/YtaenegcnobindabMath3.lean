/-
  Plain mathematics: long division, digit by digit (Knuth's D).
-/
import Derived.Test.YtaenegcnobindabMath
set_option linter.unusedVariables false
set_option linter.unusedSimpArgs false
namespace Go.Proofs.Ytaenegcnobindab

theorem guess_low {g h r nx B u2 v0 P u0 top V U : Nat} (ht : top = g * h + r) (hV : V = v0 + P * (nx + B * h)) (hU : U = u0 + P * (u2 + B * top)) (hu : u0 < P) (hg : r * B + u2 < g * nx) : U < g * V := by
  have h1 : P * (r * B + u2 + 1 + B * (g * h)) ≤ P * (g * nx + B * (g * h)) := Nat.mul_le_mul_left _ (by omega)
  have h2 : g * V = g * v0 + P * (g * nx + B * (g * h)) := by subst hV; grind
  have h3 : P * (r * B + u2 + 1 + B * (g * h)) = P * (u2 + B * top) + P := by subst ht; grind
  omega
theorem guess_high {g h r nx B u2 v0 P u0 top V U : Nat} (ht : top = g * h + r) (hV : V = v0 + P * (nx + B * h)) (hU : U = u0 + P * (u2 + B * top)) (hv : v0 < P) (hh : 0 < h) (hgB : g < B) (hg : g * nx ≤ r * B + u2) : g * V ≤ U + V := by
  have h1 : P * (g * nx + B * (g * h)) ≤ P * (r * B + u2 + B * (g * h)) := Nat.mul_le_mul_left _ (by omega)
  have h2 : g * V = g * v0 + P * (g * nx + B * (g * h)) := by subst hV; grind
  have h3 : P * (r * B + u2 + B * (g * h)) = P * (u2 + B * top) := by subst ht; grind
  have h4 : g * v0 ≤ B * P := Nat.mul_le_mul (by omega) (by omega)
  have h5 : P * (B * 1) ≤ P * (nx + B * h) := Nat.mul_le_mul_left _ (by have : B * 1 ≤ B * h := Nat.mul_le_mul_left _ hh; omega)
  have h6 : B * P = P * (B * 1) := by grind
  omega
theorem guess_first {h nx B u2 v0 P u0 top V U : Nat} (hV : V = v0 + P * (nx + B * h)) (hU : U = u0 + P * (u2 + B * top)) (hu : u0 < P) (hu2 : u2 < B) (hh : 0 < h) : U < (top / h + 1) * V := by
  have h1 : top < h * (top / h + 1) := by have := Nat.div_add_mod top h; have := Nat.mod_lt top hh; rw [Nat.mul_add]; omega
  have h2 : P * (B * (top + 1)) ≤ P * (B * (h * (top / h + 1))) := Nat.mul_le_mul_left _ (Nat.mul_le_mul_left _ h1)
  have h3 : P * (B * (h * (top / h + 1))) ≤ (top / h + 1) * V := by
    generalize top / h + 1 = z
    have : z * V = z * v0 + z * (P * nx) + P * (B * (h * z)) := by subst hV; grind
    omega
  have h4 : P * (u2 + B * top + 1) ≤ P * (B * (top + 1)) := Nat.mul_le_mul_left _ (by rw [Nat.mul_add]; omega)
  have h5 : P * (u2 + B * top + 1) = P * (u2 + B * top) + P := by grind
  omega
theorem top_lt {h nx B u2 v0 P u0 top V U : Nat} (hV : V = v0 + P * (nx + B * h)) (hU : U = u0 + P * (u2 + B * top)) (hv : v0 < P) (hnx : nx < B) (hUV : U < B * V) : top < B * (h + 1) := by
  have h1 : V ≤ P * (B * (h + 1)) := by
    have h2 : P * (nx + B * h + 1) ≤ P * (B * (h + 1)) := Nat.mul_le_mul_left _ (by rw [Nat.mul_add]; omega)
    have h3 : P * (nx + B * h + 1) = P * (nx + B * h) + P := by grind
    omega
  have h4 : B * V ≤ B * (P * (B * (h + 1))) := Nat.mul_le_mul_left _ h1
  have h5 : P * B * top < P * B * (B * (h + 1)) := by
    have e1 : P * (u2 + B * top) = P * u2 + P * B * top := by grind
    have e2 : B * (P * (B * (h + 1))) = P * B * (B * (h + 1)) := by grind
    omega
  exact Nat.lt_of_mul_lt_mul_left h5
theorem broken {g h r nx B u2 top : Nat} (ht : top = g * h + r) (hr : B ≤ r) (htop : top < B * (h + 1)) (hnx : nx < B) : g < B ∧ g * nx ≤ r * B + u2 := by
  have h1 : g < B := by
    have : g * h < B * h := by rw [Nat.mul_add] at htop; omega
    exact Nat.lt_of_mul_lt_mul_right this
  refine ⟨h1, ?_⟩
  have h2 : g * nx ≤ B * B := Nat.mul_le_mul (by omega) (by omega)
  have h3 : B * B ≤ r * B := Nat.mul_le_mul_right _ hr
  omega

theorem val_top2 {B n : Nat} {d : List Nat} (hd : Dg B d) (hl : d.length = n) (hn : 2 ≤ n) : ∃ v0, v0 < B ^ (n - 2) ∧ val B d = v0 + B ^ (n - 2) * (d.getD (n - 2) 0 + B * d.getD (n - 1) 0) := by
  refine ⟨val B (d.take (n - 2)), ?_, ?_⟩
  · have := val_lt (hd.take (n - 2)); rwa [List.length_take, Nat.min_eq_left (by omega)] at this
  · rw [val_split B d (n - 2) (by omega), val_drop_succ B d _ (by omega), show n - 2 + 1 = n - 1 by omega, val_drop_succ B d (n - 1) (by omega), List.drop_eq_nil_of_le (by omega)]
    simp [val]
theorem val_top3 {B n : Nat} {u : List Nat} (hd : Dg B u) (hl : u.length = n + 1) (hn : 2 ≤ n) : ∃ u0, u0 < B ^ (n - 2) ∧ val B u = u0 + B ^ (n - 2) * (u.getD (n - 2) 0 + B * (u.getD n 0 * B + u.getD (n - 1) 0)) := by
  refine ⟨val B (u.take (n - 2)), ?_, ?_⟩
  · have := val_lt (hd.take (n - 2)); rwa [List.length_take, Nat.min_eq_left (by omega)] at this
  · rw [val_split B u (n - 2) (by omega), val_drop_succ B u _ (by omega), show n - 2 + 1 = n - 1 by omega, val_drop_succ B u (n - 1) (by omega), show n - 1 + 1 = n by omega, val_drop_succ B u n (by omega), List.drop_eq_nil_of_le (by omega)]
    simp only [val, Nat.mul_zero, Nat.add_zero]
    rw [Nat.mul_comm B (u.getD n 0), Nat.add_comm (u.getD (n - 1) 0)]

/-- A guessed digit: right, or one too great. -/
def Gs (B U V g : Nat) : Prop := g < B ∧ U < (g + 1) * V ∧ g * V ≤ U + V

theorem div_of {U V q : Nat} (h1 : q * V ≤ U) (h2 : U < (q + 1) * V) : U / V = q ∧ U % V = U - q * V := by
  have hV : 0 < V := by
    apply Nat.pos_of_ne_zero; intro e; subst e; simp at h2
  have e1 : U / V = q := by
    apply Nat.le_antisymm
    · exact Nat.le_of_lt_succ ((Nat.div_lt_iff_lt_mul hV).2 (by rw [Nat.succ_eq_add_one]; exact h2))
    · exact (Nat.le_div_iff_mul_le hV).2 h1
  refine ⟨e1, ?_⟩
  have := Nat.div_add_mod U V
  rw [e1, Nat.mul_comm] at this
  omega

theorem dig_ok {B U V g L M : Nat} (h : Gs B U V g) (hL : L < M) (hU : U < M) (he : U = L + g * V) : U / V = g ∧ L = U % V := by
  obtain ⟨h1, h2⟩ := div_of (U := U) (V := V) (q := g) (by omega) h.2.1
  exact ⟨h1, by omega⟩
theorem dig_back {B U V g L L2 c M : Nat} (h : Gs B U V g) (hV : V < M) (hL : L < M) (he : U + M = L + g * V) (hL2 : L2 < M) (hc : c ≤ 1) (ha : L2 + M * c = L + V) : 0 < g ∧ U / V = g - 1 ∧ L2 = U % V := by
  obtain ⟨hb, h1, h2⟩ := h
  have hg : 0 < g := by
    apply Nat.pos_of_ne_zero; intro e; subst e; simp at he; omega
  obtain ⟨k, rfl⟩ : ∃ k, g = k + 1 := ⟨g - 1, by omega⟩
  rw [Nat.add_mul, Nat.one_mul] at h2 he
  obtain ⟨e1, e2⟩ := div_of (U := U) (V := V) (q := k) (by omega) (by rw [Nat.add_mul, Nat.one_mul]; omega)
  refine ⟨hg, by omega, ?_⟩
  have : c = 0 ∨ c = 1 := by omega
  rcases this with rfl | rfl <;> omega

/-- What a row's part holds, where what is above it is nought. -/
theorem val_part {B m k : Nat} {L : List Nat} (hm : m + k ≤ L.length) (hd : Dg B L) (h : val B (L.drop m) < B ^ k) (hB : 0 < B) : val B ((L.drop m).take k) = val B (L.drop m) ∧ val B (L.drop (m + k)) = 0 := by
  have e := val_split B (L.drop m) k (by rw [List.length_drop]; omega)
  rw [List.drop_drop] at e
  have h0 : val B (L.drop (m + k)) = 0 := by
    apply Nat.eq_zero_of_not_pos; intro hp
    have : B ^ k * 1 ≤ B ^ k * val B (L.drop (m + k)) := Nat.mul_le_mul_left _ hp
    omega
  refine ⟨?_, h0⟩
  rw [h0] at e; omega

theorem div_round {A B V Q R x U : Nat} (h : A = Q * V + R) (hU : U = x + B * R) : x + B * A = (U / V + B * Q) * V + U % V := by
  have := Nat.div_add_mod U V
  have e : (U / V + B * Q) * V = V * (U / V) + B * (Q * V) := by grind
  rw [e, h, Nat.mul_add]
  omega

/-- Shifted by as much, the quotient is the same, and the rest is shifted. -/
theorem unshift {a b s2 Q R : Nat} (hs : 0 < s2) (h : a * s2 = Q * (b * s2) + R) (hR : R < b * s2) : Q = a / b ∧ R / s2 = a % b := by
  have h0 : Q * (b * s2) = Q * b * s2 := by grind
  have h1 : Q * b ≤ a := by
    apply Nat.le_of_mul_le_mul_right _ hs; omega
  obtain ⟨r, rfl⟩ : ∃ r, a = Q * b + r := ⟨a - Q * b, by omega⟩
  rw [Nat.add_mul] at h
  have h2 : R = r * s2 := by omega
  subst h2
  have h3 : r < b := Nat.lt_of_mul_lt_mul_right hR
  obtain ⟨e1, e2⟩ := div_of (U := Q * b + r) (V := b) (q := Q) (by omega) (by rw [Nat.add_mul]; omega)
  refine ⟨e1.symm, ?_⟩
  rw [Nat.mul_div_cancel _ hs]; omega

end Go.Proofs.Ytaenegcnobindab
