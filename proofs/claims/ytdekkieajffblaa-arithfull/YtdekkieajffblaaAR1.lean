/-
  What operations of integers come to; walks of the program's Reckon.
-/
import Derived.Test.YtdekkieajffblaaW22
import Derived.Test.YtdekkieajffblaaW34
import Derived.Test.YtdekkieajffblaaW24
import Derived.Test.YtdekkieajffblaaAM1
set_option linter.unusedVariables false
set_option linter.unusedSimpArgs false
namespace Go.Proofs.Ytdekkieajffblaa
open Go.RowKit

section
variable {P : Program} {ops : Array Oper} {Q : Exit → Act → World → Prop} {md : Region.Mode} {S : World → Prop} {σ : Type}
theorem wpAnyH_wf (L : σ → Array Bool) (m f : σ → Nat) (Inv : Act → σ → Act → World → Prop) {a0 : Act}
    (h : ∀ s a w, Inv a0 s a w → (∀ s', m s' < m s → ∀ a' w', Inv a0 s' a' w' → wpAnyH P md ops Q S (f s') (L s') a' w') → wpAnyH P md ops Q S (f s) (L s) a w) :
    ∀ n s a w, m s = n → Inv a0 s a w → wpAnyH P md ops Q S (f s) (L s) a w := by
  intro n
  induction n using Nat.strongRecOn with
  | ind n ih =>
    intro s a w hn hI
    exact h s a w hI (fun s' hs a' w' hI' => ih (m s') (by omega) s' a' w' rfl hI')
theorem wpAnyH_start (L : σ → Array Bool) (m f : σ → Nat) (Inv : Act → σ → Act → World → Prop) (s : σ) {a0 : Act} {w : World} (h0 : Inv a0 s a0 w)
    (h : ∀ s a w, Inv a0 s a w → (∀ s', m s' < m s → ∀ a' w', Inv a0 s' a' w' → wpAnyH P md ops Q S (f s') (L s') a' w') → wpAnyH P md ops Q S (f s) (L s) a w) :
    wpAnyH P md ops Q S (f s) (L s) a0 w := wpAnyH_wf L m f Inv h (m s) s a0 w rfl h0
end

/-- The call answered the integer z. -/
def OkPost (w : World) (z : Int) (e : Ending) (w' : World) : Prop := ∃ s ao n cap, e = .returned (.tuple #[.agg #[.bool s, .slice ao n cap], .int .i64 0]) ∧ IsInt w' (.agg #[.bool s, .slice ao n cap]) z ∧ Below w.heap.size w w'
theorem OkPost.of {w w' : World} {z : Int} {x : Value} {en : Int} (h : AnsI w' x en z) (hb : ¬ Big z.natAbs) (bel : Below w.heap.size w w') : OkPost w z (.returned (.tuple #[x, .int .i64 en])) w' := by
  rcases h with ⟨_, rfl, h3⟩ | ⟨h1, _⟩
  · have := h3
    obtain ⟨s, ao, n, cap, l, rfl, _⟩ := h3.open_
    exact ⟨s, ao, n, cap, rfl, this, bel⟩
  · exact absurd h1 hb
theorem sgn_mul (s s' : Bool) (v u : Nat) : sgn (s != s') (v * u) = sgn s v * sgn s' u := by
  cases s <;> cases s' <;> simp [sgn, Int.mul_neg, Int.neg_mul]
theorem add_ok (x y : Value) (a b : Int) (w : World) (hx : IsInt w x a) (hy : IsInt w y b) (hb : ¬ Big (a + b).natAbs) : Calls Try.prog 23 #[x, y] w (OkPost w (a + b)) :=
  (add_is x y a b w hx hy).mono fun e w' ⟨v, en, h1, h2, h3⟩ => h1 ▸ OkPost.of h2 hb h3
theorem sub_ok (x y : Value) (a b : Int) (w : World) (hx : IsInt w x a) (hy : IsInt w y b) (hb : ¬ Big (a + -b).natAbs) : Calls Try.prog 24 #[x, y] w (OkPost w (a + -b)) := by
  obtain ⟨s, ao, n, cap, l, rfl, R, g, rfl⟩ := hx.open_
  obtain ⟨s', ao', n', cap', l', rfl, R', g', rfl⟩ := hy.open_
  exact (sub_any s s' ao ao' n cap n' cap' l l' w R R' g g').mono fun e w' ⟨v, en, h1, h2, h3⟩ => h1 ▸ OkPost.of h2 hb h3
theorem mul_ok (x y : Value) (a b : Int) (w : World) (hx : IsInt w x a) (hy : IsInt w y b) (hb : ¬ Big (a * b).natAbs) : Calls Try.prog 25 #[x, y] w (OkPost w (a * b)) := by
  obtain ⟨s, ao, n, cap, l, rfl, R, g, rfl⟩ := hx.open_
  obtain ⟨s', ao', n', cap', l', rfl, R', g', rfl⟩ := hy.open_
  refine (mul_any s s' ao ao' n cap n' cap' l l' w R R' g g').mono fun e w' ⟨v, en, h1, h2, h3⟩ => ?_
  subst h1
  rw [← sgn_mul] at hb ⊢
  exact OkPost.of h2.toI hb h3

/-- What is small. -/
structure Small3 (A B C : Int) : Prop where
  ab : ¬ Big (A + B).natAbs
  ba : ¬ Big (B + A).natAbs
  abc : ¬ Big ((A + B) * C).natAbs
  ac : ¬ Big (A * C).natAbs
  bc : ¬ Big (B * C).natAbs
  s : ¬ Big (A * C + B * C).natAbs
  cb : ¬ Big (C * B).natAbs
  m : ¬ Big (A * B).natAbs
  p : ¬ Big (A * B * C).natAbs
  q : ¬ Big (A * (C * B)).natAbs
  d : ¬ Big (A + B + -B).natAbs
theorem small3 {A B C : Int} {x y z : Nat} (hA : A.natAbs < B32 ^ x) (hB : B.natAbs < B32 ^ y) (hC : C.natAbs < B32 ^ z) (h : x + y + z ≤ 38) : Small3 A B C := by
  have hX : 0 < B32 ^ x := Nat.pow_pos (by decide)
  have hY : 0 < B32 ^ y := Nat.pow_pos (by decide)
  have hZ : 0 < B32 ^ z := Nat.pow_pos (by decide)
  have hT : B32 ^ x * B32 ^ y * B32 ^ z ≤ B32 ^ 38 := by
    rw [← Nat.pow_add, ← Nat.pow_add]; exact Nat.pow_le_pow_right (by decide) h
  have hL : 2 * B32 ^ 38 < B32 ^ 40 := by
    rw [show (40 : Nat) = 38 + 2 from rfl, Nat.pow_add]
    have : 0 < B32 ^ 38 := Nat.pow_pos (by decide)
    have h2 : 2 < B32 ^ 2 := by decide
    rw [Nat.mul_comm (B32 ^ 38)]
    exact Nat.mul_lt_mul_of_pos_right h2 this
  generalize B32 ^ x = X at *
  generalize B32 ^ y = Y at *
  generalize B32 ^ z = Z at *
  generalize B32 ^ 38 = M at *
  have key : ∀ v : Nat, v ≤ 2 * M → ¬ Big v := by
    intro v hv hb
    unfold Big at hb
    omega
  generalize ha : A.natAbs = a at *
  generalize hb : B.natAbs = b at *
  generalize hc : C.natAbs = c at *
  have e1 : X + Y ≤ 2 * (X * Y) := by
    have h1 : X * 1 ≤ X * Y := Nat.mul_le_mul_left _ hY
    have h2 : 1 * Y ≤ X * Y := Nat.mul_le_mul_right _ hX
    omega
  have e2 : X * Y ≤ X * Y * Z := Nat.le_mul_of_pos_right _ hZ
  have e3 : a * c ≤ X * Z := Nat.mul_le_mul (by omega) (by omega)
  have e4 : b * c ≤ Y * Z := Nat.mul_le_mul (by omega) (by omega)
  have e5 : X * Z ≤ X * Y * Z := by
    rw [Nat.mul_right_comm]; exact Nat.le_mul_of_pos_right _ hY
  have e6 : Y * Z ≤ X * Y * Z := by
    rw [Nat.mul_assoc]; exact Nat.le_mul_of_pos_left _ hX
  have e7 : a * b ≤ X * Y := Nat.mul_le_mul (by omega) (by omega)
  have e8 : a * b * c ≤ X * Y * Z := Nat.mul_le_mul e7 (by omega)
  have sAB : (A + B).natAbs ≤ a + b := by rw [← ha, ← hb]; exact Int.natAbs_add_le _ _
  have eABC : (A + B).natAbs * c ≤ (a + b) * c := Nat.mul_le_mul_right _ sAB
  rw [Nat.add_mul] at eABC
  have sS : (A * C + B * C).natAbs ≤ a * c + b * c := by
    rw [← ha, ← hb, ← hc, ← Int.natAbs_mul, ← Int.natAbs_mul]; exact Int.natAbs_add_le _ _
  refine ⟨?_, ?_, ?_, ?_, ?_, ?_, ?_, ?_, ?_, ?_, ?_⟩ <;> apply key
  · omega
  · rw [Int.add_comm]; omega
  · rw [Int.natAbs_mul, hc]; omega
  · rw [Int.natAbs_mul, ha, hc]; omega
  · rw [Int.natAbs_mul, hb, hc]; omega
  · omega
  · rw [Int.natAbs_mul, hb, hc, Nat.mul_comm]; omega
  · rw [Int.natAbs_mul, ha, hb]; omega
  · rw [Int.natAbs_mul, Int.natAbs_mul, ha, hb, hc]; omega
  · rw [Int.natAbs_mul, Int.natAbs_mul, ha, hb, hc, Nat.mul_comm c b, ← Nat.mul_assoc]; omega
  · rw [Int.add_neg_cancel_right, ha]; omega

end Go.Proofs.Ytdekkieajffblaa

set_option linter.unusedVariables false
set_option linter.unusedSimpArgs false
set_option maxRecDepth 100000
namespace Go.Proofs.Ytdekkieajffblaa
open Go.RowKit

/-- Has an integer more limbs than there may be? -/
def tooB (z : Int) : Bool := decide (B32 ^ 40 ≤ z.natAbs)
theorem tooB_iff (z : Int) : tooB z = true ↔ Big z.natAbs := by unfold tooB Big; exact decide_eq_true_iff
def bigZ (z : Int) : Int × Int := if tooB z = true then (0, 10) else (z, 0)
/-- The rest that is nought or has b's sign. -/
def modZ (a b : Int) : Int := if a.tmod b ≠ 0 ∧ decide (a.tmod b < 0) ≠ decide (b < 0) then a.tmod b + b else a.tmod b
def reckM (op a b : Int) : Int × Int :=
  if op = 1 then bigZ (a + b) else if op = 2 then bigZ (a + -b) else if op = 3 then bigZ (a * b)
  else if op = 4 then (if b = 0 then (0, 11) else (a.tdiv b, 0)) else if op = 5 then (if b = 0 then (0, 11) else (a.tmod b, 0))
  else if op = 6 then (if b = 0 then (0, 11) else (modZ a b, 0)) else (0, 1)
/-- A call that answers an integer and an error. -/
def RkPost (w : World) (r : Int × Int) (e : Ending) (w' : World) : Prop := ∃ s ao n cap, e = .returned (.tuple #[.agg #[.bool s, .slice ao n cap], .int .i64 r.2]) ∧ IsInt w' (.agg #[.bool s, .slice ao n cap]) r.1 ∧ Below w.heap.size w w'
theorem AddPost.rk {w w' : World} {z : Int} {e : Ending} (h : AddPost w z e w') : RkPost w (bigZ z) e w' := by
  obtain ⟨x, en, rfl, h1, h2⟩ := h
  rcases h1 with ⟨a1, rfl, a3⟩ | ⟨a1, rfl, rfl⟩
  · have e : bigZ z = (z, 0) := by unfold bigZ; rw [if_neg (fun h => a1 ((tooB_iff z).1 h))]
    rw [e]
    have a4 := a3
    obtain ⟨s, ao, n, cap, l, rfl, _⟩ := a3.open_
    exact ⟨s, ao, n, cap, rfl, a4, h2⟩
  · have e : bigZ z = (0, 10) := by unfold bigZ; rw [if_pos ((tooB_iff z).2 a1)]
    rw [e]
    exact ⟨_, _, _, _, rfl, zero_is w', h2⟩
theorem IsInt.setBox {w : World} {p : Nat} {s : Bool} {a : Option Addr} {m c : Nat} {t : TypeId} (h : Box t w p s a m c) {x : Value} {z : Int} (hi : IsInt w x z) (y : Bool) (v : Value) : IsInt ((w.setCell ⟨p, 0, none⟩ (.bool y)).setCell ⟨p, 1, none⟩ v) x z := by
  obtain ⟨s', l, ⟨ao, n, cap, e, R⟩, g, e2⟩ := hi
  exact ⟨s', l, ⟨ao, n, cap, e, R.setBox2 h y v⟩, g, e2⟩
theorem mul_is (x y : Value) (a b : Int) (w : World) (hx : IsInt w x a) (hy : IsInt w y b) : Calls Try.prog 25 #[x, y] w (AddPost w (a * b)) := by
  obtain ⟨s, ao, n, cap, l, rfl, R, g, rfl⟩ := hx.open_
  obtain ⟨s', ao', n', cap', l', rfl, R', g', rfl⟩ := hy.open_
  refine (mul_any s s' ao ao' n cap n' cap' l l' w R R' g g').mono fun e w' ⟨v, en, h1, h2, h3⟩ => ?_
  subst h1
  rw [← sgn_mul]
  exact ⟨v, en, rfl, h2.toI, h3⟩
theorem sub_all (x y : Value) (a b : Int) (w : World) (hx : IsInt w x a) (hy : IsInt w y b) : Calls Try.prog 24 #[x, y] w (AddPost w (a + -b)) := by
  obtain ⟨s, ao, n, cap, l, rfl, R, g, rfl⟩ := hx.open_
  obtain ⟨s', ao', n', cap', l', rfl, R', g', rfl⟩ := hy.open_
  exact sub_any s s' ao ao' n cap n' cap' l l' w R R' g g'
end Go.Proofs.Ytdekkieajffblaa
