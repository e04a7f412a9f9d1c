/-
  Of a thing and itself, of a thing and its like: plain mathematics.
-/
import Derived.Test.YtgoaaeiefpdkpaaDoorM3
set_option linter.unusedVariables false
set_option linter.unusedSimpArgs false
namespace Go.Proofs.YtgoaaeiefpdkpaaDoor
open Go.RowKit

/-- The two graphs of a thing and itself, of a thing and its like. -/
def gOne (d : Nd) : List Nd := [d, ⟨7, 0, ⟨#[]⟩, [0, 0]⟩]
def gTwo (d : Nd) : List Nd := [d, d, ⟨7, 0, ⟨#[]⟩, [0, 1]⟩]
theorem pair_node (n : Nat) (l : List Int) (hl : l.length = 2) (hp : placesB l n = true) (hN : numB 7 0 = true) (hT : textB 7 ⟨#[]⟩ = true) : nodeB n ⟨7, 0, ⟨#[]⟩, l⟩ = true := by
  unfold nodeB
  simp [hl, hp, hN, hT, countB]
theorem good_two {d : Nd} (hk : d.kids = []) (hN : numB 7 0 = true) (hT : textB 7 ⟨#[]⟩ = true) (h : goodG (gOne d) [1] = true) : goodG (gTwo d) [2] = true := by
  unfold goodG gOne at h
  unfold goodG gTwo
  simp only [List.all_cons, List.length_cons, List.length_nil, Bool.and_eq_true] at h ⊢
  have h1 : nodeB 3 d = true := by
    have := h.1.1
    unfold nodeB placesB at this ⊢
    rw [hk] at this ⊢
    exact this
  exact ⟨⟨h1, h1, pair_node _ _ rfl rfl hN hT, rfl⟩, rfl⟩
theorem fine_one {d : Nd} (hk : d.kids = []) (h : goodG (gOne d) [1] = true) : Fine (gOne d) [1] 100001 := by
  refine ⟨h, fun x hx => ?_, by simp [gOne], by simp [gOne]⟩
  simp [gOne] at hx
  rcases hx with rfl | rfl
  · simp [hk]
  · simp
theorem fine_two {d : Nd} (hk : d.kids = []) (h : goodG (gTwo d) [2] = true) : Fine (gTwo d) [2] 100001 := by
  refine ⟨h, fun x hx => ?_, by simp [gTwo], by simp [gTwo]⟩
  simp [gTwo] at hx
  rcases hx with rfl | rfl
  · simp [hk]
  · simp
theorem shares_atom {d : Nd} (hk : d.kids = []) (ha : atomB d.kind = true) (h1 : goodG (gOne d) [1] = true) (h2 : goodG (gTwo d) [2] = true) : canonG (gOne d) [1] 100001 = canonG (gTwo d) [2] 100001 := by
  have S : Sim (gTwo d) (gOne d) (fun i => if i = 2 then 1 else 0) (fun i => 0 ≤ i ∧ i < 3) := by
    have c3 : ∀ i : Int, 0 ≤ i ∧ i < 3 → i = 0 ∨ i = 1 ∨ i = 2 := fun i h => by omega
    refine ⟨fun i hi => by simp [gTwo]; omega, fun i hi => ?_, fun i hi => ?_, fun i hi => ?_, fun i i' hi hi' e => ?_, fun i hi => ?_⟩
    · rcases c3 i hi with rfl | rfl | rfl <;> simp [gOne]
    · rcases c3 i hi with rfl | rfl | rfl <;> simp [gTwo, hk]
    · rcases c3 i hi with rfl | rfl | rfl <;> simp [gTwo, gOne, hk] <;> exact nd_ext rfl rfl rfl hk
    · rcases c3 i hi with rfl | rfl | rfl <;> rcases c3 i' hi' with rfl | rfl | rfl <;> simp [gTwo, ha] at e ⊢
    · rcases c3 i hi with rfl | rfl | rfl
      · intro _; exact hk
      · intro _; exact hk
      · intro h; simp [gTwo, atomB] at h
  exact canon_sim (rs := [2]) S (fine_two hk h2) (fun z hz => by simp at hz; omega) h1
theorem shares_other {d : Nd} (hk : d.kids = []) (ha : atomB d.kind = false) (h1 : goodG (gOne d) [1] = true) (h2 : goodG (gTwo d) [2] = true) : (canonG (gOne d) [1] 100001).1 ≠ (canonG (gTwo d) [2] 100001).1 := by
  intro e
  have F1 := fine_one hk h1
  have F2 := fine_two hk h2
  have l1 : (canonG (gOne d) [1] 100001).1.length ≤ 2 := F1.len.1
  rw [e, F2.canon, List.length_map] at l1
  obtain ⟨q0, q1, q2⟩ := F2.ends
  generalize (endS (gTwo d) [2] 100001).1 = P at *
  generalize (endS (gTwo d) [2] 100001).2 = O at *
  have m2 : P.getD 2 0 ≠ -1 := q2 2 (by simp)
  have hcl := q1.cl 2 (by omega) (by simp [gTwo]) m2
  have m0 : P.getD 0 0 ≠ -1 := by
    rcases hcl 0 (by simp [gTwo]) with h | h
    · exact h
    · cases h
  have m1 : P.getD 1 0 ≠ -1 := by
    rcases hcl 1 (by simp [gTwo]) with h | h
    · exact h
    · cases h
  have n0 : atomB ((gTwo d).getD 0 default).kind = false := ha
  have n1 : atomB ((gTwo d).getD 1 default).kind = false := ha
  have n2 : atomB ((gTwo d).getD 2 default).kind = false := rfl
  obtain ⟨a1, a2, a3⟩ := q1.val 0 (by omega) (by simp [gTwo]) m0
  obtain ⟨b1, b2, b3⟩ := q1.val 1 (by omega) (by simp [gTwo]) m1
  obtain ⟨c1, c2, c3⟩ := q1.val 2 (by omega) (by simp [gTwo]) m2
  have a4 : O.getD (P.getD 0 0).toNat 0 = 0 := by
    rcases a3 with h | ⟨h, _⟩
    · exact h
    · exact absurd h (by rw [show (0 : Int).toNat = 0 from rfl, n0]; decide)
  have b4 : O.getD (P.getD 1 0).toNat 0 = 1 := by
    rcases b3 with h | ⟨h, _⟩
    · exact h
    · exact absurd h (by rw [show (1 : Int).toNat = 1 from rfl, n1]; decide)
  have c4 : O.getD (P.getD 2 0).toNat 0 = 2 := by
    rcases c3 with h | ⟨h, _⟩
    · exact h
    · exact absurd h (by rw [show (2 : Int).toNat = 2 from rfl, n2]; decide)
  have a1' : 0 ≤ P.getD 0 0 := a1
  have b1' : 0 ≤ P.getD 1 0 := b1
  have c1' : 0 ≤ P.getD 2 0 := c1
  have a2' : P.getD 0 0 < O.length := a2
  have b2' : P.getD 1 0 < O.length := b2
  have c2' : P.getD 2 0 < O.length := c2
  have hab : P.getD 0 0 ≠ P.getD 1 0 := fun h => by rw [h, b4] at a4; cases a4
  have hac : P.getD 0 0 ≠ P.getD 2 0 := fun h => by rw [h, c4] at a4; cases a4
  have hbc : P.getD 1 0 ≠ P.getD 2 0 := fun h => by rw [h, c4] at b4; cases b4
  omega
end Go.Proofs.YtgoaaeiefpdkpaaDoor
