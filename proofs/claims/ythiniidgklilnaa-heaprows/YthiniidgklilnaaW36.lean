/-
  A region whose operations come up in whatever order, walked by its states.
-/
import Derived.Test.YthiniidgklilnaaW22
set_option linter.unusedVariables false
set_option linter.unusedSimpArgs false
namespace Go.Proofs.Ythiniidgklilnaa
open Go.RowKit

section
variable {P : Program} {ops : Array Oper} {Q : Exit → Act → World → Prop} {md : Region.Mode} {S : World → Prop} {σ : Type} {L : σ → Array Bool} {m : σ → Nat} {Inv : σ → Act → World → Prop}

/-- Whichever of 'rs' comes up in state s, a state behind it is reached. -/
def Steps (P : Program) (ops : Array Oper) (Q : Exit → Act → World → Prop) (S : World → Prop) (L : σ → Array Bool) (m : σ → Nat) (Inv : σ → Act → World → Prop) (s : σ) (a : Act) (w : World) (rs : List Nat) : Prop :=
  ∀ i ∈ rs, wpOp P ops Q i (fun a' w' => S w' ∧ ∃ s', L s' = (L s).setIfInBounds i true ∧ m s = m s' + 1 ∧ Inv s' a' w') a w
theorem Steps.nil {s : σ} {a : Act} {w : World} : Steps P ops Q S L m Inv s a w [] := fun _ h => by cases h
theorem Steps.cons {s : σ} {a : Act} {w : World} {i : Nat} {o : Oper} {rs : List Nat} (s' : σ) (ho : ops[i]? = some o) (hL : L s' = (L s).setIfInBounds i true) (hm : m s = m s' + 1)
    (h : ∀ K' : Act → World → Prop, Shut (∀ a w, S w → Inv s' a w → K' a w) → if Region.wanted o (yielded ops a.tmps) = true then Oper.wp P o a w K' Q else K' (a.put o.dst undef) w)
    (hs : Steps P ops Q S L m Inv s a w rs) : Steps P ops Q S L m Inv s a w (i :: rs) := fun j hj => by
  rcases List.mem_cons.1 hj with rfl | hj
  · exact wpOp_step ho (fun K' hK => h K' (fun a w hS hW => hK a w ⟨hS, s', hL, hm, hW⟩))
  · exact hs j hj
theorem wpAnyH_inv (L : σ → Array Bool) (m : σ → Nat) (Inv : σ → Act → World → Prop) (base : Nat)
    (h : ∀ s a w, Inv s a w → (m s = 0 ∧ wpAnyH P md ops Q S base (L s) a w) ∨ (∃ rs, 0 < m s ∧ Region.ready md ops (L s) = rs ∧ rs ≠ [] ∧ Steps P ops Q S L m Inv s a w rs)) :
    ∀ n s a w, m s = n → Inv s a w → wpAnyH P md ops Q S (base + n) (L s) a w
  | 0, s, a, w, hn, hI => by
    rcases h s a w hI with ⟨_, h1⟩ | ⟨rs, h1, _⟩
    · exact h1
    · omega
  | n + 1, s, a, w, hn, hI => by
    rcases h s a w hI with ⟨h0, _⟩ | ⟨rs, _, h1, h2, h3⟩
    · omega
    · refine wpAnyH_all h1 h2 (fun i hi => wpOp_mono (fun a' w' => ?_) (h3 i hi))
      rintro ⟨hS, s', hL, hm, hI'⟩
      refine ⟨hS, ?_⟩
      rw [← hL]
      exact wpAnyH_inv L m Inv base h n s' a' w' (by omega) hI'
theorem wpAnyH_from (L : σ → Array Bool) (m : σ → Nat) (Inv : Act → σ → Act → World → Prop) (base n : Nat) (s : σ) {a0 : Act} {w : World} (hn : m s = n) (h0 : Inv a0 s a0 w)
    (h : ∀ s a w, Inv a0 s a w → (m s = 0 ∧ wpAnyH P md ops Q S base (L s) a w) ∨ (∃ rs, 0 < m s ∧ Region.ready md ops (L s) = rs ∧ rs ≠ [] ∧ Steps P ops Q S L m (Inv a0) s a w rs)) :
    wpAnyH P md ops Q S (base + n) (L s) a0 w := wpAnyH_inv L m (Inv a0) base h n s a0 w hn h0
end

end Go.Proofs.Ythiniidgklilnaa
