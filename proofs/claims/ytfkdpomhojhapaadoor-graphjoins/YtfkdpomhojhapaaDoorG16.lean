/-
  What following a root does: plain mathematics.
-/
import Derived.Test.YtfkdpomhojhapaaDoorG15
set_option linter.unusedVariables false
set_option linter.unusedSimpArgs false
namespace Go.Proofs.YtfkdpomhojhapaaDoor
open Go.RowKit

/-- Following what waits (the next one first), at most so many steps. -/
def followS (ns : List Nd) : Nat → List Int → List Int → List Int → List Int × List Int
  | 0, _, pl, ord => (pl, ord)
  | _ + 1, [], pl, ord => (pl, ord)
  | f + 1, o :: st, pl, ord => if pl.getD o.toNat 0 ≠ -1 then followS ns f st pl ord else followS ns f ((ns.getD o.toNat default).kids ++ st) (meetS ns pl ord o.toNat).1 (meetS ns pl ord o.toNat).2
/-- How many kids nodes have that were not met. -/
def um : List Nd → List Int → Nat
  | d :: ns, p :: pl => (if p = -1 then d.kids.length else 0) + um ns pl
  | _, _ => 0
theorem um_set : ∀ {ns : List Nd} {pl : List Int} {i : Nat} {z : Int}, i < ns.length → i < pl.length → pl.getD i 0 = -1 → z ≠ -1 → um ns (pl.set i z) + (ns.getD i default).kids.length = um ns pl
  | [], _, _, _, h, _, _, _ => by simp at h
  | _ :: _, [], _, _, _, h, _, _ => by simp at h
  | d :: ns, p :: pl, 0, z, _, _, h, hz => by
    simp at h
    simp [um, h, hz]; omega
  | d :: ns, p :: pl, i + 1, z, h1, h2, h, hz => by
    have ih := um_set (ns := ns) (pl := pl) (i := i) (z := z) (by simpa using h1) (by simpa using h2) (by simpa using h) hz
    simp only [List.set_cons_succ, um, List.getD_cons_succ]
    omega
theorem um_le : ∀ {ns : List Nd} {pl : List Int}, (∀ d ∈ ns, d.kids.length ≤ 100) → um ns pl ≤ 100 * ns.length
  | [], _, _ => by simp [um]
  | _ :: _, [], _ => by simp [um]
  | d :: ns, p :: pl, h => by
    have ih := um_le (ns := ns) (pl := pl) (fun x hx => h x (by simp [hx]))
    have := h d (by simp)
    simp only [um, List.length_cons]
    split <;> omega
theorem count_set {l : List Int} {i : Nat} {z : Int} (hi : i < l.length) (h : l.getD i 0 = -1) (hz : z ≠ -1) : (l.set i z).count (-1) + 1 = l.count (-1) := by
  induction l generalizing i with
  | nil => simp at hi
  | cons a l ih =>
    cases i with
    | zero =>
      simp at h
      subst h
      simp [List.count_cons, hz]
    | succ i =>
      have := ih (i := i) (by simpa using hi) (by simpa using h)
      simp only [List.set_cons_succ, List.count_cons]
      omega
/-- What is known while following. -/
structure Fv (ns : List Nd) (nn : Nat) (st pl ord : List Int) (f : Nat) : Prop where
  plen : pl.length = nn
  nlen : ns.length = nn
  kids : ∀ d ∈ ns, placesB d.kids nn = true
  rng : ∀ z ∈ st, 0 ≤ z ∧ z < nn
  fu : st.length + um ns pl ≤ f
  cnt : ord.length + pl.count (-1) ≤ nn
theorem meetS_facts (ns : List Nd) (pl ord : List Int) (old : Nat) : ∃ z : Int, z ≠ -1 ∧ 0 ≤ z ∧ (meetS ns pl ord old).1 = pl.set old z ∧ (meetS ns pl ord old).2.length ≤ ord.length + 1 := by
  unfold meetS
  split
  · split
    · exact ⟨_, by omega, by omega, rfl, by simp⟩
    · exact ⟨_, by omega, by omega, rfl, by simp⟩
  · exact ⟨_, by omega, by omega, rfl, by simp⟩
theorem Fv.skip {ns : List Nd} {nn : Nat} {o : Int} {st pl ord : List Int} {f : Nat} (h : Fv ns nn (o :: st) pl ord (f + 1)) : Fv ns nn st pl ord f :=
  ⟨h.plen, h.nlen, h.kids, fun z hz => h.rng z (by simp [hz]), by have := h.fu; simp at this; omega, h.cnt⟩
theorem places_rng {l : List Int} {n : Nat} (h : placesB l n = true) : ∀ z ∈ l, 0 ≤ z ∧ z < n := by
  intro z hz
  have := List.all_eq_true.1 h z hz
  unfold placeB at this
  simpa using this
theorem getD_mem_nd {ns : List Nd} {i : Nat} (h : i < ns.length) : ns.getD i default ∈ ns := by
  rw [List.getD_eq_getElem?_getD, List.getElem?_eq_getElem h]; exact List.getElem_mem h
theorem Fv.meet {ns : List Nd} {nn : Nat} {o : Int} {st pl ord : List Int} {f : Nat} (h : Fv ns nn (o :: st) pl ord (f + 1)) (hp : pl.getD o.toNat 0 = -1) :
    Fv ns nn ((ns.getD o.toNat default).kids ++ st) (meetS ns pl ord o.toNat).1 (meetS ns pl ord o.toNat).2 f := by
  obtain ⟨h0, h1⟩ := h.rng o (by simp)
  have hi : o.toNat < nn := by omega
  obtain ⟨z, hz1, hz2, hz3, hz4⟩ := meetS_facts ns pl ord o.toNat
  rw [hz3]
  refine ⟨by rw [List.length_set]; exact h.plen, h.nlen, h.kids, ?_, ?_, ?_⟩
  · intro y hy
    rcases List.mem_append.1 hy with hy | hy
    · exact places_rng (h.kids _ (getD_mem_nd (by rw [h.nlen]; exact hi))) y hy
    · exact h.rng y (by simp [hy])
  · have := um_set (ns := ns) (pl := pl) (i := o.toNat) (z := z) (by rw [h.nlen]; exact hi) (by rw [h.plen]; exact hi) hp hz1
    have h2 := h.fu
    simp at h2
    rw [List.length_append]; omega
  · have := count_set (l := pl) (i := o.toNat) (z := z) (by rw [h.plen]; exact hi) hp hz1
    have h2 := h.cnt
    omega
theorem Fv.room {ns : List Nd} {nn : Nat} {o : Int} {st pl ord : List Int} {f : Nat} (h : Fv ns nn (o :: st) pl ord f) (hp : pl.getD o.toNat 0 = -1) : ord.length < nn := by
  obtain ⟨h0, h1⟩ := h.rng o (by simp)
  have hi : o.toNat < pl.length := by rw [h.plen]; omega
  have : 0 < pl.count (-1) := List.count_pos_iff.2 (by rw [← hp, List.getD_eq_getElem?_getD, List.getElem?_eq_getElem hi]; exact List.getElem_mem hi)
  have := h.cnt
  omega
/-- Behind it nothing waits. -/
theorem Fv.end_ {ns : List Nd} {nn : Nat} : ∀ {f : Nat} {st pl ord : List Int}, Fv ns nn st pl ord f → Fv ns nn [] (followS ns f st pl ord).1 (followS ns f st pl ord).2 (um ns (followS ns f st pl ord).1)
  | 0, st, pl, ord, h => by
    refine ⟨h.plen, h.nlen, h.kids, fun z hz => (by cases hz), by simp [followS], h.cnt⟩
  | f + 1, [], pl, ord, h => ⟨h.plen, h.nlen, h.kids, fun z hz => (by cases hz), by simp [followS], h.cnt⟩
  | f + 1, o :: st, pl, ord, h => by
    unfold followS
    by_cases hp : pl.getD o.toNat 0 = -1
    · rw [if_neg (fun hq => hq hp)]; exact (h.meet hp).end_
    · rw [if_pos hp]; exact h.skip.end_

end Go.Proofs.YtfkdpomhojhapaaDoor
