/-
  The order as the document tells it: plain mathematics.
-/
import Derived.Test.YtfkdpomhojhapaaDoorM3
set_option linter.unusedVariables false
set_option linter.unusedSimpArgs false
namespace Go.Proofs.YtfkdpomhojhapaaDoor
open Go.RowKit

theorem followS_nil (ns : List Nd) (f : Nat) (pl ord : List Int) : followS ns f [] pl ord = (pl, ord) := by cases f <;> rfl
theorem um_meet (ns : List Nd) (pl ord : List Int) {o : Nat} (ho : o < ns.length) (hl : pl.length = ns.length) (hp : pl.getD o 0 = -1) : um ns (meetS ns pl ord o).1 ≤ um ns pl := by
  obtain ⟨z, hz1, hz2, hz3, hz4⟩ := meetS_facts ns pl ord o
  rw [hz3]
  have := um_set (ns := ns) (pl := pl) (i := o) (z := z) ho (by omega) hp hz1
  omega
theorem um_follow {ns : List Nd} {nn : Nat} : ∀ {f : Nat} {st pl ord : List Int}, Fv ns nn st pl ord f → um ns (followS ns f st pl ord).1 ≤ um ns pl
  | 0, _, _, _, _ => Nat.le_refl _
  | f + 1, [], _, _, _ => Nat.le_refl _
  | f + 1, o :: st, pl, ord, h => by
    unfold followS
    have hr := h.rng o (by simp)
    by_cases hp : pl.getD o.toNat 0 = -1
    · rw [if_neg (fun hq => hq hp)]
      exact Nat.le_trans (um_follow (h.meet hp)) (um_meet ns pl ord (by rw [h.nlen]; omega) (by rw [h.plen, h.nlen]) hp)
    · rw [if_pos hp]; exact um_follow h.skip
theorem Fv.left {ns : List Nd} {nn : Nat} {s1 s2 pl ord : List Int} {f : Nat} (h : Fv ns nn (s1 ++ s2) pl ord f) : Fv ns nn s1 pl ord f :=
  ⟨h.plen, h.nlen, h.kids, fun z hz => h.rng z (by simp [hz]), by have := h.fu; simp at this; omega, h.cnt⟩
theorem Fv.right {ns : List Nd} {nn : Nat} {s1 s2 pl ord : List Int} {f : Nat} (h : Fv ns nn (s1 ++ s2) pl ord f) : Fv ns nn s2 (followS ns f s1 pl ord).1 (followS ns f s1 pl ord).2 f := by
  have e := h.left.end_
  have u := um_follow h.left
  exact ⟨e.plen, e.nlen, e.kids, fun z hz => h.rng z (by simp [hz]), by have := h.fu; simp at this; omega, e.cnt⟩
theorem follow_fuel {ns : List Nd} {nn : Nat} : ∀ {f : Nat} {st pl ord : List Int}, Fv ns nn st pl ord f → followS ns (f + 1) st pl ord = followS ns f st pl ord
  | 0, st, pl, ord, h => by
    have := h.fu
    obtain rfl : st = [] := List.length_eq_zero_iff.1 (by omega)
    rfl
  | f + 1, [], pl, ord, h => rfl
  | f + 1, o :: st, pl, ord, h => by
    rw [followS, followS]
    by_cases hp : pl.getD o.toNat 0 = -1
    · rw [if_neg (fun hq => hq hp), if_neg (fun hq => hq hp)]; exact follow_fuel (h.meet hp)
    · rw [if_pos hp, if_pos hp]; exact follow_fuel h.skip
theorem follow_append {ns : List Nd} {nn : Nat} : ∀ {f : Nat} {s1 s2 pl ord : List Int}, Fv ns nn (s1 ++ s2) pl ord f → followS ns f (s1 ++ s2) pl ord = followS ns f s2 (followS ns f s1 pl ord).1 (followS ns f s1 pl ord).2
  | f, [], s2, pl, ord, h => by rw [followS_nil]; rfl
  | 0, o :: s1, s2, pl, ord, h => by have := h.fu; simp at this
  | f + 1, o :: s1, s2, pl, ord, h => by
    have h' : Fv ns nn (o :: (s1 ++ s2)) pl ord (f + 1) := h
    rw [List.cons_append, followS, followS]
    by_cases hp : pl.getD o.toNat 0 = -1
    · rw [if_neg (fun hq => hq hp), if_neg (fun hq => hq hp)]
      have h2 := h'.meet hp
      rw [← List.append_assoc] at h2 ⊢
      rw [follow_append h2, follow_fuel h2.right]
    · rw [if_pos hp, if_pos hp]
      have h2 := h'.skip
      rw [follow_append h2, follow_fuel h2.right]
theorem followR_all {ns : List Nd} {nn : Nat} {f : Nat} : ∀ {rs : List Int} {s : List Int × List Int}, Fv ns nn rs s.1 s.2 f → followR ns f rs s = followS ns f rs s.1 s.2
  | [], s, h => by rw [followS_nil]; rfl
  | r :: rs, s, h => by
    have h' : Fv ns nn ([r] ++ rs) s.1 s.2 f := h
    show followR ns f rs (followS ns f [r] s.1 s.2) = followS ns f ([r] ++ rs) s.1 s.2
    rw [follow_append h', followR_all h'.right]

/-- Where a node was met, as the document asks: an atom is met where one that has the same was. -/
def rmetS (ns : List Nd) (pt ord : List Int) (n : Nat) : Int :=
  if 0 ≤ pt.getD n 0 ∨ atomB (ns.getD n default).kind = false then pt.getD n 0 else
    match findA ns ord (ns.getD n default) with
    | some j => (j : Int)
    | none => -1
def rfollowS (ns : List Nd) : Nat → List Int → List Int → List Int → List Int × List Int
  | 0, _, pt, ord => (pt, ord)
  | _ + 1, [], pt, ord => (pt, ord)
  | f + 1, o :: st, pt, ord => if 0 ≤ rmetS ns pt ord o.toNat then rfollowS ns f st pt ord else rfollowS ns f ((ns.getD o.toNat default).kids ++ st) (pt.set o.toNat ord.length) (ord ++ [(o.toNat : Int)])
structure Rr (ns : List Nd) (pl pt ord : List Int) : Prop where
  plen : pl.length = ns.length
  tlen : pt.length = ns.length
  pos : ∀ i, i < ns.length → pl.getD i 0 ≠ -1 → 0 ≤ pl.getD i 0
  r1 : ∀ i, i < ns.length → pt.getD i 0 ≠ -1 → pl.getD i 0 = pt.getD i 0
  r2 : ∀ i, i < ns.length → pl.getD i 0 ≠ -1 → pt.getD i 0 = pl.getD i 0 ∨ (pt.getD i 0 = -1 ∧ atomB (ns.getD i default).kind = true ∧ ∃ j, findA ns ord (ns.getD i default) = some j ∧ pl.getD i 0 = (j : Int))
theorem Rr.met {ns : List Nd} {pl pt ord : List Int} (h : Rr ns pl pt ord) {i : Nat} (hi : i < ns.length) (hp : pl.getD i 0 ≠ -1) : rmetS ns pt ord i = pl.getD i 0 := by
  have hpos := h.pos i hi hp
  unfold rmetS
  rcases h.r2 i hi hp with e | ⟨e, ha, j, hf, hj⟩
  · rw [if_pos (.inl (by omega)), e]
  · rw [if_neg (by rw [e, ha]; simp), hf, hj]
theorem Rr.un {ns : List Nd} {pl pt ord : List Int} (h : Rr ns pl pt ord) {i : Nat} (hi : i < ns.length) (hp : pl.getD i 0 = -1) : pt.getD i 0 = -1 := by
  by_cases e : pt.getD i 0 = -1
  · exact e
  · have := h.r1 i hi e; omega
theorem rsim {ns : List Nd} (hb : ∀ d ∈ ns, atomB d.kind = true → d.kids = []) (hk : ∀ d ∈ ns, placesB d.kids ns.length = true) : ∀ {f : Nat} {st pl pt ord : List Int}, (∀ z ∈ st, 0 ≤ z ∧ z < ns.length) → Rr ns pl pt ord →
    Rr ns (followS ns f st pl ord).1 (rfollowS ns f st pt ord).1 (followS ns f st pl ord).2 ∧ (rfollowS ns f st pt ord).2 = (followS ns f st pl ord).2
  | 0, _, _, _, _, _, R => ⟨R, rfl⟩
  | f + 1, [], _, _, _, _, R => ⟨R, rfl⟩
  | f + 1, o :: st, pl, pt, ord, hs, R => by
    have ho := hs o (by simp)
    have hi : o.toNat < ns.length := by omega
    have hst : ∀ z ∈ st, 0 ≤ z ∧ z < (ns.length : Int) := fun z hz => hs z (by simp [hz])
    have hmem := getD_mem_nd hi
    unfold followS rfollowS
    by_cases hp : pl.getD o.toNat 0 = -1
    · rw [if_neg (fun hq => hq hp)]
      have ht := R.un hi hp
      have fresh : (atomB (ns.getD o.toNat default).kind = false ∨ findA ns ord (ns.getD o.toNat default) = none) → meetS ns pl ord o.toNat = (pl.set o.toNat ord.length, ord ++ [(o.toNat : Int)]) ∧ rmetS ns pt ord o.toNat = -1 := by
        intro hf
        unfold meetS rmetS
        rcases hf with hf | hf
        · rw [if_neg (by rw [hf]; decide), if_pos (.inr hf)]; exact ⟨rfl, ht⟩
        · by_cases ha : atomB (ns.getD o.toNat default).kind = true
          · rw [if_pos ha, hf, if_neg (by rw [ht, ha]; simp)]; exact ⟨rfl, rfl⟩
          · rw [if_neg ha, if_pos (.inr (by simpa using ha))]; exact ⟨rfl, ht⟩
      have go : (atomB (ns.getD o.toNat default).kind = false ∨ findA ns ord (ns.getD o.toNat default) = none) → Rr ns (pl.set o.toNat ord.length) (pt.set o.toNat ord.length) (ord ++ [(o.toNat : Int)]) := by
        intro hf
        have hlp : o.toNat < pl.length := by rw [R.plen]; exact hi
        have hlt : o.toNat < pt.length := by rw [R.tlen]; exact hi
        refine ⟨by rw [List.length_set]; exact R.plen, by rw [List.length_set]; exact R.tlen, fun i h1 h2 => ?_, fun i h1 h2 => ?_, fun i h1 h2 => ?_⟩
        · by_cases e : o.toNat = i
          · subst e; rw [getD_set_self hlp]; omega
          · rw [getD_set_ne e] at h2 ⊢; exact R.pos i h1 h2
        · by_cases e : o.toNat = i
          · subst e; rw [getD_set_self hlp, getD_set_self hlt]
          · rw [getD_set_ne e] at h2 ⊢; rw [getD_set_ne e]; exact R.r1 i h1 h2
        · by_cases e : o.toNat = i
          · subst e; left; rw [getD_set_self hlp, getD_set_self hlt]
          · rw [getD_set_ne e] at h2 ⊢; rw [getD_set_ne e]
            rcases R.r2 i h1 h2 with q | ⟨q1, q2, j, q3, q4⟩
            · exact .inl q
            · exact .inr ⟨q1, q2, j, findA_snoc_some q3, q4⟩
      by_cases ha : atomB (ns.getD o.toNat default).kind = true
      · cases hfo : findA ns ord (ns.getD o.toNat default) with
        | none =>
          obtain ⟨e1, e2⟩ := fresh (.inr hfo)
          rw [e1, e2, if_neg (by omega), hb _ hmem ha, List.nil_append]
          exact rsim hb hk hst (go (.inr hfo))
        | some j =>
          have e1 : meetS ns pl ord o.toNat = (pl.set o.toNat j, ord) := by unfold meetS; rw [if_pos ha, hfo]
          have e2 : rmetS ns pt ord o.toNat = j := by unfold rmetS; rw [if_neg (by rw [ht, ha]; simp), hfo]
          rw [e1, e2, if_pos (by omega), hb _ hmem ha, List.nil_append]
          refine rsim hb hk hst ⟨by rw [List.length_set]; exact R.plen, R.tlen, fun i h1 h2 => ?_, fun i h1 h2 => ?_, fun i h1 h2 => ?_⟩
          · by_cases e : o.toNat = i
            · subst e; rw [getD_set_self (by rw [R.plen]; exact hi)]; omega
            · rw [getD_set_ne e] at h2 ⊢; exact R.pos i h1 h2
          · by_cases e : o.toNat = i
            · subst e; exact absurd ht h2
            · rw [getD_set_ne e]; exact R.r1 i h1 h2
          · by_cases e : o.toNat = i
            · subst e; right; exact ⟨ht, ha, j, hfo, getD_set_self (by rw [R.plen]; exact hi)⟩
            · rw [getD_set_ne e] at h2 ⊢; exact R.r2 i h1 h2
      · obtain ⟨e1, e2⟩ := fresh (.inl (by simpa using ha))
        rw [e1, e2, if_neg (by omega)]
        refine rsim hb hk ?_ (go (.inl (by simpa using ha)))
        intro z hz
        rcases List.mem_append.1 hz with hz | hz
        · exact places_rng (hk _ hmem) z hz
        · exact hst z hz
    · rw [if_pos hp, R.met hi hp, if_pos (R.pos _ hi hp)]
      exact rsim hb hk hst R
def rmetL (ns : List Nd) (pt ord l : List Int) : List Int := l.map fun o => rmetS ns pt ord o.toNat
def rnewNode (ns : List Nd) (pt ord : List Int) (o : Int) : Nd := { ns.getD o.toNat default with kids := rmetL ns pt ord (ns.getD o.toNat default).kids }
/-- The order, as the document tells it. -/
def rcanonG (ns : List Nd) (rs : List Int) (f : Nat) : List Nd × List Int :=
  if goodG ns rs = true then
    let s := rfollowS ns f rs (start ns.length).1 (start ns.length).2
    (s.2.map (rnewNode ns s.1 s.2), rmetL ns s.1 s.2 rs)
  else ([], [])
theorem rcanon_eq {ns : List Nd} {rs : List Int} {f : Nat} (h : Fine ns rs f) (hf : rs.length + 100 * ns.length ≤ f) : rcanonG ns rs f = canonG ns rs f := by
  obtain ⟨q0, q1, q2⟩ := h.ends
  obtain ⟨hk, hr⟩ := goodG_parts h.good
  have hrr := places_rng hr
  have hst : ∀ i, i < ns.length → (start ns.length).1.getD i 0 = -1 := fun i hi => by
    rcases start_get ns.length i with q | q
    · exact q
    · omega
  have hF : Fv ns ns.length rs (start ns.length).1 (start ns.length).2 f := ⟨by simp [start], rfl, hk, hrr, by have := um_le (ns := ns) (pl := (start ns.length).1) h.kids; omega, by simp [start]⟩
  have e0 : endS ns rs f = followS ns f rs (start ns.length).1 (start ns.length).2 := followR_all hF
  have R0 : Rr ns (start ns.length).1 (start ns.length).1 (start ns.length).2 := ⟨by simp [start], by simp [start], fun i hi hp => absurd (hst i hi) hp, fun i hi hp => absurd (hst i hi) hp, fun i hi hp => absurd (hst i hi) hp⟩
  obtain ⟨R, eo⟩ := rsim (goodG_bare h.good) hk (f := f) (st := rs) hrr R0
  rw [← e0] at R eo
  rw [h.canon]
  unfold rcanonG
  rw [if_pos h.good]
  simp only
  rw [eo]
  generalize (rfollowS ns f rs (start ns.length).1 (start ns.length).2).1 = T at *
  have hm : ∀ k : Int, 0 ≤ k → k < ns.length → (endS ns rs f).1.getD k.toNat 0 ≠ -1 → rmetS ns T (endS ns rs f).2 k.toNat = (endS ns rs f).1.getD k.toNat 0 := fun k k0 k1 hk => R.met (by omega) hk
  refine Prod.ext ?_ ?_
  · refine List.map_congr_left fun o ho => ?_
    obtain ⟨j, hj, e⟩ := List.getElem_of_mem ho
    have hoj : (endS ns rs f).2.getD j 0 = o := by rw [List.getD_eq_getElem?_getD, List.getElem?_eq_getElem hj]; exact e
    obtain ⟨r1, r2, r3⟩ := q1.ordr j hj
    rw [hoj] at r1 r2 r3
    refine nd_ext rfl rfl rfl ?_
    show rmetL ns T (endS ns rs f).2 (ns.getD o.toNat default).kids = renum (endS ns rs f).1 (ns.getD o.toNat default).kids
    refine List.map_congr_left fun k hkk => ?_
    have hkr := places_rng (hk _ (getD_mem_nd (by omega : o.toNat < ns.length))) k hkk
    refine hm k hkr.1 hkr.2 ?_
    rcases q1.cl o r1 r2 (by rw [r3]; omega) k hkk with q | q
    · exact q
    · cases q
  · refine List.map_congr_left fun k hkk => ?_
    exact hm k (hrr k hkk).1 (hrr k hkk).2 (q2 k hkk)
end Go.Proofs.YtfkdpomhojhapaaDoor
