/-
  Two graphs that are followed side by side: plain mathematics.
-/
import Derived.Test.YtfkdpomhojhapaaDoorG20
set_option linter.unusedVariables false
set_option linter.unusedSimpArgs false
namespace Go.Proofs.YtfkdpomhojhapaaDoor
open Go.RowKit

theorem getD_set_self {l : List Int} {i : Nat} {z d : Int} (h : i < l.length) : (l.set i z).getD i d = z := by
  rw [List.getD_eq_getElem?_getD, List.getElem?_set_self h]; rfl
theorem getD_set_ne {l : List Int} {i j : Nat} {z d : Int} (h : i ≠ j) : (l.set i z).getD j d = l.getD j d := by
  rw [List.getD_eq_getElem?_getD, List.getElem?_set_ne h, List.getD_eq_getElem?_getD]
theorem sameA.symm {a b : Nd} (h : sameA a b) : sameA b a := ⟨h.1.symm, h.2.1.symm, h.2.2.symm⟩
theorem sameA.trans {a b c : Nd} (h : sameA a b) (h2 : sameA b c) : sameA a c := ⟨h.1.trans h2.1, h.2.1.trans h2.2.1, h.2.2.trans h2.2.2⟩
theorem sameA.rfl' (a : Nd) : sameA a a := ⟨rfl, rfl, rfl⟩
theorem decide_sameA {a b c d : Nd} (h : sameA a c) (h2 : sameA b d) : decide (sameA a b) = decide (sameA c d) := by
  by_cases q : sameA a b
  · have : sameA c d := h.symm.trans (q.trans h2)
    simp [q, this]
  · have : ¬ sameA c d := fun q2 => q (h.trans (q2.trans h2.symm))
    simp [q, this]
theorem findA_map {ns ns' : List Nd} {φ : Int → Int} : ∀ {ord : List Int} {d e : Nd}, (∀ o ∈ ord, sameA (ns'.getD (φ o).toNat default) (ns.getD o.toNat default)) → sameA d e → findA ns' (ord.map φ) d = findA ns ord e
  | [], _, _, _, _ => rfl
  | o :: ord, d, e, h, hd => by
    have ih := findA_map (ord := ord) (fun x hx => h x (by simp [hx])) hd
    have h0 := h o (by simp)
    unfold findA at *
    simp only [List.map_cons, List.findIdx?_cons, ih, decide_sameA h0 hd, h0.1]
theorem findA_congr {ns : List Nd} {ord : List Int} {d e : Nd} (h : sameA d e) : findA ns ord d = findA ns ord e := by
  have := findA_map (ns := ns) (ns' := ns) (φ := id) (ord := ord) (fun o _ => sameA.rfl' _) h
  simpa using this
theorem findA_snoc_some {ns : List Nd} {ord : List Int} {d : Nd} {o : Int} {j : Nat} (h : findA ns ord d = some j) : findA ns (ord ++ [o]) d = some j := by
  unfold findA at *
  rw [List.findIdx?_append, h]; rfl
theorem findA_snoc_none {ns : List Nd} {ord : List Int} {d : Nd} {o : Int} (h : findA ns ord d = none) (ha : atomB (ns.getD o.toNat default).kind = true) (hs : sameA (ns.getD o.toNat default) d) : findA ns (ord ++ [o]) d = some ord.length := by
  unfold findA at *
  rw [List.findIdx?_append, h]
  rw [List.findIdx?_cons, ha, decide_eq_true hs]; simp
theorem findA_lt {ns : List Nd} {ord : List Int} {d : Nd} {j : Nat} (h : findA ns ord d = some j) : j < ord.length := by
  unfold findA at h
  exact (List.findIdx?_eq_some_iff_getElem.1 h).1
theorem findA_get {ns : List Nd} {ord : List Int} {d : Nd} {j : Nat} (h : findA ns ord d = some j) : atomB (ns.getD (ord.getD j 0).toNat default).kind = true ∧ sameA (ns.getD (ord.getD j 0).toNat default) d := by
  unfold findA at h
  obtain ⟨h1, h2, _⟩ := List.findIdx?_eq_some_iff_getElem.1 h
  have e : ord.getD j 0 = ord[j] := by rw [List.getD_eq_getElem?_getD, List.getElem?_eq_getElem h1]; rfl
  rw [e]
  rw [Bool.and_eq_true, decide_eq_true_eq] at h2
  exact h2

/-- What following two graphs side by side goes by. -/
structure Sim (ns ns' : List Nd) (φ : Int → Int) (M : Int → Prop) : Prop where
  rng : ∀ i, M i → 0 ≤ i ∧ i < ns.length
  rng' : ∀ i, M i → 0 ≤ φ i ∧ φ i < ns'.length
  kids : ∀ i, M i → ∀ k ∈ (ns.getD i.toNat default).kids, M k
  node : ∀ i, M i → ns'.getD (φ i).toNat default = { ns.getD i.toNat default with kids := (ns.getD i.toNat default).kids.map φ }
  inj : ∀ i i', M i → M i' → φ i = φ i' → i = i' ∨ atomB (ns.getD i.toNat default).kind = true
  bare : ∀ i, M i → atomB (ns.getD i.toNat default).kind = true → (ns.getD i.toNat default).kids = []
structure Rel (ns ns' : List Nd) (φ : Int → Int) (M : Int → Prop) (pl ord pl' ord' : List Int) : Prop where
  plen : pl.length = ns.length
  plen' : pl'.length = ns'.length
  ord_ : ord' = ord.map φ
  om : ∀ o ∈ ord, M o
  pl_ : ∀ i, M i → pl.getD i.toNat 0 ≠ -1 → pl'.getD (φ i).toNat 0 = pl.getD i.toNat 0
  un : ∀ i, M i → pl.getD i.toNat 0 = -1 → pl'.getD (φ i).toNat 0 = -1 ∨ (atomB (ns.getD i.toNat default).kind = true ∧ ∃ j, findA ns ord (ns.getD i.toNat default) = some j ∧ pl'.getD (φ i).toNat 0 = (j : Int))
section
variable {ns ns' : List Nd} {φ : Int → Int} {M : Int → Prop}
theorem Sim.same (S : Sim ns ns' φ M) {i : Int} (h : M i) : sameA (ns'.getD (φ i).toNat default) (ns.getD i.toNat default) := by
  rw [S.node i h]; exact ⟨rfl, rfl, rfl⟩
theorem Sim.find (S : Sim ns ns' φ M) {i : Int} (h : M i) {ord : List Int} (ho : ∀ o ∈ ord, M o) : findA ns' (ord.map φ) (ns'.getD (φ i).toNat default) = findA ns ord (ns.getD i.toNat default) :=
  findA_map (fun o h2 => S.same (ho o h2)) (S.same h)
/-- Both meet a node and give it the same place z. -/
theorem Rel.both (S : Sim ns ns' φ M) {pl ord pl' ord' : List Int} (R : Rel ns ns' φ M pl ord pl' ord') {o : Int} (ho : M o) (hp : pl.getD o.toNat 0 = -1) (hp' : pl'.getD (φ o).toNat 0 = -1) (z : Nat) (ord2 ord2' : List Int) (e : ord2' = ord2.map φ) (om : ∀ x ∈ ord2, M x)
    (hz : ∀ i, M i → φ i = φ o → i ≠ o → findA ns ord2 (ns.getD i.toNat default) = some z) (hk : ∀ i j, findA ns ord (ns.getD i default) = some j → findA ns ord2 (ns.getD i default) = some j) : Rel ns ns' φ M (pl.set o.toNat z) ord2 (pl'.set (φ o).toNat z) ord2' := by
  have r0 := S.rng o ho
  have r1 := S.rng' o ho
  refine ⟨by rw [List.length_set]; exact R.plen, by rw [List.length_set]; exact R.plen', e, om, fun i hi hn => ?_, fun i hi hn => ?_⟩
  · have q0 := S.rng i hi
    have q1 := S.rng' i hi
    by_cases hio : i = o
    · subst hio
      rw [getD_set_self (by rw [R.plen']; omega), getD_set_self (by rw [R.plen]; omega)]
    · rw [getD_set_ne (by omega)] at hn
      rw [getD_set_ne (by omega : o.toNat ≠ i.toNat)]
      have := R.pl_ i hi hn
      by_cases hf : φ i = φ o
      · rw [hf, hp'] at this; exact absurd this.symm hn
      · rw [getD_set_ne (by omega)]; exact this
  · have q0 := S.rng i hi
    have q1 := S.rng' i hi
    have hio : i ≠ o := by
      rintro rfl
      rw [getD_set_self (by rw [R.plen]; omega)] at hn; omega
    rw [getD_set_ne (by omega)] at hn
    by_cases hf : φ i = φ o
    · right
      refine ⟨?_, z, hz i hi hf hio, ?_⟩
      · rcases S.inj i o hi ho hf with h | h
        · exact absurd h hio
        · exact h
      · rw [hf, getD_set_self (by rw [R.plen']; omega)]
    · rw [getD_set_ne (by omega)]
      rcases R.un i hi hn with h | ⟨h1, j, h2, h3⟩
      · exact .inl h
      · exact .inr ⟨h1, j, hk _ _ h2, h3⟩
theorem sim_follow (S : Sim ns ns' φ M) : ∀ {f : Nat} {st pl ord pl' ord' : List Int}, (∀ z ∈ st, M z) → Rel ns ns' φ M pl ord pl' ord' →
    Rel ns ns' φ M (followS ns f st pl ord).1 (followS ns f st pl ord).2 (followS ns' f (st.map φ) pl' ord').1 (followS ns' f (st.map φ) pl' ord').2
  | 0, _, _, _, _, _, _, R => R
  | f + 1, [], _, _, _, _, _, R => R
  | f + 1, o :: st, pl, ord, pl', ord', hs, R => by
    have ho := hs o (by simp)
    have hst : ∀ z ∈ st, M z := fun z hz => hs z (by simp [hz])
    have r0 := S.rng o ho
    have r1 := S.rng' o ho
    unfold followS
    simp only [List.map_cons]
    by_cases hp : pl.getD o.toNat 0 = -1
    · rw [if_neg (fun hq => hq hp)]
      by_cases hp' : pl'.getD (φ o).toNat 0 = -1
      · rw [if_neg (fun hq => hq hp')]
        have hn := S.node o ho
        have hkids : (ns'.getD (φ o).toNat default).kids ++ List.map φ st = ((ns.getD o.toNat default).kids ++ st).map φ := by rw [hn, List.map_append]
        rw [hkids]
        refine sim_follow S ?_ ?_
        · intro z hz
          rcases List.mem_append.1 hz with hz | hz
          · exact S.kids o ho z hz
          · exact hst z hz
        · have hkind : (ns'.getD (φ o).toNat default).kind = (ns.getD o.toNat default).kind := by rw [hn]
          have hfind := S.find ho (ord := ord) R.om
          rw [← R.ord_] at hfind
          have hol : ord'.length = ord.length := by rw [R.ord_, List.length_map]
          have fresh : atomB (ns.getD o.toNat default).kind = false ∨ findA ns ord (ns.getD o.toNat default) = none → Rel ns ns' φ M (pl.set o.toNat ord.length) (ord ++ [o]) (pl'.set (φ o).toNat ord'.length) (ord' ++ [φ o]) := by
            intro hf
            rw [hol]
            refine Rel.both S R ho hp hp' _ _ _ (by rw [R.ord_]; simp) ?_ ?_ (fun _ _ h => findA_snoc_some h)
            · intro x hx
              rcases List.mem_append.1 hx with hx | hx
              · exact R.om x hx
              · have : x = o := by simpa using hx
                rw [this]; exact ho
            · intro i hi hfi hio
              have hsm : sameA (ns.getD o.toNat default) (ns.getD i.toNat default) := (S.same ho).symm.trans (by rw [← hfi]; exact S.same hi)
              have hat : atomB (ns.getD o.toNat default).kind = true := by
                rcases S.inj o i ho hi hfi.symm with h | h
                · exact absurd h.symm hio
                · exact h
              rcases hf with hf | hf
              · rw [hf] at hat; cases hat
              · rw [findA_congr hsm] at hf
                exact findA_snoc_none hf hat hsm
          unfold meetS
          rw [hkind, hfind, Int.toNat_of_nonneg r0.1, Int.toNat_of_nonneg r1.1]
          by_cases hat : atomB (ns.getD o.toNat default).kind = true
          · rw [if_pos hat, if_pos hat]
            cases hfo : findA ns ord (ns.getD o.toNat default) with
            | some j =>
              refine Rel.both S R ho hp hp' j _ _ R.ord_ R.om ?_ (fun _ _ h => h)
              intro i hi hfi hio
              have hsm : sameA (ns.getD o.toNat default) (ns.getD i.toNat default) := (S.same ho).symm.trans (by rw [← hfi]; exact S.same hi)
              rw [← findA_congr hsm]; exact hfo
            | none => exact fresh (.inr hfo)
          · rw [if_neg hat, if_neg hat]
            exact fresh (.inl (by simpa using hat))
      · rw [if_pos hp']
        rcases R.un o ho hp with h | ⟨hat, j, hj, hpj⟩
        · exact absurd h hp'
        · rw [S.bare o ho hat, List.nil_append]
          have hm : meetS ns pl ord o.toNat = (pl.set o.toNat j, ord) := by unfold meetS; rw [if_pos hat, hj]
          rw [hm]
          refine sim_follow S hst ⟨by rw [List.length_set]; exact R.plen, R.plen', R.ord_, R.om, fun i hi hn => ?_, fun i hi hn => ?_⟩
          · have q0 := S.rng i hi
            by_cases hio : i = o
            · subst hio
              rw [getD_set_self (by rw [R.plen]; omega)]; exact hpj
            · rw [getD_set_ne (by omega)] at hn ⊢
              exact R.pl_ i hi hn
          · have q0 := S.rng i hi
            have hio : i ≠ o := by
              rintro rfl
              rw [getD_set_self (by rw [R.plen]; omega)] at hn; omega
            rw [getD_set_ne (by omega)] at hn
            exact R.un i hi hn
    · rw [if_pos hp, if_pos (by rw [R.pl_ o ho hp]; exact hp)]
      exact sim_follow S hst R
theorem sim_roots (S : Sim ns ns' φ M) (f : Nat) : ∀ {rs : List Int} {s s' : List Int × List Int}, (∀ z ∈ rs, M z) → Rel ns ns' φ M s.1 s.2 s'.1 s'.2 →
    Rel ns ns' φ M (followR ns f rs s).1 (followR ns f rs s).2 (followR ns' f (rs.map φ) s').1 (followR ns' f (rs.map φ) s').2
  | [], _, _, _, R => R
  | r :: rs, s, s', h, R => by
    have := sim_follow S (f := f) (st := [r]) (fun z hz => h z (by simp_all)) R
    exact sim_roots S f (rs := rs) (s := followS ns f [r] s.1 s.2) (s' := followS ns' f [φ r] s'.1 s'.2) (fun z hz => h z (by simp [hz])) this
theorem sim_start (S : Sim ns ns' φ M) : Rel ns ns' φ M (start ns.length).1 (start ns.length).2 (start ns'.length).1 (start ns'.length).2 := by
  have rep : ∀ (n : Nat) (i : Int), 0 ≤ i ∧ i < n → (List.replicate n (-1 : Int)).getD i.toNat 0 = -1 := fun n i h => by
    rw [List.getD_eq_getElem?_getD, List.getElem?_replicate, if_pos (by omega)]; rfl
  refine ⟨by simp [start], by simp [start], rfl, (fun o ho => by cases ho), fun i hi hn => ?_, fun i hi hn => ?_⟩
  · exact absurd (rep _ _ (S.rng i hi)) hn
  · exact .inl (rep _ _ (S.rng' i hi))
end
end Go.Proofs.YtfkdpomhojhapaaDoor
