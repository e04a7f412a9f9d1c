/-
  The order of a graph: it is its own order, and does not hang on places: plain mathematics.
-/
import Derived.Test.YtfkdpomhojhapaaDoorM2
set_option linter.unusedVariables false
set_option linter.unusedSimpArgs false
namespace Go.Proofs.YtfkdpomhojhapaaDoor
open Go.RowKit

theorem nd_ext {a b : Nd} (h1 : a.kind = b.kind) (h2 : a.num = b.num) (h3 : a.text = b.text) (h4 : a.kids = b.kids) : a = b := by
  cases a; cases b; simp only at h1 h2 h3 h4; subst h1 h2 h3 h4; rfl
theorem goodG_bare {ns : List Nd} {rs : List Int} (h : goodG ns rs = true) : ∀ d ∈ ns, atomB d.kind = true → d.kids = [] := by
  intro d hd ha
  unfold goodG at h
  rw [Bool.and_eq_true] at h
  have := List.all_eq_true.1 h.1 d hd
  unfold nodeB at this
  simp only [Bool.and_eq_true] at this
  have hc := this.1.2
  unfold atomB at ha
  unfold countB at hc
  simp only [Bool.or_eq_true, decide_eq_true_eq] at ha
  rw [if_neg (by omega), if_neg (by omega), if_neg (by omega), decide_eq_true_eq] at hc
  exact List.length_eq_zero_iff.1 hc
theorem start_get (n : Nat) (i : Nat) : (start n).1.getD i 0 = -1 ∨ n ≤ i := by
  unfold start
  by_cases h : i < n
  · left; rw [List.getD_eq_getElem?_getD, List.getElem?_replicate, if_pos h]; rfl
  · exact .inr (by omega)
theorem Cv.start_ {ns : List Nd} {rs : List Int} (h : goodG ns rs = true) : Cv ns rs [] (start ns.length).1 (start ns.length).2 := by
  have hn : ∀ i : Int, 0 ≤ i → i < ns.length → (start ns.length).1.getD i.toNat 0 = -1 := fun i i0 i1 => by
    rcases start_get ns.length i.toNat with q | q
    · exact q
    · omega
  exact ⟨by simp [start], (goodG_parts h).1, goodG_bare h, (fun z hz => by cases hz), (fun i i0 i1 hi => absurd (hn i i0 i1) hi), (fun i i0 i1 hi => absurd (hn i i0 i1) hi), (fun j hj => by simp [start] at hj), (fun j j' _ hj => by simp [start] at hj), (fun j hj => by simp [start] at hj), (fun z hz => by cases hz)⟩
/-- The state behind all roots. -/
def endS (ns : List Nd) (rs : List Int) (f : Nat) : List Int × List Int := followR ns f rs (start ns.length)
/-- A graph that can be put into order. -/
structure Fine (ns : List Nd) (rs : List Int) (f : Nat) : Prop where
  good : goodG ns rs = true
  kids : ∀ d ∈ ns, d.kids.length ≤ 100
  nn : ns.length ≤ 1000
  fuel : 1 + 100 * ns.length ≤ f
theorem Fine.ends {ns : List Nd} {rs : List Int} {f : Nat} (h : Fine ns rs f) : Sv ns ns.length (endS ns rs f).1 (endS ns rs f).2 ∧ Cv ns rs [] (endS ns rs f).1 (endS ns rs f).2 ∧ (∀ z ∈ rs, (endS ns rs f).1.getD z.toNat 0 ≠ -1) := by
  obtain ⟨hk, hr⟩ := goodG_parts h.good
  obtain ⟨q0, q1, q2, q3⟩ := Cv.roots (ns := ns) (rs := rs) (nn := ns.length) h.fuel h.nn (l := rs) (s := start ns.length) (fun _ h => h) (places_rng hr) (Sv.start_ hk h.kids) (Cv.start_ h.good)
  exact ⟨q0, q1, q3⟩
theorem Fine.canon {ns : List Nd} {rs : List Int} {f : Nat} (h : Fine ns rs f) : canonG ns rs f = ((endS ns rs f).2.map (newNode ns (endS ns rs f).1), renum (endS ns rs f).1 rs) := by
  unfold canonG; rw [if_pos h.good]; rfl
/-- Two graphs that go side by side have one order. -/
theorem canon_sim {ns ns' : List Nd} {φ : Int → Int} {M : Int → Prop} {rs : List Int} {f : Nat} (S : Sim ns ns' φ M) (h : Fine ns rs f) (hr : ∀ z ∈ rs, M z) (h' : goodG ns' (rs.map φ) = true) : canonG ns' (rs.map φ) f = canonG ns rs f := by
  have R := sim_roots S f (rs := rs) hr (sim_start S)
  obtain ⟨q0, q1, q2⟩ := h.ends
  rw [h.canon]
  unfold canonG
  rw [if_pos h']
  have e2 : (followR ns' f (rs.map φ) (start ns'.length)).2 = (endS ns rs f).2.map φ := R.ord_
  have hpl : ∀ i, M i → (endS ns rs f).1.getD i.toNat 0 ≠ -1 → (followR ns' f (rs.map φ) (start ns'.length)).1.getD (φ i).toNat 0 = (endS ns rs f).1.getD i.toNat 0 := R.pl_
  generalize (followR ns' f (rs.map φ) (start ns'.length)).1 = P' at *
  rw [e2, List.map_map]
  refine Prod.ext ?_ ?_
  · refine List.map_congr_left fun o ho => ?_
    have hM := R.om o ho
    have hM0 := S.rng o hM
    obtain ⟨j, hj, e⟩ := List.getElem_of_mem ho
    have hoj : (endS ns rs f).2.getD j 0 = o := by rw [List.getD_eq_getElem?_getD, List.getElem?_eq_getElem hj]; exact e
    have hmet : (endS ns rs f).1.getD o.toNat 0 ≠ -1 := by
      have := (q1.ordr j hj).2.2
      rw [hoj] at this; rw [this]; omega
    have hk : ∀ k ∈ (ns.getD o.toNat default).kids, (endS ns rs f).1.getD k.toNat 0 ≠ -1 := fun k hk => by
      rcases q1.cl o hM0.1 hM0.2 hmet k hk with q | q
      · exact q
      · cases q
    show newNode ns' P' (φ o) = newNode ns (endS ns rs f).1 o
    unfold newNode
    rw [S.node o hM]
    refine nd_ext rfl rfl rfl ?_
    show renum P' ((ns.getD o.toNat default).kids.map φ) = renum (endS ns rs f).1 (ns.getD o.toNat default).kids
    unfold renum
    rw [List.map_map]
    exact List.map_congr_left fun k hkk => hpl k (S.kids o hM k hkk) (hk k hkk)
  · show renum P' (rs.map φ) = renum (endS ns rs f).1 rs
    unfold renum
    rw [List.map_map]
    exact List.map_congr_left fun k hk => hpl k (hr k hk) (q2 k hk)
/-- What is in its order. -/
structure Ordered (ns : List Nd) (rs : List Int) : Prop where
  src : ∀ j, j < ns.length → (j : Int) ∈ rs ∨ ∃ i, i < j ∧ (j : Int) ∈ (ns.getD i default).kids
  dist : ∀ j j', j < j' → j' < ns.length → atomB (ns.getD j default).kind = true → ¬ sameA (ns.getD j default) (ns.getD j' default)
theorem getD_map_nd {l : List Int} {g : Int → Nd} {j : Nat} (h : j < l.length) : (l.map g).getD j default = g (l.getD j 0) := by
  rw [List.getD_eq_getElem?_getD, List.getElem?_map, List.getD_eq_getElem?_getD, List.getElem?_eq_getElem h]; rfl
section
variable {ns : List Nd} {rs : List Int} {f : Nat}
theorem Fine.len (h : Fine ns rs f) : (canonG ns rs f).1.length ≤ ns.length ∧ (canonG ns rs f).2.length = rs.length := by
  obtain ⟨q0, q1, q2⟩ := h.ends
  rw [h.canon]
  refine ⟨?_, by simp [renum]⟩
  simpa using q0.len
theorem Fine.ordered (h : Fine ns rs f) : Ordered (canonG ns rs f).1 (canonG ns rs f).2 := by
  obtain ⟨q0, q1, q2⟩ := h.ends
  rw [h.canon]
  refine ⟨fun j hj => ?_, fun j j' hj hj' ha => ?_⟩
  · rw [List.length_map] at hj
    have e := (q1.ordr j hj).2.2
    rcases q1.src j hj with q | ⟨i, q, q'⟩
    · left
      show (j : Int) ∈ renum (endS ns rs f).1 rs
      unfold renum
      rw [← e]
      exact List.mem_map_of_mem (f := fun o => (endS ns rs f).1.getD o.toNat 0) q
    · right
      refine ⟨i, q, ?_⟩
      rw [getD_map_nd (by omega)]
      show (j : Int) ∈ renum (endS ns rs f).1 (ns.getD ((endS ns rs f).2.getD i 0).toNat default).kids
      unfold renum
      rw [← e]
      exact List.mem_map_of_mem (f := fun o => (endS ns rs f).1.getD o.toNat 0) q'
  · rw [List.length_map] at hj'
    rw [getD_map_nd (by omega)] at ha ⊢
    rw [getD_map_nd hj']
    exact q1.dist j j' hj hj' ha
theorem Fine.sim (h : Fine ns rs f) : Sim ns (canonG ns rs f).1 (fun i => (endS ns rs f).1.getD i.toNat 0) (fun i => 0 ≤ i ∧ i < ns.length ∧ (endS ns rs f).1.getD i.toNat 0 ≠ -1) := by
  obtain ⟨q0, q1, q2⟩ := h.ends
  rw [h.canon]
  refine ⟨fun i hi => ⟨hi.1, hi.2.1⟩, fun i hi => ?_, fun i hi k hk => ?_, fun i hi => ?_, fun i i' hi hi' e => ?_, fun i hi ha => ?_⟩
  · obtain ⟨v1, v2, _⟩ := q1.val i hi.1 hi.2.1 hi.2.2
    exact ⟨v1, by rw [List.length_map]; exact v2⟩
  · have hr := places_rng (q1.kids _ (getD_mem_nd (by omega : i.toNat < ns.length))) k hk
    rcases q1.cl i hi.1 hi.2.1 hi.2.2 k hk with q | q
    · exact ⟨hr.1, hr.2, q⟩
    · cases q
  · obtain ⟨v1, v2, v3⟩ := q1.val i hi.1 hi.2.1 hi.2.2
    rw [getD_map_nd (by omega)]
    unfold newNode renum
    rcases v3 with e | ⟨ha, hs⟩
    · rw [e]
    · have hk := q1.bare _ (getD_mem_nd (by omega : i.toNat < ns.length)) ha
      have hr := (q1.ordr _ (by omega : ((endS ns rs f).1.getD i.toNat 0).toNat < (endS ns rs f).2.length))
      have hk' := q1.bare _ (getD_mem_nd (by omega : ((endS ns rs f).2.getD ((endS ns rs f).1.getD i.toNat 0).toNat 0).toNat < ns.length)) (by rw [hs.1]; exact ha)
      rw [hk', hk]
      exact nd_ext hs.1 hs.2.1 hs.2.2 rfl
  · obtain ⟨v1, v2, v3⟩ := q1.val i hi.1 hi.2.1 hi.2.2
    obtain ⟨w1, w2, w3⟩ := q1.val i' hi'.1 hi'.2.1 hi'.2.2
    have e' : (endS ns rs f).1.getD i.toNat 0 = (endS ns rs f).1.getD i'.toNat 0 := e
    rw [← e'] at w3
    rcases v3 with v3 | ⟨ha, _⟩
    · rcases w3 with w3 | ⟨ha, hs⟩
      · exact .inl (v3.symm.trans w3)
      · right
        rw [v3] at hs
        rw [hs.1]; exact ha
    · exact .inr ha
  · exact q1.bare _ (getD_mem_nd (by omega : i.toNat < ns.length)) ha
theorem nodeB_parts {n : Nat} {d : Nd} (h : nodeB n d = true) : (decide (1 ≤ d.kind) && decide (d.kind ≤ 17) && numB d.kind d.num && textB d.kind d.text && countB d.kind d.kids.length) = true ∧ placesB d.kids n = true := by
  unfold nodeB at h; rw [Bool.and_eq_true] at h; exact h
theorem Fine.goodC (h : Fine ns rs f) : goodG (canonG ns rs f).1 (canonG ns rs f).2 = true := by
  have S := h.sim
  have he := h.ends
  obtain ⟨q0, q1, q2⟩ := he
  have hcl : (canonG ns rs f).1.length = (endS ns rs f).2.length := by rw [h.canon]; simp
  have hpl : ∀ z : Int, 0 ≤ z → z < ns.length → (endS ns rs f).1.getD z.toNat 0 ≠ -1 → placeB (canonG ns rs f).1.length ((endS ns rs f).1.getD z.toNat 0) = true := by
    intro z z0 z1 hz
    obtain ⟨v1, v2, _⟩ := q1.val z z0 z1 hz
    unfold placeB
    rw [hcl, Bool.and_eq_true, decide_eq_true_eq, decide_eq_true_eq]
    exact ⟨v1, v2⟩
  have hrr := places_rng (goodG_parts h.good).2
  unfold goodG
  rw [Bool.and_eq_true]
  constructor
  · rw [List.all_eq_true]
    intro d hd
    have hd' := hd
    rw [h.canon] at hd'
    obtain ⟨o, ho, rfl⟩ := List.mem_map.1 hd'
    obtain ⟨j, hj, e⟩ := List.getElem_of_mem ho
    have hoj : (endS ns rs f).2.getD j 0 = o := by rw [List.getD_eq_getElem?_getD, List.getElem?_eq_getElem hj]; exact e
    obtain ⟨r1, r2, r3⟩ := q1.ordr j hj
    rw [hoj] at r1 r2 r3
    have hmem : ns.getD o.toNat default ∈ ns := getD_mem_nd (by omega)
    have hg := h.good
    unfold goodG at hg
    rw [Bool.and_eq_true] at hg
    obtain ⟨p1, p2⟩ := nodeB_parts (List.all_eq_true.1 hg.1 _ hmem)
    unfold nodeB
    rw [Bool.and_eq_true]
    refine ⟨?_, ?_⟩
    · unfold newNode renum
      simpa using p1
    · unfold placesB newNode renum
      rw [List.all_map, List.all_eq_true]
      intro k hk
      have hkr := places_rng p2 k hk
      refine hpl k hkr.1 hkr.2 ?_
      rcases q1.cl o r1 r2 (by rw [r3]; omega) k hk with q | q
      · exact q
      · cases q
  · have e : (canonG ns rs f).2 = renum (endS ns rs f).1 rs := by rw [h.canon]
    rw [e]
    unfold placesB renum
    rw [List.all_map, List.all_eq_true]
    intro k hk
    have hkr := hrr k hk
    exact hpl k hkr.1 hkr.2 (q2 k hk)
/-- What is in its order stays. -/
theorem Fine.again (h : Fine ns rs f) : canonG (canonG ns rs f).1 (canonG ns rs f).2 f = canonG ns rs f := by
  have hrr := places_rng (goodG_parts h.good).2
  obtain ⟨q0, q1, q2⟩ := h.ends
  have e : (canonG ns rs f).2 = rs.map fun i => (endS ns rs f).1.getD i.toNat 0 := by rw [h.canon]; rfl
  have hg := h.goodC
  rw [e] at hg ⊢
  exact canon_sim h.sim h (fun z hz => ⟨(hrr z hz).1, (hrr z hz).2, q2 z hz⟩) hg
theorem Fine.kidsC (h : Fine ns rs f) : ∀ d ∈ (canonG ns rs f).1, d.kids.length ≤ 100 := by
  intro d hd
  rw [h.canon] at hd
  obtain ⟨o, ho, rfl⟩ := List.mem_map.1 hd
  obtain ⟨q0, q1, q2⟩ := h.ends
  have hr := q0.rng o ho
  have := h.kids _ (getD_mem_nd (by omega : o.toNat < ns.length))
  unfold newNode renum
  simpa using this
theorem Fine.smallC (h : Fine ns rs f) (hs : ∀ d ∈ ns, d.text.size ≤ 2000) : ∀ d ∈ (canonG ns rs f).1, d.text.size ≤ 2000 := by
  intro d hd
  rw [h.canon] at hd
  obtain ⟨o, ho, rfl⟩ := List.mem_map.1 hd
  obtain ⟨q0, q1, q2⟩ := h.ends
  have hr := q0.rng o ho
  exact hs (ns.getD o.toNat default) (getD_mem_nd (by omega : o.toNat < ns.length))
end

end Go.Proofs.YtfkdpomhojhapaaDoor
