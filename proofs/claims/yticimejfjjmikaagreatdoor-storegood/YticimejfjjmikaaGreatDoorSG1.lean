import Derived.Test.YticimejfjjmikaaGreatDoorM1
import Derived.Test.YticimejfjjmikaaGreatDoorG19
set_option linter.unusedVariables false
set_option linter.unusedSimpArgs false
namespace Go.Proofs.YticimejfjjmikaaGreatDoor
open Go.RowKit
theorem getD_snoc_lt {l : List Int} {x : Int} {j : Nat} (h : j < l.length) : (l ++ [x]).getD j 0 = l.getD j 0 := by
 rw [List.getD_eq_getElem?_getD, List.getElem?_append_left h, List.getD_eq_getElem?_getD]
theorem getD_snoc_eq (l : List Int) (x : Int) : (l ++ [x]).getD l.length 0 = x := by
 rw [List.getD_eq_getElem?_getD, List.getElem?_append_right (Nat.le_refl _)]; simp
structure Cv (ns : List Nd) (rs st pl ord : List Int) : Prop where
 plen : pl.length = ns.length
 kids : ∀ d ∈ ns, placesB d.kids ns.length = true
 bare : ∀ d ∈ ns, atomB d.kind = true -> d.kids = []
 srng : ∀ z ∈ st, 0 <= z /\ z < ns.length
 cl : ∀ i : Int, 0 <= i -> i < ns.length -> pl.getD i.toNat 0 ≠ -1 -> ∀ k ∈ (ns.getD i.toNat default).kids, pl.getD k.toNat 0 ≠ -1 \/ k ∈ st
 val : ∀ i : Int, 0 <= i -> i < ns.length -> pl.getD i.toNat 0 ≠ -1 -> 0 <= pl.getD i.toNat 0 /\ pl.getD i.toNat 0 < ord.length /\ (ord.getD (pl.getD i.toNat 0).toNat 0 = i \/ atomB (ns.getD i.toNat default).kind = true /\ sameA (ns.getD (ord.getD (pl.getD i.toNat 0).toNat 0).toNat default) (ns.getD i.toNat default))
 ordr : ∀ j, j < ord.length -> 0 <= ord.getD j 0 /\ ord.getD j 0 < ns.length /\ pl.getD (ord.getD j 0).toNat 0 = (j : Int)
 dist : ∀ j j', j < j' -> j' < ord.length -> atomB (ns.getD (ord.getD j 0).toNat default).kind = true -> ¬ sameA (ns.getD (ord.getD j 0).toNat default) (ns.getD (ord.getD j' 0).toNat default)
 src : ∀ j, j < ord.length -> ord.getD j 0 ∈ rs \/ ∃ i, i < j /\ ord.getD j 0 ∈ (ns.getD (ord.getD i 0).toNat default).kids
 ssrc : ∀ z ∈ st, z ∈ rs \/ ∃ i, i < ord.length /\ z ∈ (ns.getD (ord.getD i 0).toNat default).kids
section
variable {ns : List Nd} {rs : List Int}
theorem Cv.skip {o : Int} {st pl ord : List Int} (h : Cv ns rs (o :: st) pl ord) (hp : pl.getD o.toNat 0 ≠ -1) : Cv ns rs st pl ord :=
 ⟨h.plen, h.kids, h.bare, fun z hz => h.srng z (by simp [hz]), fun i h0 h1 hi k hk => by
  rcases h.cl i h0 h1 hi k hk with q | q
  ·exact .inl q
  ·rcases List.mem_cons.1 q with rfl | q
   ·exact .inl hp
   ·exact .inr q, h.val, h.ordr, h.dist, h.src, fun z hz => h.ssrc z (by simp [hz])⟩
theorem Cv.meet {o : Int} {st pl ord : List Int} (h : Cv ns rs (o :: st) pl ord) (hp : pl.getD o.toNat 0 = -1) : Cv ns rs ((ns.getD o.toNat default).kids ++ st) (meetS ns pl ord o.toNat).1 (meetS ns pl ord o.toNat).2 := by
 obtain ⟨h0, h1⟩ := h.srng o (by simp)
 have hmem : ns.getD o.toNat default ∈ ns := getD_mem_nd (by omega)
 have hol : o.toNat < pl.length := by rw [h.plen]; omega
 have hcl : ∀ z : Int, z ≠ -1 -> ∀ i : Int, 0 <= i -> i < ns.length -> (pl.set o.toNat z).getD i.toNat 0 ≠ -1 -> ∀ k ∈ (ns.getD i.toNat default).kids, (pl.set o.toNat z).getD k.toNat 0 ≠ -1 \/ k ∈ (ns.getD o.toNat default).kids ++ st := by
  intro z hz i i0 i1 hi k hk
  by_cases hio : i = o
  ·subst hio; exact .inr (List.mem_append_left _ hk)
  ·rw [getD_set_ne (by omega)] at hi
   have hkr := places_rng (h.kids _ (getD_mem_nd (by omega : i.toNat < ns.length))) k hk
   by_cases hko : k = o
   ·subst hko; rw [getD_set_self hol]; exact .inl hz
   ·rw [getD_set_ne (by omega)]
    rcases h.cl i i0 i1 hi k hk with q | q
    ·exact .inl q
    ·rcases List.mem_cons.1 q with rfl | q
     ·exact absurd rfl hko
     ·exact .inr (List.mem_append_right _ q)
 have hsr : ∀ z ∈ (ns.getD o.toNat default).kids ++ st, 0 <= z /\ z < ns.length := by
  intro z hz
  rcases List.mem_append.1 hz with hz | hz
  ·exact places_rng (h.kids _ hmem) z hz
  ·exact h.srng z (by simp [hz])
 have hno : ∀ j, j < ord.length -> ord.getD j 0 ≠ o := by
  intro j hj e
  have := (h.ordr j hj).2.2
  rw [e, hp] at this; omega
 have fresh : (atomB (ns.getD o.toNat default).kind = false \/ findA ns ord (ns.getD o.toNat default) = none) -> Cv ns rs ((ns.getD o.toNat default).kids ++ st) (pl.set o.toNat ord.length) (ord ++ [o]) := by
  intro hf
  refine ⟨by rw [List.length_set]; exact h.plen, h.kids, h.bare, hsr, hcl _ (by omega), fun i i0 i1 hi => ?_, fun j hj => ?_, fun j j' hj hj' ha => ?_, fun j hj => ?_, fun z hz => ?_⟩
  ·by_cases hio : i = o
   ·subst hio
    rw [getD_set_self hol]
    refine ⟨by omega, by rw [List.length_append, List.length_singleton]; omega, .inl ?_⟩
    rw [Int.toNat_natCast, getD_snoc_eq]
   ·rw [getD_set_ne (by omega)] at hi ⊢
    obtain ⟨q1, q2, q3⟩ := h.val i i0 i1 hi
    rw [getD_snoc_lt (by omega)]
    exact ⟨q1, by rw [List.length_append, List.length_singleton]; omega, q3⟩
  ·rw [List.length_append, List.length_singleton] at hj
   by_cases hjl : j < ord.length
   ·rw [getD_snoc_lt hjl]
    obtain ⟨q1, q2, q3⟩ := h.ordr j hjl
    have := hno j hjl
    exact ⟨q1, q2, by rw [getD_set_ne (by omega)]; exact q3⟩
   ·obtain rfl : j = ord.length := by omega
    rw [getD_snoc_eq]
    exact ⟨h0, h1, getD_set_self hol⟩
  ·rw [List.length_append, List.length_singleton] at hj'
   have hjl : j < ord.length := by omega
   rw [getD_snoc_lt hjl] at ha ⊢
   by_cases hjl' : j' < ord.length
   ·rw [getD_snoc_lt hjl']; exact h.dist j j' hj hjl' ha
   ·obtain rfl : j' = ord.length := by omega
    rw [getD_snoc_eq]
    intro hs
    rcases hf with hf | hf
    ·rw [hs.1, hf] at ha; cases ha
    ·unfold findA at hf
     rw [List.findIdx?_eq_none_iff] at hf
     have hm : ord.getD j 0 ∈ ord := by rw [List.getD_eq_getElem?_getD, List.getElem?_eq_getElem hjl]; exact List.getElem_mem hjl
     have := hf _ hm
     rw [ha, decide_eq_true hs] at this; cases this
  ·rw [List.length_append, List.length_singleton] at hj
   by_cases hjl : j < ord.length
   ·rw [getD_snoc_lt hjl]
    rcases h.src j hjl with q | ⟨i, q1, q2⟩
    ·exact .inl q
    ·exact .inr ⟨i, q1, by rw [getD_snoc_lt (by omega)]; exact q2⟩
   ·obtain rfl : j = ord.length := by omega
    rw [getD_snoc_eq]
    rcases h.ssrc o (by simp) with q | ⟨i, q1, q2⟩
    ·exact .inl q
    ·exact .inr ⟨i, q1, by rw [getD_snoc_lt q1]; exact q2⟩
  ·rcases List.mem_append.1 hz with hz | hz
   ·exact .inr ⟨ord.length, by simp, by rw [getD_snoc_eq]; exact hz⟩
   ·rcases h.ssrc z (by simp [hz]) with q | ⟨i, q1, q2⟩
    ·exact .inl q
    ·exact .inr ⟨i, by simp; omega, by rw [getD_snoc_lt q1]; exact q2⟩
 unfold meetS
 rw [Int.toNat_of_nonneg h0]
 by_cases hat : atomB (ns.getD o.toNat default).kind = true
 ·rw [if_pos hat]
  cases hfo : findA ns ord (ns.getD o.toNat default) with
  | none => exact fresh (.inr hfo)
  | some j =>
   have hj := findA_lt hfo
   obtain ⟨g1, g2⟩ := findA_get hfo
   have hk0 := h.bare _ hmem hat
   show Cv ns rs ((ns.getD o.toNat default).kids ++ st) (pl.set o.toNat (j : Int)) ord
   refine ⟨by rw [List.length_set]; exact h.plen, h.kids, h.bare, hsr, hcl _ (by omega), fun i i0 i1 hi => ?_, fun j2 hj2 => ?_, h.dist, h.src, fun z hz => ?_⟩
   ·by_cases hio : i = o
    ·subst hio
     rw [getD_set_self hol]
     exact ⟨by omega, by omega, .inr ⟨hat, by rw [Int.toNat_natCast]; exact g2⟩⟩
    ·rw [getD_set_ne (by omega)] at hi ⊢
     exact h.val i i0 i1 hi
   ·obtain ⟨q1, q2, q3⟩ := h.ordr j2 hj2
    have := hno j2 hj2
    exact ⟨q1, q2, by rw [getD_set_ne (by omega)]; exact q3⟩
   ·rw [hk0, List.nil_append] at hz
    exact h.ssrc z (by simp [hz])
 ·rw [if_neg hat]; exact fresh (.inl (by simpa using hat))
theorem meetS_mono {pl ord : List Int} {old : Nat} {i : Nat} (h : pl.getD i 0 ≠ -1) (hl : old < pl.length) : (meetS ns pl ord old).1.getD i 0 ≠ -1 := by
 obtain ⟨z, hz1, hz2, hz3, hz4⟩ := meetS_facts ns pl ord old
 rw [hz3]
 by_cases e : old = i
 ·subst e; rw [getD_set_self hl]; exact hz1
 ·rw [getD_set_ne e]; exact h
theorem Cv.end_ {nn : Nat} : ∀ {f : Nat} {st pl ord : List Int}, Fv ns nn st pl ord f -> Cv ns rs st pl ord ->
  Cv ns rs [] (followS ns f st pl ord).1 (followS ns f st pl ord).2 /\ (∀ i, pl.getD i 0 ≠ -1 -> (followS ns f st pl ord).1.getD i 0 ≠ -1) /\ (∀ z ∈ st, (followS ns f st pl ord).1.getD z.toNat 0 ≠ -1)
 | 0, st, pl, ord, h, c => by
  have := h.fu
  obtain rfl : st = [] := List.length_eq_zero_iff.1 (by omega)
  exact ⟨c, fun _ h => h, fun z hz => by cases hz⟩
 | f + 1, [], pl, ord, h, c => ⟨c, fun _ h => h, fun z hz => by cases hz⟩
 | f + 1, o :: st, pl, ord, h, c => by
  unfold followS
  have hr := h.rng o (by simp)
  have hl : o.toNat < pl.length := by rw [h.plen]; omega
  by_cases hp : pl.getD o.toNat 0 = -1
  ·rw [if_neg (fun hq => hq hp)]
   obtain ⟨q1, q2, q3⟩ := (Cv.end_ (h.meet hp) (c.meet hp))
   refine ⟨q1, fun i hi => q2 i (meetS_mono hi hl), fun z hz => ?_⟩
   rcases List.mem_cons.1 hz with rfl | hz
   ·refine q2 _ ?_
    obtain ⟨y, hy1, hy2, hy3, hy4⟩ := meetS_facts ns pl ord z.toNat
    rw [hy3, getD_set_self hl]; exact hy1
   ·exact q3 z (by simp [hz])
  ·rw [if_pos hp]
   obtain ⟨q1, q2, q3⟩ := (Cv.end_ h.skip (c.skip hp))
   refine ⟨q1, q2, fun z hz => ?_⟩
   rcases List.mem_cons.1 hz with rfl | hz
   ·exact q2 _ hp
   ·exact q3 z hz
theorem Cv.push {pl ord : List Int} (h : Cv ns rs [] pl ord) {r : Int} (hr : r ∈ rs) (hrr : 0 <= r /\ r < ns.length) : Cv ns rs [r] pl ord :=
 ⟨h.plen, h.kids, h.bare, (fun z hz => by obtain rfl : z = r := (by simpa using hz); exact hrr), (fun i i0 i1 hi k hk => by
  rcases h.cl i i0 i1 hi k hk with q | q
  ·exact .inl q
  ·cases q), h.val, h.ordr, h.dist, h.src, (fun z hz => by obtain rfl : z = r := (by simpa using hz); exact .inl hr)⟩
theorem Cv.roots {nn : Nat} {f : Nat} (hf : 1 + 100 * nn <= f) (hnn : nn <= 2500) : ∀ {l : List Int} {s : List Int × List Int}, (∀ z ∈ l, z ∈ rs) -> (∀ z ∈ l, 0 <= z /\ z < (nn : Int)) -> Sv ns nn s.1 s.2 -> Cv ns rs [] s.1 s.2 ->
  Sv ns nn (followR ns f l s).1 (followR ns f l s).2 /\ Cv ns rs [] (followR ns f l s).1 (followR ns f l s).2 /\ (∀ i, s.1.getD i 0 ≠ -1 -> (followR ns f l s).1.getD i 0 ≠ -1) /\ (∀ z ∈ l, (followR ns f l s).1.getD z.toNat 0 ≠ -1)
 | [], s, _, _, S, C => ⟨S, C, fun _ h => h, fun z hz => by cases hz⟩
 | r :: l, s, hl, hr, S, C => by
  have r0 := hr r (by simp)
  obtain ⟨q1, q2, q3⟩ := Cv.end_ (f := f) (S.fv r0 hf) (C.push (hl r (by simp)) (by rw [S.nlen]; exact r0))
  obtain ⟨p0, p1, p2, p3⟩ := Cv.roots (nn := nn) hf hnn (l := l) (s := followS ns f [r] s.1 s.2) (fun z hz => hl z (by simp [hz])) (fun z hz => hr z (by simp [hz])) (S.follow hnn r0 hf) q1
  refine ⟨p0, p1, fun i hi => p2 i (q2 i hi), fun z hz => ?_⟩
  rcases List.mem_cons.1 hz with rfl | hz
  ·exact p2 _ (q3 z (by simp))
  ·exact p3 z hz
end
theorem nd_ext {a b : Nd} (h1 : a.kind = b.kind) (h2 : a.num = b.num) (h3 : a.text = b.text) (h4 : a.kids = b.kids) : a = b := by
 cases a; cases b; simp only at h1 h2 h3 h4; subst h1 h2 h3 h4; rfl
theorem goodG_bare {ns : List Nd} {rs : List Int} (h : goodG ns rs = true) : ∀ d ∈ ns, atomB d.kind = true -> d.kids = [] := by
 intro d hd ha
 unfold goodG at h
 rw [Bool.and_eq_true] at h
 have := List.all_eq_true.1 h.1 d hd
 unfold nodeB at this
 simp only [Bool.and_eq_true] at this
 have hc := this.1.2
 unfold atomB at ha
 unfold countB at hc
 simp only [Bool.or_eq_true, decide_eq_true_eq] at ha
 rw [if_neg (by omega), if_neg (by omega), if_neg (by omega), decide_eq_true_eq] at hc
 exact List.length_eq_zero_iff.1 hc
theorem start_get (n : Nat) (i : Nat) : (start n).1.getD i 0 = -1 \/ n <= i := by
 unfold start
 by_cases h : i < n
 ·left; rw [List.getD_eq_getElem?_getD, List.getElem?_replicate, if_pos h]; rfl
 ·exact .inr (by omega)
theorem Cv.start_ {ns : List Nd} {rs : List Int} (h : goodG ns rs = true) : Cv ns rs [] (start ns.length).1 (start ns.length).2 := by
 have hn : ∀ i : Int, 0 <= i -> i < ns.length -> (start ns.length).1.getD i.toNat 0 = -1 := fun i i0 i1 => by
  rcases start_get ns.length i.toNat with q | q
  ·exact q
  ·omega
 exact ⟨by simp [start], (goodG_parts h).1, goodG_bare h, (fun z hz => by cases hz), (fun i i0 i1 hi => absurd (hn i i0 i1) hi), (fun i i0 i1 hi => absurd (hn i i0 i1) hi), (fun j hj => by simp [start] at hj), (fun j j' _ hj => by simp [start] at hj), (fun j hj => by simp [start] at hj), (fun z hz => by cases hz)⟩
def endS (ns : List Nd) (rs : List Int) (f : Nat) : List Int × List Int := followR ns f rs (start ns.length)
structure Fine (ns : List Nd) (rs : List Int) (f : Nat) : Prop where
 good : goodG ns rs = true
 kids : ∀ d ∈ ns, d.kids.length <= 100
 nn : ns.length <= 2500
 fuel : 1 + 100 * ns.length <= f
theorem Fine.ends {ns : List Nd} {rs : List Int} {f : Nat} (h : Fine ns rs f) : Sv ns ns.length (endS ns rs f).1 (endS ns rs f).2 /\ Cv ns rs [] (endS ns rs f).1 (endS ns rs f).2 /\ (∀ z ∈ rs, (endS ns rs f).1.getD z.toNat 0 ≠ -1) := by
 obtain ⟨hk, hr⟩ := goodG_parts h.good
 obtain ⟨q0, q1, q2, q3⟩ := Cv.roots (ns := ns) (rs := rs) (nn := ns.length) h.fuel h.nn (l := rs) (s := start ns.length) (fun _ h => h) (places_rng hr) (Sv.start_ hk h.kids) (Cv.start_ h.good)
 exact ⟨q0, q1, q3⟩
theorem Fine.canon {ns : List Nd} {rs : List Int} {f : Nat} (h : Fine ns rs f) : canonG ns rs f = ((endS ns rs f).2.map (newNode ns (endS ns rs f).1), renum (endS ns rs f).1 rs) := by
 unfold canonG; rw [if_pos h.good]; rfl
theorem canon_sim {ns ns' : List Nd} {φ : Int -> Int} {M : Int -> Prop} {rs : List Int} {f : Nat} (S : Sim ns ns' φ M) (h : Fine ns rs f) (hr : ∀ z ∈ rs, M z) (h' : goodG ns' (rs.map φ) = true) : canonG ns' (rs.map φ) f = canonG ns rs f := by
 have R := sim_roots S f (rs := rs) hr (sim_start S)
 obtain ⟨q0, q1, q2⟩ := h.ends
 rw [h.canon]
 unfold canonG
 rw [if_pos h']
 have e2 : (followR ns' f (rs.map φ) (start ns'.length)).2 = (endS ns rs f).2.map φ := R.ord_
 have hpl : ∀ i, M i -> (endS ns rs f).1.getD i.toNat 0 ≠ -1 -> (followR ns' f (rs.map φ) (start ns'.length)).1.getD (φ i).toNat 0 = (endS ns rs f).1.getD i.toNat 0 := R.pl_
 generalize (followR ns' f (rs.map φ) (start ns'.length)).1 = P' at *
 rw [e2, List.map_map]
 refine Prod.ext ?_ ?_
 ·refine List.map_congr_left fun o ho => ?_
  have hM := R.om o ho
  have hM0 := S.rng o hM
  obtain ⟨j, hj, e⟩ := List.getElem_of_mem ho
  have hoj : (endS ns rs f).2.getD j 0 = o := by rw [List.getD_eq_getElem?_getD, List.getElem?_eq_getElem hj]; exact e
  have hmet : (endS ns rs f).1.getD o.toNat 0 ≠ -1 := by
   have := (q1.ordr j hj).2.2
   rw [hoj] at this; rw [this]; omega
  have hk : ∀ k ∈ (ns.getD o.toNat default).kids, (endS ns rs f).1.getD k.toNat 0 ≠ -1 := fun k hk => by
   rcases q1.cl o hM0.1 hM0.2 hmet k hk with q | q
   ·exact q
   ·cases q
  show newNode ns' P' (φ o) = newNode ns (endS ns rs f).1 o
  unfold newNode
  rw [S.node o hM]
  refine nd_ext rfl rfl rfl ?_
  show renum P' ((ns.getD o.toNat default).kids.map φ) = renum (endS ns rs f).1 (ns.getD o.toNat default).kids
  unfold renum
  rw [List.map_map]
  exact List.map_congr_left fun k hkk => hpl k (S.kids o hM k hkk) (hk k hkk)
 ·show renum P' (rs.map φ) = renum (endS ns rs f).1 rs
  unfold renum
  rw [List.map_map]
  exact List.map_congr_left fun k hk => hpl k (hr k hk) (q2 k hk)
theorem getD_map_nd {l : List Int} {g : Int -> Nd} {j : Nat} (h : j < l.length) : (l.map g).getD j default = g (l.getD j 0) := by
 rw [List.getD_eq_getElem?_getD, List.getElem?_map, List.getD_eq_getElem?_getD, List.getElem?_eq_getElem h]; rfl
section
variable {ns : List Nd} {rs : List Int} {f : Nat}
theorem Fine.len (h : Fine ns rs f) : (canonG ns rs f).1.length <= ns.length /\ (canonG ns rs f).2.length = rs.length := by
 obtain ⟨q0, q1, q2⟩ := h.ends
 rw [h.canon]
 refine ⟨?_, by simp [renum]⟩
 simpa using q0.len
theorem Fine.sim (h : Fine ns rs f) : Sim ns (canonG ns rs f).1 (fun i => (endS ns rs f).1.getD i.toNat 0) (fun i => 0 <= i /\ i < ns.length /\ (endS ns rs f).1.getD i.toNat 0 ≠ -1) := by
 obtain ⟨q0, q1, q2⟩ := h.ends
 rw [h.canon]
 refine ⟨fun i hi => ⟨hi.1, hi.2.1⟩, fun i hi => ?_, fun i hi k hk => ?_, fun i hi => ?_, fun i i' hi hi' e => ?_, fun i hi ha => ?_⟩
 ·obtain ⟨v1, v2, _⟩ := q1.val i hi.1 hi.2.1 hi.2.2
  exact ⟨v1, by rw [List.length_map]; exact v2⟩
 ·have hr := places_rng (q1.kids _ (getD_mem_nd (by omega : i.toNat < ns.length))) k hk
  rcases q1.cl i hi.1 hi.2.1 hi.2.2 k hk with q | q
  ·exact ⟨hr.1, hr.2, q⟩
  ·cases q
 ·obtain ⟨v1, v2, v3⟩ := q1.val i hi.1 hi.2.1 hi.2.2
  rw [getD_map_nd (by omega)]
  unfold newNode renum
  rcases v3 with e | ⟨ha, hs⟩
  ·rw [e]
  ·have hk := q1.bare _ (getD_mem_nd (by omega : i.toNat < ns.length)) ha
   have hr := (q1.ordr _ (by omega : ((endS ns rs f).1.getD i.toNat 0).toNat < (endS ns rs f).2.length))
   have hk' := q1.bare _ (getD_mem_nd (by omega : ((endS ns rs f).2.getD ((endS ns rs f).1.getD i.toNat 0).toNat 0).toNat < ns.length)) (by rw [hs.1]; exact ha)
   rw [hk', hk]
   exact nd_ext hs.1 hs.2.1 hs.2.2 rfl
 ·obtain ⟨v1, v2, v3⟩ := q1.val i hi.1 hi.2.1 hi.2.2
  obtain ⟨w1, w2, w3⟩ := q1.val i' hi'.1 hi'.2.1 hi'.2.2
  have e' : (endS ns rs f).1.getD i.toNat 0 = (endS ns rs f).1.getD i'.toNat 0 := e
  rw [<- e'] at w3
  rcases v3 with v3 | ⟨ha, _⟩
  ·rcases w3 with w3 | ⟨ha, hs⟩
   ·exact .inl (v3.symm.trans w3)
   ·right
    rw [v3] at hs
    rw [hs.1]; exact ha
  ·exact .inr ha
 ·exact q1.bare _ (getD_mem_nd (by omega : i.toNat < ns.length)) ha
theorem nodeB_parts {n : Nat} {d : Nd} (h : nodeB n d = true) : (decide (1 <= d.kind) && decide (d.kind <= 17) && numB d.kind d.num && textB d.kind d.text && countB d.kind d.kids.length) = true /\ placesB d.kids n = true := by
 unfold nodeB at h; rw [Bool.and_eq_true] at h; exact h
theorem Fine.goodC (h : Fine ns rs f) : goodG (canonG ns rs f).1 (canonG ns rs f).2 = true := by
 have S := h.sim
 have he := h.ends
 obtain ⟨q0, q1, q2⟩ := he
 have hcl : (canonG ns rs f).1.length = (endS ns rs f).2.length := by rw [h.canon]; simp
 have hpl : ∀ z : Int, 0 <= z -> z < ns.length -> (endS ns rs f).1.getD z.toNat 0 ≠ -1 -> placeB (canonG ns rs f).1.length ((endS ns rs f).1.getD z.toNat 0) = true := by
  intro z z0 z1 hz
  obtain ⟨v1, v2, _⟩ := q1.val z z0 z1 hz
  unfold placeB
  rw [hcl, Bool.and_eq_true, decide_eq_true_eq, decide_eq_true_eq]
  exact ⟨v1, v2⟩
 have hrr := places_rng (goodG_parts h.good).2
 unfold goodG
 rw [Bool.and_eq_true]
 constructor
 ·rw [List.all_eq_true]
  intro d hd
  have hd' := hd
  rw [h.canon] at hd'
  obtain ⟨o, ho, rfl⟩ := List.mem_map.1 hd'
  obtain ⟨j, hj, e⟩ := List.getElem_of_mem ho
  have hoj : (endS ns rs f).2.getD j 0 = o := by rw [List.getD_eq_getElem?_getD, List.getElem?_eq_getElem hj]; exact e
  obtain ⟨r1, r2, r3⟩ := q1.ordr j hj
  rw [hoj] at r1 r2 r3
  have hmem : ns.getD o.toNat default ∈ ns := getD_mem_nd (by omega)
  have hg := h.good
  unfold goodG at hg
  rw [Bool.and_eq_true] at hg
  obtain ⟨p1, p2⟩ := nodeB_parts (List.all_eq_true.1 hg.1 _ hmem)
  unfold nodeB
  rw [Bool.and_eq_true]
  refine ⟨?_, ?_⟩
  ·unfold newNode renum
   simpa using p1
  ·unfold placesB newNode renum
   rw [List.all_map, List.all_eq_true]
   intro k hk
   have hkr := places_rng p2 k hk
   refine hpl k hkr.1 hkr.2 ?_
   rcases q1.cl o r1 r2 (by rw [r3]; omega) k hk with q | q
   ·exact q
   ·cases q
 ·have e : (canonG ns rs f).2 = renum (endS ns rs f).1 rs := by rw [h.canon]
  rw [e]
  unfold placesB renum
  rw [List.all_map, List.all_eq_true]
  intro k hk
  have hkr := hrr k hk
  exact hpl k hkr.1 hkr.2 (q2 k hk)
theorem Fine.again (h : Fine ns rs f) : canonG (canonG ns rs f).1 (canonG ns rs f).2 f = canonG ns rs f := by
 have hrr := places_rng (goodG_parts h.good).2
 obtain ⟨q0, q1, q2⟩ := h.ends
 have e : (canonG ns rs f).2 = rs.map fun i => (endS ns rs f).1.getD i.toNat 0 := by rw [h.canon]; rfl
 have hg := h.goodC
 rw [e] at hg ⊢
 exact canon_sim h.sim h (fun z hz => ⟨(hrr z hz).1, (hrr z hz).2, q2 z hz⟩) hg
theorem Fine.kidsC (h : Fine ns rs f) : ∀ d ∈ (canonG ns rs f).1, d.kids.length <= 100 := by
 intro d hd
 rw [h.canon] at hd
 obtain ⟨o, ho, rfl⟩ := List.mem_map.1 hd
 obtain ⟨q0, q1, q2⟩ := h.ends
 have hr := q0.rng o ho
 have := h.kids _ (getD_mem_nd (by omega : o.toNat < ns.length))
 unfold newNode renum
 simpa using this
theorem Fine.smallC (h : Fine ns rs f) (hs : ∀ d ∈ ns, d.text.size <= 2000) : ∀ d ∈ (canonG ns rs f).1, d.text.size <= 2000 := by
 intro d hd
 rw [h.canon] at hd
 obtain ⟨o, ho, rfl⟩ := List.mem_map.1 hd
 obtain ⟨q0, q1, q2⟩ := h.ends
 have hr := q0.rng o ho
 exact hs (ns.getD o.toNat default) (getD_mem_nd (by omega : o.toNat < ns.length))
end
set_option maxRecDepth 100000
theorem store4 {w : World} {g : Nat} {a b c d v1 v2 v3 v4 : Value} {t : TypeId} (h : w.heap[g]? = some (.cells #[a, b, c, d] t (0, 0))) : ((((w.setCell ⟨g, 0, none⟩ v1).setCell ⟨g, 1, none⟩ v2).setCell ⟨g, 2, none⟩ v3).setCell ⟨g, 3, none⟩ v4).heap[g]? = some (.cells #[v1, v2, v3, v4] t (0, 0)) := by
 have h1 := blk_set (i := 0) h v1
 have h2 := blk_set (i := 1) h1 v2
 have h3 := blk_set (i := 2) h2 v3
 have h4 := blk_set (i := 3) h3 v4
 rw [h4]; rfl
theorem store4_far {w : World} {g b : Nat} {v1 v2 v3 v4 : Value} (h : b ≠ g) : ((((w.setCell ⟨g, 0, none⟩ v1).setCell ⟨g, 1, none⟩ v2).setCell ⟨g, 2, none⟩ v3).setCell ⟨g, 3, none⟩ v4).heap[b]? = w.heap[b]? :=
 (Below.heap_setCell _ _ _ _ h).trans ((Below.heap_setCell _ _ _ _ h).trans ((Below.heap_setCell _ _ _ _ h).trans (Below.heap_setCell _ _ _ _ h)))
theorem store4_below {n : Nat} {w0 w : World} {g : Nat} {v1 v2 v3 v4 : Value} (h : Below n w0 w) (hg : n <= g) : Below n w0 ((((w.setCell ⟨g, 0, none⟩ v1).setCell ⟨g, 1, none⟩ v2).setCell ⟨g, 2, none⟩ v3).setCell ⟨g, 3, none⟩ v4) :=
 (((h.setCell (p := ⟨g, 0, none⟩) hg _).setCell (p := ⟨g, 1, none⟩) hg _).setCell (p := ⟨g, 2, none⟩) hg _).setCell (p := ⟨g, 3, none⟩) hg _
theorem goodG_nodes {ns : List Nd} {rs : List Int} (h : goodG ns rs = true) : ∀ d ∈ ns, nodeB ns.length d = true := by
 unfold goodG at h
 rw [Bool.and_eq_true] at h
 exact List.all_eq_true.1 h.1
theorem goodG_mk {ns : List Nd} {rs : List Int} (h : ∀ d ∈ ns, nodeB ns.length d = true) (h2 : placesB rs ns.length = true) : goodG ns rs = true := by
 unfold goodG
 rw [Bool.and_eq_true]
 exact ⟨List.all_eq_true.2 h, h2⟩
inductive Rch (D : Int -> Nd) (roots : List Int) : Int -> Prop
 | root {x : Int} : x ∈ roots -> Rch D roots x
 | kid {x y : Int} : Rch D roots x -> y ∈ (D x).kids -> Rch D roots y
structure Told (D : Int -> Nd) (roots W : List Int) (ns : List Nd) (rs : List Int) : Prop where
 len : W.length = ns.length
 node : ∀ i, i < ns.length -> sameA (ns.getD i default) (D (W.getD i 0))
 kids : ∀ i, i < ns.length -> (ns.getD i default).kids.map (fun k => W.getD k.toNat 0) = (D (W.getD i 0)).kids
 kr : ∀ i, i < ns.length -> ∀ k ∈ (ns.getD i default).kids, 0 <= k /\ k < ns.length
 rts : rs.map (fun k => W.getD k.toNat 0) = roots
 rr : ∀ k ∈ rs, 0 <= k /\ k < ns.length
 inj : ∀ i j, i < ns.length -> j < ns.length -> W.getD i 0 = W.getD j 0 -> i = j \/ atomB (ns.getD i default).kind = true
theorem getD_mem_w {l : List Int} {i : Nat} (h : i < l.length) : l.getD i 0 ∈ l := by
 rw [List.getD_eq_getElem?_getD, List.getElem?_eq_getElem h]; exact List.getElem_mem h
theorem getD_map_w {l : List Int} {g : Int -> Int} {j : Nat} (h : j < l.length) : (l.map g).getD j 0 = g (l.getD j 0) := by
 rw [List.getD_eq_getElem?_getD, List.getElem?_map, List.getD_eq_getElem?_getD, List.getElem?_eq_getElem h]; rfl
theorem mem_getD_w {l : List Int} {x : Int} (h : x ∈ l) : ∃ i, i < l.length /\ l.getD i 0 = x := by
 obtain ⟨i, hi, e⟩ := List.getElem_of_mem h
 exact ⟨i, hi, by rw [List.getD_eq_getElem?_getD, List.getElem?_eq_getElem hi]; exact e⟩
theorem list_eq_w {la lb : List Int} (hl : la.length = lb.length) (h : ∀ k, k < la.length -> la.getD k 0 = lb.getD k 0) : la = lb := by
 apply List.ext_getElem hl
 intro i h1 h2
 have := h i h1
 rw [List.getD_eq_getElem?_getD, List.getD_eq_getElem?_getD, List.getElem?_eq_getElem h1, List.getElem?_eq_getElem h2] at this
 simpa using this
theorem nodup_idx : ∀ {l : List Int} {i j : Nat}, l.Nodup -> (h1 : i < l.length) -> (h2 : j < l.length) -> l[i] = l[j] -> i = j
 | [], _, _, _, h, _, _ => by simp at h
 | x :: l, 0, 0, _, _, _, _ => rfl
 | x :: l, 0, j + 1, hn, _, h2, e => by
  have h3 : j < l.length := by simpa using h2
  have : x ∈ l := by
   have e' : x = l[j] := by simpa using e
   rw [e']; exact List.getElem_mem h3
  exact absurd this (List.nodup_cons.1 hn).1
 | x :: l, i + 1, 0, hn, h1, _, e => by
  have h3 : i < l.length := by simpa using h1
  have : x ∈ l := by
   have e' : l[i] = x := by simpa using e
   rw [<- e']; exact List.getElem_mem h3
  exact absurd this (List.nodup_cons.1 hn).1
 | x :: l, i + 1, j + 1, hn, h1, h2, e => by
  have := nodup_idx (l := l) (List.nodup_cons.1 hn).2 (by simpa using h1) (by simpa using h2) (by simpa using e)
  omega
section
variable {D D' : Int -> Nd} {roots W W' rs rs' : List Int} {ns ns' : List Nd} {ψ : Int -> Int}
theorem Told.has (T' : Told D' (roots.map ψ) W' ns' rs') (hψ : ∀ x, Rch D roots x -> (D' (ψ x)).kids = (D x).kids.map ψ) {x : Int} (h : Rch D roots x) : ∃ j, j < ns'.length /\ W'.getD j 0 = ψ x := by
 induction h with
 | @root x hx =>
  have : ψ x ∈ rs'.map (fun k => W'.getD k.toNat 0) := by rw [T'.rts]; exact List.mem_map_of_mem hx
  obtain ⟨k, hk, e⟩ := List.mem_map.1 this
  have := T'.rr k hk
  exact ⟨k.toNat, by omega, e⟩
 | @kid x y hx hy ih =>
  obtain ⟨j, hj, e⟩ := ih
  have h1 := T'.kids j hj
  rw [e, hψ x hx] at h1
  have : ψ y ∈ (ns'.getD j default).kids.map (fun k => W'.getD k.toNat 0) := by rw [h1]; exact List.mem_map_of_mem hy
  obtain ⟨k, hk, e2⟩ := List.mem_map.1 this
  have := T'.kr j hj k hk
  exact ⟨k.toNat, by omega, e2⟩
def toldF (ψ : Int -> Int) (W W' : List Int) (i : Int) : Int := ((W'.idxOf (ψ (W.getD i.toNat 0)) : Nat) : Int)
theorem idx_get {l : List Int} {x : Int} (h : x ∈ l) : l.idxOf x < l.length /\ l.getD (l.idxOf x) 0 = x := by
 have hl := List.idxOf_lt_length_of_mem h
 refine ⟨hl, ?_⟩
 rw [List.getD_eq_getElem?_getD, List.getElem?_eq_getElem hl]
 simp
theorem told_sim (T : Told D roots W ns rs) (T' : Told D' (roots.map ψ) W' ns' rs') (hn : ∀ i j, i < ns'.length -> j < ns'.length -> W'.getD i 0 = W'.getD j 0 -> i = j)
  (hψ : ∀ x, Rch D roots x -> sameA (D' (ψ x)) (D x) /\ (D' (ψ x)).kids = (D x).kids.map ψ)
  (hi : ∀ x y, Rch D roots x -> Rch D roots y -> ψ x = ψ y -> x = y \/ atomB (D x).kind = true)
  (hb : ∀ x, Rch D roots x -> atomB (D x).kind = true -> (D x).kids = []) :
  Sim ns ns' (toldF ψ W W') (fun i => 0 <= i /\ i < ns.length /\ Rch D roots (W.getD i.toNat 0)) /\ rs' = rs.map (toldF ψ W W') /\ ∀ z ∈ rs, 0 <= z /\ z < ns.length /\ Rch D roots (W.getD z.toNat 0) := by
 have hin : ∀ x, Rch D roots x -> ψ x ∈ W' := fun x hx => by
  obtain ⟨j, hj, e⟩ := T'.has (fun x hx => (hψ x hx).2) hx
  rw [<- e]; exact getD_mem_w (by rw [T'.len]; exact hj)
 have hF : ∀ i : Int, Rch D roots (W.getD i.toNat 0) -> 0 <= toldF ψ W W' i /\ toldF ψ W W' i < ns'.length /\ W'.getD (toldF ψ W W' i).toNat 0 = ψ (W.getD i.toNat 0) := fun i h => by
  obtain ⟨h1, h2⟩ := idx_get (hin _ h)
  rw [T'.len] at h1
  unfold toldF
  refine ⟨by omega, by omega, ?_⟩
  rw [Int.toNat_natCast]; exact h2
 have hlist : ∀ (a b : List Int), a.map (fun k => W'.getD k.toNat 0) = (b.map (fun k => W.getD k.toNat 0)).map ψ -> (∀ k ∈ a, 0 <= k /\ k < ns'.length) -> (∀ k ∈ b, Rch D roots (W.getD k.toNat 0)) -> a = b.map (toldF ψ W W') := fun a b h ha hbm => by
  have hl : a.length = b.length := by have := congrArg List.length h; simpa using this
  refine list_eq_w (by rw [List.length_map]; exact hl) (fun t ht => ?_)
  have hb' : t < b.length := by omega
  have e : W'.getD (a.getD t 0).toNat 0 = ψ (W.getD (b.getD t 0).toNat 0) := by
   have := congrArg (fun l : List Int => l.getD t 0) h
   rw [getD_map_w ht, getD_map_w (by rw [List.length_map]; exact hb'), getD_map_w hb'] at this
   exact this
  rw [getD_map_w hb']
  have h1 := ha _ (getD_mem_w ht)
  obtain ⟨f1, f2, f3⟩ := hF (b.getD t 0) (hbm _ (getD_mem_w hb'))
  have := hn (a.getD t 0).toNat (toldF ψ W W' (b.getD t 0)).toNat (by omega) (by omega) (e.trans f3.symm)
  omega
 have hkr : ∀ i : Int, 0 <= i -> i < ns.length -> Rch D roots (W.getD i.toNat 0) -> ∀ k ∈ (ns.getD i.toNat default).kids, Rch D roots (W.getD k.toNat 0) := fun i h0 h1 h2 k hk => by
  have e := T.kids i.toNat (by omega)
  refine .kid h2 ?_
  rw [<- e]; exact List.mem_map_of_mem (f := fun k => W.getD k.toNat 0) hk
 have hrt : ∀ z ∈ rs, Rch D roots (W.getD z.toNat 0) := fun z hz => .root (by rw [<- T.rts]; exact List.mem_map_of_mem (f := fun k => W.getD k.toNat 0) hz)
 have hkind : ∀ i : Int, 0 <= i -> i < ns.length -> (ns.getD i.toNat default).kind = (D (W.getD i.toNat 0)).kind := fun i h0 h1 => (T.node i.toNat (by omega)).1
 refine ⟨⟨fun i hM => ⟨hM.1, hM.2.1⟩, fun i hM => ?_, fun i hM k hk => ?_, fun i hM => ?_, fun i i' hM hM' e => ?_, fun i hM ha => ?_⟩, ?_, fun z hz => ⟨(T.rr z hz).1, (T.rr z hz).2, hrt z hz⟩⟩
 ·obtain ⟨f1, f2, _⟩ := hF i hM.2.2
  exact ⟨f1, f2⟩
 ·have := T.kr i.toNat (by have := hM.1; have := hM.2.1; omega) k hk
  exact ⟨this.1, this.2, hkr i hM.1 hM.2.1 hM.2.2 k hk⟩
 ·obtain ⟨f1, f2, f3⟩ := hF i hM.2.2
  have hj : (toldF ψ W W' i).toNat < ns'.length := by omega
  have hi' : i.toNat < ns.length := by have := hM.1; have := hM.2.1; omega
  have s1 := T'.node _ hj
  rw [f3] at s1
  have s2 := (s1.trans (hψ _ hM.2.2).1).trans (T.node _ hi').symm
  refine nd_ext s2.1 s2.2.1 s2.2.2 ?_
  refine hlist _ _ ?_ (T'.kr _ hj) (hkr i hM.1 hM.2.1 hM.2.2)
  rw [T'.kids _ hj, f3, (hψ _ hM.2.2).2, T.kids _ hi']
 ·obtain ⟨f1, f2, f3⟩ := hF i hM.2.2
  obtain ⟨g1, g2, g3⟩ := hF i' hM'.2.2
  have e2 : ψ (W.getD i.toNat 0) = ψ (W.getD i'.toNat 0) := by rw [<- f3, <- g3, e]
  rcases hi _ _ hM.2.2 hM'.2.2 e2 with e3 | e3
  ·rcases T.inj i.toNat i'.toNat (by have := hM.1; have := hM.2.1; omega) (by have := hM'.1; have := hM'.2.1; omega) e3 with e4 | e4
   ·left; have := hM.1; have := hM'.1; omega
   ·exact .inr e4
  ·right; rw [hkind i hM.1 hM.2.1]; exact e3
 ·have := hb _ hM.2.2 (by rw [<- hkind i hM.1 hM.2.1]; exact ha)
  have e := T.kids i.toNat (by have := hM.1; have := hM.2.1; omega)
  rw [this] at e
  exact List.map_eq_nil_iff.1 e
 ·exact hlist _ _ (by rw [T'.rts, T.rts]) T'.rr hrt
theorem told_canon {f : Nat} (T : Told D roots W ns rs) (T' : Told D' (roots.map ψ) W' ns' rs') (hn : ∀ i j, i < ns'.length -> j < ns'.length -> W'.getD i 0 = W'.getD j 0 -> i = j)
  (hψ : ∀ x, Rch D roots x -> sameA (D' (ψ x)) (D x) /\ (D' (ψ x)).kids = (D x).kids.map ψ)
  (hi : ∀ x y, Rch D roots x -> Rch D roots y -> ψ x = ψ y -> x = y \/ atomB (D x).kind = true)
  (hb : ∀ x, Rch D roots x -> atomB (D x).kind = true -> (D x).kids = []) (hf : Fine ns rs f) (hg : goodG ns' rs' = true) : canonG ns' rs' f = canonG ns rs f := by
 obtain ⟨S, e, hr⟩ := told_sim T T' hn hψ hi hb
 rw [e] at hg ⊢
 exact canon_sim S hf hr hg
def mkN (D : Int -> Nd) (W : List Int) (x : Int) : Nd := { D x with kids := (D x).kids.map (fun y => ((W.idxOf y : Nat) : Int)) }
def mkG (D : Int -> Nd) (W : List Int) : List Nd := W.map (mkN D W)
theorem mkG_get {i : Nat} (h : i < W.length) : (mkG D W).getD i default = mkN D W (W.getD i 0) := by
 unfold mkG
 rw [List.getD_eq_getElem?_getD, List.getElem?_map, List.getD_eq_getElem?_getD, List.getElem?_eq_getElem h]; rfl
theorem told_mk (hn : W.Nodup) (hc : ∀ x ∈ W, ∀ y ∈ (D x).kids, y ∈ W) (hr : ∀ x ∈ roots, x ∈ W) : Told D roots W (mkG D W) (roots.map (fun y => ((W.idxOf y : Nat) : Int))) := by
 have hl : (mkG D W).length = W.length := by unfold mkG; rw [List.length_map]
 have hid : ∀ (l : List Int), (∀ y ∈ l, y ∈ W) -> (l.map (fun y => ((W.idxOf y : Nat) : Int))).map (fun k => W.getD k.toNat 0) = l := fun l h => by
  rw [List.map_map]
  conv => rhs; rw [<- List.map_id l]
  refine List.map_congr_left (fun y hy => ?_)
  show W.getD (((W.idxOf y : Nat) : Int)).toNat 0 = y
  rw [Int.toNat_natCast]; exact (idx_get (h y hy)).2
 have hrg : ∀ (l : List Int), (∀ y ∈ l, y ∈ W) -> ∀ k ∈ l.map (fun y => ((W.idxOf y : Nat) : Int)), 0 <= k /\ k < (mkG D W).length := fun l h k hk => by
  obtain ⟨y, hy, rfl⟩ := List.mem_map.1 hk
  have := (idx_get (h y hy)).1
  rw [hl]; omega
 refine ⟨hl.symm, fun i hi => ?_, fun i hi => ?_, fun i hi => ?_, hid roots hr, hrg roots hr, fun i j h1 h2 e => .inl ?_⟩
 ·rw [hl] at hi; rw [mkG_get hi]; exact ⟨rfl, rfl, rfl⟩
 ·rw [hl] at hi; rw [mkG_get hi]; exact hid _ (hc _ (getD_mem_w hi))
 ·rw [hl] at hi; rw [mkG_get hi]; exact hrg _ (hc _ (getD_mem_w hi))
 ·rw [hl] at h1 h2
  rw [List.getD_eq_getElem?_getD, List.getD_eq_getElem?_getD, List.getElem?_eq_getElem h1, List.getElem?_eq_getElem h2] at e
  exact nodup_idx hn h1 h2 (by simpa using e)
theorem mk_nodup (hn : W.Nodup) : ∀ i j, i < (mkG D W).length -> j < (mkG D W).length -> W.getD i 0 = W.getD j 0 -> i = j := fun i j h1 h2 e => by
 have hl : (mkG D W).length = W.length := by unfold mkG; rw [List.length_map]
 rw [hl] at h1 h2
 rw [List.getD_eq_getElem?_getD, List.getD_eq_getElem?_getD, List.getElem?_eq_getElem h1, List.getElem?_eq_getElem h2] at e
 exact nodup_idx hn h1 h2 (by simpa using e)
def okD (d : Nd) : Bool := decide (1 <= d.kind) && decide (d.kind <= 17) && numB d.kind d.num && textB d.kind d.text && countB d.kind d.kids.length
theorem Told.good (T : Told D roots W ns rs) (hd : ∀ x ∈ W, okD (D x) = true) : goodG ns rs = true := by
 have hpl : ∀ (l : List Int) (n : Nat), (∀ k ∈ l, 0 <= k /\ k < (n : Int)) -> placesB l n = true := fun l n h => by
  unfold placesB
  rw [List.all_eq_true]
  intro k hk
  have := h k hk
  unfold placeB; rw [Bool.and_eq_true, decide_eq_true_eq, decide_eq_true_eq]; omega
 refine goodG_mk (fun d hd' => ?_) (hpl _ _ T.rr)
 obtain ⟨i, hi, rfl⟩ := List.getElem_of_mem hd'
 have e : ns.getD i default = ns[i] := by rw [List.getD_eq_getElem?_getD, List.getElem?_eq_getElem hi]; rfl
 have h1 := T.node i hi
 have h2 := congrArg List.length (T.kids i hi)
 have h3 := hd (W.getD i 0) (getD_mem_w (by rw [T.len]; exact hi))
 rw [e] at h1 h2
 rw [List.length_map] at h2
 unfold okD at h3
 rw [<- h1.1, <- h1.2.1, <- h1.2.2, <- h2] at h3
 unfold nodeB
 rw [h3]
 have := hpl ns[i].kids ns.length (by have := T.kr i hi; rw [e] at this; exact this)
 rw [this]; rfl
end
end Go.Proofs.YticimejfjjmikaaGreatDoor
