import Derived.Test.YtdekkieajffblaaGreatDoorM1
import Derived.Test.YtdekkieajffblaaGreatDoorG19
set_option linter.unusedVariables false
set_option linter.unusedSimpArgs false
namespace Go.Proofs.YtdekkieajffblaaGreatDoor
open Go.RowKit
theorem getD_snoc_lt {l : List Int} {x : Int} {j : Nat} (h : j < l.length) : (l ++ [x]).getD j 0 = l.getD j 0 := by
 rw [List.getD_eq_getElem?_getD, List.getElem?_append_left h, List.getD_eq_getElem?_getD]
theorem getD_snoc_eq (l : List Int) (x : Int) : (l ++ [x]).getD l.length 0 = x := by
 rw [List.getD_eq_getElem?_getD, List.getElem?_append_right (Nat.le_refl _)]; simp
structure Cv (ns : List Nd) (rs st pl ord : List Int) : Prop where
 plen : pl.length = ns.length
 kids : ∀ d ∈ ns, placesB d.kids ns.length = true
 bare : ∀ d ∈ ns, atomB d.kind = true -> d.kids = []
 srng : ∀ z ∈ st, 0 <= z /\ z < ns.length
 cl : ∀ i : Int, 0 <= i -> i < ns.length -> pl.getD i.toNat 0 ≠ -1 -> ∀ k ∈ (ns.getD i.toNat default).kids, pl.getD k.toNat 0 ≠ -1 \/ k ∈ st
 val : ∀ i : Int, 0 <= i -> i < ns.length -> pl.getD i.toNat 0 ≠ -1 -> 0 <= pl.getD i.toNat 0 /\ pl.getD i.toNat 0 < ord.length /\ (ord.getD (pl.getD i.toNat 0).toNat 0 = i \/ atomB (ns.getD i.toNat default).kind = true /\ sameA (ns.getD (ord.getD (pl.getD i.toNat 0).toNat 0).toNat default) (ns.getD i.toNat default))
 ordr : ∀ j, j < ord.length -> 0 <= ord.getD j 0 /\ ord.getD j 0 < ns.length /\ pl.getD (ord.getD j 0).toNat 0 = (j : Int)
 dist : ∀ j j', j < j' -> j' < ord.length -> atomB (ns.getD (ord.getD j 0).toNat default).kind = true -> ¬ sameA (ns.getD (ord.getD j 0).toNat default) (ns.getD (ord.getD j' 0).toNat default)
 src : ∀ j, j < ord.length -> ord.getD j 0 ∈ rs \/ ∃ i, i < j /\ ord.getD j 0 ∈ (ns.getD (ord.getD i 0).toNat default).kids
 ssrc : ∀ z ∈ st, z ∈ rs \/ ∃ i, i < ord.length /\ z ∈ (ns.getD (ord.getD i 0).toNat default).kids
section
variable {ns : List Nd} {rs : List Int}
theorem Cv.skip {o : Int} {st pl ord : List Int} (h : Cv ns rs (o :: st) pl ord) (hp : pl.getD o.toNat 0 ≠ -1) : Cv ns rs st pl ord :=
 ⟨h.plen, h.kids, h.bare, fun z hz => h.srng z (by simp [hz]), fun i h0 h1 hi k hk => by
  rcases h.cl i h0 h1 hi k hk with q | q
  ·exact .inl q
  ·rcases List.mem_cons.1 q with rfl | q
   ·exact .inl hp
   ·exact .inr q, h.val, h.ordr, h.dist, h.src, fun z hz => h.ssrc z (by simp [hz])⟩
theorem Cv.meet {o : Int} {st pl ord : List Int} (h : Cv ns rs (o :: st) pl ord) (hp : pl.getD o.toNat 0 = -1) : Cv ns rs ((ns.getD o.toNat default).kids ++ st) (meetS ns pl ord o.toNat).1 (meetS ns pl ord o.toNat).2 := by
 obtain ⟨h0, h1⟩ := h.srng o (by simp)
 have hmem : ns.getD o.toNat default ∈ ns := getD_mem_nd (by omega)
 have hol : o.toNat < pl.length := by rw [h.plen]; omega
 have hcl : ∀ z : Int, z ≠ -1 -> ∀ i : Int, 0 <= i -> i < ns.length -> (pl.set o.toNat z).getD i.toNat 0 ≠ -1 -> ∀ k ∈ (ns.getD i.toNat default).kids, (pl.set o.toNat z).getD k.toNat 0 ≠ -1 \/ k ∈ (ns.getD o.toNat default).kids ++ st := by
  intro z hz i i0 i1 hi k hk
  by_cases hio : i = o
  ·subst hio; exact .inr (List.mem_append_left _ hk)
  ·rw [getD_set_ne (by omega)] at hi
   have hkr := places_rng (h.kids _ (getD_mem_nd (by omega : i.toNat < ns.length))) k hk
   by_cases hko : k = o
   ·subst hko; rw [getD_set_self hol]; exact .inl hz
   ·rw [getD_set_ne (by omega)]
    rcases h.cl i i0 i1 hi k hk with q | q
    ·exact .inl q
    ·rcases List.mem_cons.1 q with rfl | q
     ·exact absurd rfl hko
     ·exact .inr (List.mem_append_right _ q)
 have hsr : ∀ z ∈ (ns.getD o.toNat default).kids ++ st, 0 <= z /\ z < ns.length := by
  intro z hz
  rcases List.mem_append.1 hz with hz | hz
  ·exact places_rng (h.kids _ hmem) z hz
  ·exact h.srng z (by simp [hz])
 have hno : ∀ j, j < ord.length -> ord.getD j 0 ≠ o := by
  intro j hj e
  have := (h.ordr j hj).2.2
  rw [e, hp] at this; omega
 have fresh : (atomB (ns.getD o.toNat default).kind = false \/ findA ns ord (ns.getD o.toNat default) = none) -> Cv ns rs ((ns.getD o.toNat default).kids ++ st) (pl.set o.toNat ord.length) (ord ++ [o]) := by
  intro hf
  refine ⟨by rw [List.length_set]; exact h.plen, h.kids, h.bare, hsr, hcl _ (by omega), fun i i0 i1 hi => ?_, fun j hj => ?_, fun j j' hj hj' ha => ?_, fun j hj => ?_, fun z hz => ?_⟩
  ·by_cases hio : i = o
   ·subst hio
    rw [getD_set_self hol]
    refine ⟨by omega, by rw [List.length_append, List.length_singleton]; omega, .inl ?_⟩
    rw [Int.toNat_natCast, getD_snoc_eq]
   ·rw [getD_set_ne (by omega)] at hi ⊢
    obtain ⟨q1, q2, q3⟩ := h.val i i0 i1 hi
    rw [getD_snoc_lt (by omega)]
    exact ⟨q1, by rw [List.length_append, List.length_singleton]; omega, q3⟩
  ·rw [List.length_append, List.length_singleton] at hj
   by_cases hjl : j < ord.length
   ·rw [getD_snoc_lt hjl]
    obtain ⟨q1, q2, q3⟩ := h.ordr j hjl
    have := hno j hjl
    exact ⟨q1, q2, by rw [getD_set_ne (by omega)]; exact q3⟩
   ·obtain rfl : j = ord.length := by omega
    rw [getD_snoc_eq]
    exact ⟨h0, h1, getD_set_self hol⟩
  ·rw [List.length_append, List.length_singleton] at hj'
   have hjl : j < ord.length := by omega
   rw [getD_snoc_lt hjl] at ha ⊢
   by_cases hjl' : j' < ord.length
   ·rw [getD_snoc_lt hjl']; exact h.dist j j' hj hjl' ha
   ·obtain rfl : j' = ord.length := by omega
    rw [getD_snoc_eq]
    intro hs
    rcases hf with hf | hf
    ·rw [hs.1, hf] at ha; cases ha
    ·unfold findA at hf
     rw [List.findIdx?_eq_none_iff] at hf
     have hm : ord.getD j 0 ∈ ord := by rw [List.getD_eq_getElem?_getD, List.getElem?_eq_getElem hjl]; exact List.getElem_mem hjl
     have := hf _ hm
     rw [ha, decide_eq_true hs] at this; cases this
  ·rw [List.length_append, List.length_singleton] at hj
   by_cases hjl : j < ord.length
   ·rw [getD_snoc_lt hjl]
    rcases h.src j hjl with q | ⟨i, q1, q2⟩
    ·exact .inl q
    ·exact .inr ⟨i, q1, by rw [getD_snoc_lt (by omega)]; exact q2⟩
   ·obtain rfl : j = ord.length := by omega
    rw [getD_snoc_eq]
    rcases h.ssrc o (by simp) with q | ⟨i, q1, q2⟩
    ·exact .inl q
    ·exact .inr ⟨i, q1, by rw [getD_snoc_lt q1]; exact q2⟩
  ·rcases List.mem_append.1 hz with hz | hz
   ·exact .inr ⟨ord.length, by simp, by rw [getD_snoc_eq]; exact hz⟩
   ·rcases h.ssrc z (by simp [hz]) with q | ⟨i, q1, q2⟩
    ·exact .inl q
    ·exact .inr ⟨i, by simp; omega, by rw [getD_snoc_lt q1]; exact q2⟩
 unfold meetS
 rw [Int.toNat_of_nonneg h0]
 by_cases hat : atomB (ns.getD o.toNat default).kind = true
 ·rw [if_pos hat]
  cases hfo : findA ns ord (ns.getD o.toNat default) with
  | none => exact fresh (.inr hfo)
  | some j =>
   have hj := findA_lt hfo
   obtain ⟨g1, g2⟩ := findA_get hfo
   have hk0 := h.bare _ hmem hat
   show Cv ns rs ((ns.getD o.toNat default).kids ++ st) (pl.set o.toNat (j : Int)) ord
   refine ⟨by rw [List.length_set]; exact h.plen, h.kids, h.bare, hsr, hcl _ (by omega), fun i i0 i1 hi => ?_, fun j2 hj2 => ?_, h.dist, h.src, fun z hz => ?_⟩
   ·by_cases hio : i = o
    ·subst hio
     rw [getD_set_self hol]
     exact ⟨by omega, by omega, .inr ⟨hat, by rw [Int.toNat_natCast]; exact g2⟩⟩
    ·rw [getD_set_ne (by omega)] at hi ⊢
     exact h.val i i0 i1 hi
   ·obtain ⟨q1, q2, q3⟩ := h.ordr j2 hj2
    have := hno j2 hj2
    exact ⟨q1, q2, by rw [getD_set_ne (by omega)]; exact q3⟩
   ·rw [hk0, List.nil_append] at hz
    exact h.ssrc z (by simp [hz])
 ·rw [if_neg hat]; exact fresh (.inl (by simpa using hat))
theorem meetS_mono {pl ord : List Int} {old : Nat} {i : Nat} (h : pl.getD i 0 ≠ -1) (hl : old < pl.length) : (meetS ns pl ord old).1.getD i 0 ≠ -1 := by
 obtain ⟨z, hz1, hz2, hz3, hz4⟩ := meetS_facts ns pl ord old
 rw [hz3]
 by_cases e : old = i
 ·subst e; rw [getD_set_self hl]; exact hz1
 ·rw [getD_set_ne e]; exact h
theorem Cv.end_ {nn : Nat} : ∀ {f : Nat} {st pl ord : List Int}, Fv ns nn st pl ord f -> Cv ns rs st pl ord ->
  Cv ns rs [] (followS ns f st pl ord).1 (followS ns f st pl ord).2 /\ (∀ i, pl.getD i 0 ≠ -1 -> (followS ns f st pl ord).1.getD i 0 ≠ -1) /\ (∀ z ∈ st, (followS ns f st pl ord).1.getD z.toNat 0 ≠ -1)
 | 0, st, pl, ord, h, c => by
  have := h.fu
  obtain rfl : st = [] := List.length_eq_zero_iff.1 (by omega)
  exact ⟨c, fun _ h => h, fun z hz => by cases hz⟩
 | f + 1, [], pl, ord, h, c => ⟨c, fun _ h => h, fun z hz => by cases hz⟩
 | f + 1, o :: st, pl, ord, h, c => by
  unfold followS
  have hr := h.rng o (by simp)
  have hl : o.toNat < pl.length := by rw [h.plen]; omega
  by_cases hp : pl.getD o.toNat 0 = -1
  ·rw [if_neg (fun hq => hq hp)]
   obtain ⟨q1, q2, q3⟩ := (Cv.end_ (h.meet hp) (c.meet hp))
   refine ⟨q1, fun i hi => q2 i (meetS_mono hi hl), fun z hz => ?_⟩
   rcases List.mem_cons.1 hz with rfl | hz
   ·refine q2 _ ?_
    obtain ⟨y, hy1, hy2, hy3, hy4⟩ := meetS_facts ns pl ord z.toNat
    rw [hy3, getD_set_self hl]; exact hy1
   ·exact q3 z (by simp [hz])
  ·rw [if_pos hp]
   obtain ⟨q1, q2, q3⟩ := (Cv.end_ h.skip (c.skip hp))
   refine ⟨q1, q2, fun z hz => ?_⟩
   rcases List.mem_cons.1 hz with rfl | hz
   ·exact q2 _ hp
   ·exact q3 z hz
theorem Cv.push {pl ord : List Int} (h : Cv ns rs [] pl ord) {r : Int} (hr : r ∈ rs) (hrr : 0 <= r /\ r < ns.length) : Cv ns rs [r] pl ord :=
 ⟨h.plen, h.kids, h.bare, (fun z hz => by obtain rfl : z = r := (by simpa using hz); exact hrr), (fun i i0 i1 hi k hk => by
  rcases h.cl i i0 i1 hi k hk with q | q
  ·exact .inl q
  ·cases q), h.val, h.ordr, h.dist, h.src, (fun z hz => by obtain rfl : z = r := (by simpa using hz); exact .inl hr)⟩
theorem Cv.roots {nn : Nat} {f : Nat} (hf : 1 + 100 * nn <= f) (hnn : nn <= 2500) : ∀ {l : List Int} {s : List Int × List Int}, (∀ z ∈ l, z ∈ rs) -> (∀ z ∈ l, 0 <= z /\ z < (nn : Int)) -> Sv ns nn s.1 s.2 -> Cv ns rs [] s.1 s.2 ->
  Sv ns nn (followR ns f l s).1 (followR ns f l s).2 /\ Cv ns rs [] (followR ns f l s).1 (followR ns f l s).2 /\ (∀ i, s.1.getD i 0 ≠ -1 -> (followR ns f l s).1.getD i 0 ≠ -1) /\ (∀ z ∈ l, (followR ns f l s).1.getD z.toNat 0 ≠ -1)
 | [], s, _, _, S, C => ⟨S, C, fun _ h => h, fun z hz => by cases hz⟩
 | r :: l, s, hl, hr, S, C => by
  have r0 := hr r (by simp)
  obtain ⟨q1, q2, q3⟩ := Cv.end_ (f := f) (S.fv r0 hf) (C.push (hl r (by simp)) (by rw [S.nlen]; exact r0))
  obtain ⟨p0, p1, p2, p3⟩ := Cv.roots (nn := nn) hf hnn (l := l) (s := followS ns f [r] s.1 s.2) (fun z hz => hl z (by simp [hz])) (fun z hz => hr z (by simp [hz])) (S.follow hnn r0 hf) q1
  refine ⟨p0, p1, fun i hi => p2 i (q2 i hi), fun z hz => ?_⟩
  rcases List.mem_cons.1 hz with rfl | hz
  ·exact p2 _ (q3 z (by simp))
  ·exact p3 z hz
end
theorem nd_ext {a b : Nd} (h1 : a.kind = b.kind) (h2 : a.num = b.num) (h3 : a.text = b.text) (h4 : a.kids = b.kids) : a = b := by
 cases a; cases b; simp only at h1 h2 h3 h4; subst h1 h2 h3 h4; rfl
theorem goodG_bare {ns : List Nd} {rs : List Int} (h : goodG ns rs = true) : ∀ d ∈ ns, atomB d.kind = true -> d.kids = [] := by
 intro d hd ha
 unfold goodG at h
 rw [Bool.and_eq_true] at h
 have := List.all_eq_true.1 h.1 d hd
 unfold nodeB at this
 simp only [Bool.and_eq_true] at this
 have hc := this.1.2
 unfold atomB at ha
 unfold countB at hc
 simp only [Bool.or_eq_true, decide_eq_true_eq] at ha
 rw [if_neg (by omega), if_neg (by omega), if_neg (by omega), decide_eq_true_eq] at hc
 exact List.length_eq_zero_iff.1 hc
theorem start_get (n : Nat) (i : Nat) : (start n).1.getD i 0 = -1 \/ n <= i := by
 unfold start
 by_cases h : i < n
 ·left; rw [List.getD_eq_getElem?_getD, List.getElem?_replicate, if_pos h]; rfl
 ·exact .inr (by omega)
theorem Cv.start_ {ns : List Nd} {rs : List Int} (h : goodG ns rs = true) : Cv ns rs [] (start ns.length).1 (start ns.length).2 := by
 have hn : ∀ i : Int, 0 <= i -> i < ns.length -> (start ns.length).1.getD i.toNat 0 = -1 := fun i i0 i1 => by
  rcases start_get ns.length i.toNat with q | q
  ·exact q
  ·omega
 exact ⟨by simp [start], (goodG_parts h).1, goodG_bare h, (fun z hz => by cases hz), (fun i i0 i1 hi => absurd (hn i i0 i1) hi), (fun i i0 i1 hi => absurd (hn i i0 i1) hi), (fun j hj => by simp [start] at hj), (fun j j' _ hj => by simp [start] at hj), (fun j hj => by simp [start] at hj), (fun z hz => by cases hz)⟩
def endS (ns : List Nd) (rs : List Int) (f : Nat) : List Int × List Int := followR ns f rs (start ns.length)
structure Fine (ns : List Nd) (rs : List Int) (f : Nat) : Prop where
 good : goodG ns rs = true
 kids : ∀ d ∈ ns, d.kids.length <= 100
 nn : ns.length <= 2500
 fuel : 1 + 100 * ns.length <= f
theorem Fine.ends {ns : List Nd} {rs : List Int} {f : Nat} (h : Fine ns rs f) : Sv ns ns.length (endS ns rs f).1 (endS ns rs f).2 /\ Cv ns rs [] (endS ns rs f).1 (endS ns rs f).2 /\ (∀ z ∈ rs, (endS ns rs f).1.getD z.toNat 0 ≠ -1) := by
 obtain ⟨hk, hr⟩ := goodG_parts h.good
 obtain ⟨q0, q1, q2, q3⟩ := Cv.roots (ns := ns) (rs := rs) (nn := ns.length) h.fuel h.nn (l := rs) (s := start ns.length) (fun _ h => h) (places_rng hr) (Sv.start_ hk h.kids) (Cv.start_ h.good)
 exact ⟨q0, q1, q3⟩
theorem Fine.canon {ns : List Nd} {rs : List Int} {f : Nat} (h : Fine ns rs f) : canonG ns rs f = ((endS ns rs f).2.map (newNode ns (endS ns rs f).1), renum (endS ns rs f).1 rs) := by
 unfold canonG; rw [if_pos h.good]; rfl
theorem canon_sim {ns ns' : List Nd} {φ : Int -> Int} {M : Int -> Prop} {rs : List Int} {f : Nat} (S : Sim ns ns' φ M) (h : Fine ns rs f) (hr : ∀ z ∈ rs, M z) (h' : goodG ns' (rs.map φ) = true) : canonG ns' (rs.map φ) f = canonG ns rs f := by
 have R := sim_roots S f (rs := rs) hr (sim_start S)
 obtain ⟨q0, q1, q2⟩ := h.ends
 rw [h.canon]
 unfold canonG
 rw [if_pos h']
 have e2 : (followR ns' f (rs.map φ) (start ns'.length)).2 = (endS ns rs f).2.map φ := R.ord_
 have hpl : ∀ i, M i -> (endS ns rs f).1.getD i.toNat 0 ≠ -1 -> (followR ns' f (rs.map φ) (start ns'.length)).1.getD (φ i).toNat 0 = (endS ns rs f).1.getD i.toNat 0 := R.pl_
 generalize (followR ns' f (rs.map φ) (start ns'.length)).1 = P' at *
 rw [e2, List.map_map]
 refine Prod.ext ?_ ?_
 ·refine List.map_congr_left fun o ho => ?_
  have hM := R.om o ho
  have hM0 := S.rng o hM
  obtain ⟨j, hj, e⟩ := List.getElem_of_mem ho
  have hoj : (endS ns rs f).2.getD j 0 = o := by rw [List.getD_eq_getElem?_getD, List.getElem?_eq_getElem hj]; exact e
  have hmet : (endS ns rs f).1.getD o.toNat 0 ≠ -1 := by
   have := (q1.ordr j hj).2.2
   rw [hoj] at this; rw [this]; omega
  have hk : ∀ k ∈ (ns.getD o.toNat default).kids, (endS ns rs f).1.getD k.toNat 0 ≠ -1 := fun k hk => by
   rcases q1.cl o hM0.1 hM0.2 hmet k hk with q | q
   ·exact q
   ·cases q
  show newNode ns' P' (φ o) = newNode ns (endS ns rs f).1 o
  unfold newNode
  rw [S.node o hM]
  refine nd_ext rfl rfl rfl ?_
  show renum P' ((ns.getD o.toNat default).kids.map φ) = renum (endS ns rs f).1 (ns.getD o.toNat default).kids
  unfold renum
  rw [List.map_map]
  exact List.map_congr_left fun k hkk => hpl k (S.kids o hM k hkk) (hk k hkk)
 ·show renum P' (rs.map φ) = renum (endS ns rs f).1 rs
  unfold renum
  rw [List.map_map]
  exact List.map_congr_left fun k hk => hpl k (hr k hk) (q2 k hk)
set_option maxRecDepth 100000
theorem store4 {w : World} {g : Nat} {a b c d v1 v2 v3 v4 : Value} {t : TypeId} (h : w.heap[g]? = some (.cells #[a, b, c, d] t (0, 0))) : ((((w.setCell ⟨g, 0, none⟩ v1).setCell ⟨g, 1, none⟩ v2).setCell ⟨g, 2, none⟩ v3).setCell ⟨g, 3, none⟩ v4).heap[g]? = some (.cells #[v1, v2, v3, v4] t (0, 0)) := by
 have h1 := blk_set (i := 0) h v1
 have h2 := blk_set (i := 1) h1 v2
 have h3 := blk_set (i := 2) h2 v3
 have h4 := blk_set (i := 3) h3 v4
 rw [h4]; rfl
theorem store4_far {w : World} {g b : Nat} {v1 v2 v3 v4 : Value} (h : b ≠ g) : ((((w.setCell ⟨g, 0, none⟩ v1).setCell ⟨g, 1, none⟩ v2).setCell ⟨g, 2, none⟩ v3).setCell ⟨g, 3, none⟩ v4).heap[b]? = w.heap[b]? :=
 (Below.heap_setCell _ _ _ _ h).trans ((Below.heap_setCell _ _ _ _ h).trans ((Below.heap_setCell _ _ _ _ h).trans (Below.heap_setCell _ _ _ _ h)))
theorem store4_below {n : Nat} {w0 w : World} {g : Nat} {v1 v2 v3 v4 : Value} (h : Below n w0 w) (hg : n <= g) : Below n w0 ((((w.setCell ⟨g, 0, none⟩ v1).setCell ⟨g, 1, none⟩ v2).setCell ⟨g, 2, none⟩ v3).setCell ⟨g, 3, none⟩ v4) :=
 (((h.setCell (p := ⟨g, 0, none⟩) hg _).setCell (p := ⟨g, 1, none⟩) hg _).setCell (p := ⟨g, 2, none⟩) hg _).setCell (p := ⟨g, 3, none⟩) hg _
theorem goodG_mk {ns : List Nd} {rs : List Int} (h : ∀ d ∈ ns, nodeB ns.length d = true) (h2 : placesB rs ns.length = true) : goodG ns rs = true := by
 unfold goodG
 rw [Bool.and_eq_true]
 exact ⟨List.all_eq_true.2 h, h2⟩
end Go.Proofs.YtdekkieajffblaaGreatDoor
