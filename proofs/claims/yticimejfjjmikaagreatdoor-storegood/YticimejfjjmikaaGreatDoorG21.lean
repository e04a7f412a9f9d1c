import Derived.Test.YticimejfjjmikaaGreatDoorSG1
import Derived.Test.YticimejfjjmikaaGreatDoorG3
import Derived.Test.YticimejfjjmikaaGreatDoorM1
set_option linter.unusedVariables false
set_option linter.unusedSimpArgs false
namespace Go.Proofs.YticimejfjjmikaaGreatDoor
open Go.RowKit
theorem followS_nil (ns : List Nd) (f : Nat) (pl ord : List Int) : followS ns f [] pl ord = (pl, ord) := by cases f <;> rfl
theorem um_meet (ns : List Nd) (pl ord : List Int) {o : Nat} (ho : o < ns.length) (hl : pl.length = ns.length) (hp : pl.getD o 0 = -1) : um ns (meetS ns pl ord o).1 <= um ns pl := by
 obtain ⟨z, hz1, hz2, hz3, hz4⟩ := meetS_facts ns pl ord o
 rw [hz3]
 have := um_set (ns := ns) (pl := pl) (i := o) (z := z) ho (by omega) hp hz1
 omega
theorem um_follow {ns : List Nd} {nn : Nat} : ∀ {f : Nat} {st pl ord : List Int}, Fv ns nn st pl ord f -> um ns (followS ns f st pl ord).1 <= um ns pl
 | 0, _, _, _, _ => Nat.le_refl _
 | f + 1, [], _, _, _ => Nat.le_refl _
 | f + 1, o :: st, pl, ord, h => by
  unfold followS
  have hr := h.rng o (by simp)
  by_cases hp : pl.getD o.toNat 0 = -1
  ·rw [if_neg (fun hq => hq hp)]
   exact Nat.le_trans (um_follow (h.meet hp)) (um_meet ns pl ord (by rw [h.nlen]; omega) (by rw [h.plen, h.nlen]) hp)
  ·rw [if_pos hp]; exact um_follow h.skip
theorem Fv.left {ns : List Nd} {nn : Nat} {s1 s2 pl ord : List Int} {f : Nat} (h : Fv ns nn (s1 ++ s2) pl ord f) : Fv ns nn s1 pl ord f :=
 ⟨h.plen, h.nlen, h.kids, fun z hz => h.rng z (by simp [hz]), by have := h.fu; simp at this; omega, h.cnt⟩
theorem Fv.right {ns : List Nd} {nn : Nat} {s1 s2 pl ord : List Int} {f : Nat} (h : Fv ns nn (s1 ++ s2) pl ord f) : Fv ns nn s2 (followS ns f s1 pl ord).1 (followS ns f s1 pl ord).2 f := by
 have e := h.left.end_
 have u := um_follow h.left
 exact ⟨e.plen, e.nlen, e.kids, fun z hz => h.rng z (by simp [hz]), by have := h.fu; simp at this; omega, e.cnt⟩
theorem follow_fuel {ns : List Nd} {nn : Nat} : ∀ {f : Nat} {st pl ord : List Int}, Fv ns nn st pl ord f -> followS ns (f + 1) st pl ord = followS ns f st pl ord
 | 0, st, pl, ord, h => by
  have := h.fu
  obtain rfl : st = [] := List.length_eq_zero_iff.1 (by omega)
  rfl
 | f + 1, [], pl, ord, h => rfl
 | f + 1, o :: st, pl, ord, h => by
  rw [followS, followS]
  by_cases hp : pl.getD o.toNat 0 = -1
  ·rw [if_neg (fun hq => hq hp), if_neg (fun hq => hq hp)]; exact follow_fuel (h.meet hp)
  ·rw [if_pos hp, if_pos hp]; exact follow_fuel h.skip
theorem follow_append {ns : List Nd} {nn : Nat} : ∀ {f : Nat} {s1 s2 pl ord : List Int}, Fv ns nn (s1 ++ s2) pl ord f -> followS ns f (s1 ++ s2) pl ord = followS ns f s2 (followS ns f s1 pl ord).1 (followS ns f s1 pl ord).2
 | f, [], s2, pl, ord, h => by rw [followS_nil]; rfl
 | 0, o :: s1, s2, pl, ord, h => by have := h.fu; simp at this
 | f + 1, o :: s1, s2, pl, ord, h => by
  have h' : Fv ns nn (o :: (s1 ++ s2)) pl ord (f + 1) := h
  rw [List.cons_append, followS, followS]
  by_cases hp : pl.getD o.toNat 0 = -1
  ·rw [if_neg (fun hq => hq hp), if_neg (fun hq => hq hp)]
   have h2 := h'.meet hp
   rw [<- List.append_assoc] at h2 ⊢
   rw [follow_append h2, follow_fuel h2.right]
  ·rw [if_pos hp, if_pos hp]
   have h2 := h'.skip
   rw [follow_append h2, follow_fuel h2.right]
theorem followR_all {ns : List Nd} {nn : Nat} {f : Nat} : ∀ {rs : List Int} {s : List Int × List Int}, Fv ns nn rs s.1 s.2 f -> followR ns f rs s = followS ns f rs s.1 s.2
 | [], s, h => by rw [followS_nil]; rfl
 | r :: rs, s, h => by
  have h' : Fv ns nn ([r] ++ rs) s.1 s.2 f := h
  show followR ns f rs (followS ns f [r] s.1 s.2) = followS ns f ([r] ++ rs) s.1 s.2
  rw [follow_append h', followR_all h'.right]
def rmetS (ns : List Nd) (pt ord : List Int) (n : Nat) : Int :=
 if 0 <= pt.getD n 0 \/ atomB (ns.getD n default).kind = false then pt.getD n 0 else
  match findA ns ord (ns.getD n default) with
  | some j => (j : Int)
  | none => -1
def rfollowS (ns : List Nd) : Nat -> List Int -> List Int -> List Int -> List Int × List Int
 | 0, _, pt, ord => (pt, ord)
 | _ + 1, [], pt, ord => (pt, ord)
 | f + 1, o :: st, pt, ord => if 0 <= rmetS ns pt ord o.toNat then rfollowS ns f st pt ord else rfollowS ns f ((ns.getD o.toNat default).kids ++ st) (pt.set o.toNat ord.length) (ord ++ [(o.toNat : Int)])
structure Rr (ns : List Nd) (pl pt ord : List Int) : Prop where
 plen : pl.length = ns.length
 tlen : pt.length = ns.length
 pos : ∀ i, i < ns.length -> pl.getD i 0 ≠ -1 -> 0 <= pl.getD i 0
 r1 : ∀ i, i < ns.length -> pt.getD i 0 ≠ -1 -> pl.getD i 0 = pt.getD i 0
 r2 : ∀ i, i < ns.length -> pl.getD i 0 ≠ -1 -> pt.getD i 0 = pl.getD i 0 \/ (pt.getD i 0 = -1 /\ atomB (ns.getD i default).kind = true /\ ∃ j, findA ns ord (ns.getD i default) = some j /\ pl.getD i 0 = (j : Int))
theorem Rr.met {ns : List Nd} {pl pt ord : List Int} (h : Rr ns pl pt ord) {i : Nat} (hi : i < ns.length) (hp : pl.getD i 0 ≠ -1) : rmetS ns pt ord i = pl.getD i 0 := by
 have hpos := h.pos i hi hp
 unfold rmetS
 rcases h.r2 i hi hp with e | ⟨e, ha, j, hf, hj⟩
 ·rw [if_pos (.inl (by omega)), e]
 ·rw [if_neg (by rw [e, ha]; simp), hf, hj]
theorem Rr.un {ns : List Nd} {pl pt ord : List Int} (h : Rr ns pl pt ord) {i : Nat} (hi : i < ns.length) (hp : pl.getD i 0 = -1) : pt.getD i 0 = -1 := by
 by_cases e : pt.getD i 0 = -1
 ·exact e
 ·have := h.r1 i hi e; omega
theorem rsim {ns : List Nd} (hb : ∀ d ∈ ns, atomB d.kind = true -> d.kids = []) (hk : ∀ d ∈ ns, placesB d.kids ns.length = true) : ∀ {f : Nat} {st pl pt ord : List Int}, (∀ z ∈ st, 0 <= z /\ z < ns.length) -> Rr ns pl pt ord ->
  Rr ns (followS ns f st pl ord).1 (rfollowS ns f st pt ord).1 (followS ns f st pl ord).2 /\ (rfollowS ns f st pt ord).2 = (followS ns f st pl ord).2
 | 0, _, _, _, _, _, R => ⟨R, rfl⟩
 | f + 1, [], _, _, _, _, R => ⟨R, rfl⟩
 | f + 1, o :: st, pl, pt, ord, hs, R => by
  have ho := hs o (by simp)
  have hi : o.toNat < ns.length := by omega
  have hst : ∀ z ∈ st, 0 <= z /\ z < (ns.length : Int) := fun z hz => hs z (by simp [hz])
  have hmem := getD_mem_nd hi
  unfold followS rfollowS
  by_cases hp : pl.getD o.toNat 0 = -1
  ·rw [if_neg (fun hq => hq hp)]
   have ht := R.un hi hp
   have fresh : (atomB (ns.getD o.toNat default).kind = false \/ findA ns ord (ns.getD o.toNat default) = none) -> meetS ns pl ord o.toNat = (pl.set o.toNat ord.length, ord ++ [(o.toNat : Int)]) /\ rmetS ns pt ord o.toNat = -1 := by
    intro hf
    unfold meetS rmetS
    rcases hf with hf | hf
    ·rw [if_neg (by rw [hf]; decide), if_pos (.inr hf)]; exact ⟨rfl, ht⟩
    ·by_cases ha : atomB (ns.getD o.toNat default).kind = true
     ·rw [if_pos ha, hf, if_neg (by rw [ht, ha]; simp)]; exact ⟨rfl, rfl⟩
     ·rw [if_neg ha, if_pos (.inr (by simpa using ha))]; exact ⟨rfl, ht⟩
   have go : (atomB (ns.getD o.toNat default).kind = false \/ findA ns ord (ns.getD o.toNat default) = none) -> Rr ns (pl.set o.toNat ord.length) (pt.set o.toNat ord.length) (ord ++ [(o.toNat : Int)]) := by
    intro hf
    have hlp : o.toNat < pl.length := by rw [R.plen]; exact hi
    have hlt : o.toNat < pt.length := by rw [R.tlen]; exact hi
    refine ⟨by rw [List.length_set]; exact R.plen, by rw [List.length_set]; exact R.tlen, fun i h1 h2 => ?_, fun i h1 h2 => ?_, fun i h1 h2 => ?_⟩
    ·by_cases e : o.toNat = i
     ·subst e; rw [getD_set_self hlp]; omega
     ·rw [getD_set_ne e] at h2 ⊢; exact R.pos i h1 h2
    ·by_cases e : o.toNat = i
     ·subst e; rw [getD_set_self hlp, getD_set_self hlt]
     ·rw [getD_set_ne e] at h2 ⊢; rw [getD_set_ne e]; exact R.r1 i h1 h2
    ·by_cases e : o.toNat = i
     ·subst e; left; rw [getD_set_self hlp, getD_set_self hlt]
     ·rw [getD_set_ne e] at h2 ⊢; rw [getD_set_ne e]
      rcases R.r2 i h1 h2 with q | ⟨q1, q2, j, q3, q4⟩
      ·exact .inl q
      ·exact .inr ⟨q1, q2, j, findA_snoc_some q3, q4⟩
   by_cases ha : atomB (ns.getD o.toNat default).kind = true
   ·cases hfo : findA ns ord (ns.getD o.toNat default) with
    | none =>
     obtain ⟨e1, e2⟩ := fresh (.inr hfo)
     rw [e1, e2, if_neg (by omega), hb _ hmem ha, List.nil_append]
     exact rsim hb hk hst (go (.inr hfo))
    | some j =>
     have e1 : meetS ns pl ord o.toNat = (pl.set o.toNat j, ord) := by unfold meetS; rw [if_pos ha, hfo]
     have e2 : rmetS ns pt ord o.toNat = j := by unfold rmetS; rw [if_neg (by rw [ht, ha]; simp), hfo]
     rw [e1, e2, if_pos (by omega), hb _ hmem ha, List.nil_append]
     refine rsim hb hk hst ⟨by rw [List.length_set]; exact R.plen, R.tlen, fun i h1 h2 => ?_, fun i h1 h2 => ?_, fun i h1 h2 => ?_⟩
     ·by_cases e : o.toNat = i
      ·subst e; rw [getD_set_self (by rw [R.plen]; exact hi)]; omega
      ·rw [getD_set_ne e] at h2 ⊢; exact R.pos i h1 h2
     ·by_cases e : o.toNat = i
      ·subst e; exact absurd ht h2
      ·rw [getD_set_ne e]; exact R.r1 i h1 h2
     ·by_cases e : o.toNat = i
      ·subst e; right; exact ⟨ht, ha, j, hfo, getD_set_self (by rw [R.plen]; exact hi)⟩
      ·rw [getD_set_ne e] at h2 ⊢; exact R.r2 i h1 h2
   ·obtain ⟨e1, e2⟩ := fresh (.inl (by simpa using ha))
    rw [e1, e2, if_neg (by omega)]
    refine rsim hb hk ?_ (go (.inl (by simpa using ha)))
    intro z hz
    rcases List.mem_append.1 hz with hz | hz
    ·exact places_rng (hk _ hmem) z hz
    ·exact hst z hz
  ·rw [if_pos hp, R.met hi hp, if_pos (R.pos _ hi hp)]
   exact rsim hb hk hst R
def rmetL (ns : List Nd) (pt ord l : List Int) : List Int := l.map fun o => rmetS ns pt ord o.toNat
def rnewNode (ns : List Nd) (pt ord : List Int) (o : Int) : Nd := { ns.getD o.toNat default with kids := rmetL ns pt ord (ns.getD o.toNat default).kids }
def rcanonG (ns : List Nd) (rs : List Int) (f : Nat) : List Nd × List Int :=
 if goodG ns rs = true then
  let s := rfollowS ns f rs (start ns.length).1 (start ns.length).2
  (s.2.map (rnewNode ns s.1 s.2), rmetL ns s.1 s.2 rs)
 else ([], [])
theorem rcanon_eq {ns : List Nd} {rs : List Int} {f : Nat} (h : Fine ns rs f) (hf : rs.length + 100 * ns.length <= f) : rcanonG ns rs f = canonG ns rs f := by
 obtain ⟨q0, q1, q2⟩ := h.ends
 obtain ⟨hk, hr⟩ := goodG_parts h.good
 have hrr := places_rng hr
 have hst : ∀ i, i < ns.length -> (start ns.length).1.getD i 0 = -1 := fun i hi => by
  rcases start_get ns.length i with q | q
  ·exact q
  ·omega
 have hF : Fv ns ns.length rs (start ns.length).1 (start ns.length).2 f := ⟨by simp [start], rfl, hk, hrr, by have := um_le (ns := ns) (pl := (start ns.length).1) h.kids; omega, by simp [start]⟩
 have e0 : endS ns rs f = followS ns f rs (start ns.length).1 (start ns.length).2 := followR_all hF
 have R0 : Rr ns (start ns.length).1 (start ns.length).1 (start ns.length).2 := ⟨by simp [start], by simp [start], fun i hi hp => absurd (hst i hi) hp, fun i hi hp => absurd (hst i hi) hp, fun i hi hp => absurd (hst i hi) hp⟩
 obtain ⟨R, eo⟩ := rsim (goodG_bare h.good) hk (f := f) (st := rs) hrr R0
 rw [<- e0] at R eo
 rw [h.canon]
 unfold rcanonG
 rw [if_pos h.good]
 simp only
 rw [eo]
 generalize (rfollowS ns f rs (start ns.length).1 (start ns.length).2).1 = T at *
 have hm : ∀ k : Int, 0 <= k -> k < ns.length -> (endS ns rs f).1.getD k.toNat 0 ≠ -1 -> rmetS ns T (endS ns rs f).2 k.toNat = (endS ns rs f).1.getD k.toNat 0 := fun k k0 k1 hk => R.met (by omega) hk
 refine Prod.ext ?_ ?_
 ·refine List.map_congr_left fun o ho => ?_
  obtain ⟨j, hj, e⟩ := List.getElem_of_mem ho
  have hoj : (endS ns rs f).2.getD j 0 = o := by rw [List.getD_eq_getElem?_getD, List.getElem?_eq_getElem hj]; exact e
  obtain ⟨r1, r2, r3⟩ := q1.ordr j hj
  rw [hoj] at r1 r2 r3
  refine nd_ext rfl rfl rfl ?_
  show rmetL ns T (endS ns rs f).2 (ns.getD o.toNat default).kids = renum (endS ns rs f).1 (ns.getD o.toNat default).kids
  refine List.map_congr_left fun k hkk => ?_
  have hkr := places_rng (hk _ (getD_mem_nd (by omega : o.toNat < ns.length))) k hkk
  refine hm k hkr.1 hkr.2 ?_
  rcases q1.cl o r1 r2 (by rw [r3]; omega) k hkk with q | q
  ·exact q
  ·cases q
 ·refine List.map_congr_left fun k hkk => ?_
  exact hm k (hrr k hkk).1 (hrr k hkk).2 (q2 k hkk)
def atomsL (ns : List Nd) : List Int -> Nat -> List Int
 | [], _ => []
 | o :: ord, k => if atomB (ns.getD o.toNat default).kind = true then (k : Int) :: atomsL ns ord (k + 1) else atomsL ns ord (k + 1)
theorem atomsL_snoc (ns : List Nd) (o : Int) : ∀ (ord : List Int) (k : Nat), atomsL ns (ord ++ [o]) k = atomsL ns ord k ++ (if atomB (ns.getD o.toNat default).kind = true then [((k + ord.length : Nat) : Int)] else [])
 | [], k => by simp [atomsL]
 | x :: ord, k => by
  have ih := atomsL_snoc ns o ord (k + 1)
  simp only [List.cons_append, atomsL, ih, List.length_cons]
  have e : k + 1 + ord.length = k + (ord.length + 1) := by omega
  rw [e]
  split <;> simp
theorem atomsL_rng (ns : List Nd) : ∀ (ord : List Int) (k : Nat), ∀ z ∈ atomsL ns ord k, (k : Int) <= z /\ z < k + ord.length
 | [], k, z, h => by simp [atomsL] at h
 | x :: ord, k, z, h => by
  have ih := atomsL_rng ns ord (k + 1)
  simp only [atomsL] at h
  have hs : z ∈ atomsL ns ord (k + 1) -> (k : Int) <= z /\ z < k + ((x :: ord).length : Nat) := fun h => by
   have := ih z h; simp; omega
  split at h
  ·rcases List.mem_cons.1 h with rfl | h
   ·simp; omega
   ·exact hs h
  ·exact hs h
theorem atomsL_len (ns : List Nd) : ∀ (ord : List Int) (k : Nat), (atomsL ns ord k).length <= ord.length
 | [], k => by simp [atomsL]
 | x :: ord, k => by
  have ih := atomsL_len ns ord (k + 1)
  simp only [atomsL]; split <;> simp <;> omega
def sameAt (ns : List Nd) (ord : List Int) (d : Nd) (z : Int) : Bool := decide (sameA (ns.getD (ord.getD z.toNat 0).toNat default) d)
theorem findA_atoms_go (ns : List Nd) (d : Nd) (all : List Int) : ∀ (ord : List Int) (k : Nat), (∀ j, j < ord.length -> all.getD (k + j) 0 = ord.getD j 0) ->
  ((findA ns ord d).map fun j => ((k + j : Nat) : Int)) = (atomsL ns ord k).find? (sameAt ns all d)
 | [], k, _ => by simp [findA, atomsL]
 | o :: ord, k, h => by
  have h0 := h 0 (by simp)
  rw [Nat.add_zero] at h0
  have ih := findA_atoms_go ns d all ord (k + 1) (fun j hj => by have := h (j + 1) (by simpa using hj); rw [show k + 1 + j = k + (j + 1) by omega]; rw [this]; simp)
  have hsame : sameAt ns all d (k : Int) = decide (sameA (ns.getD o.toNat default) d) := by unfold sameAt; rw [Int.toNat_natCast, h0]; rfl
  unfold findA at *
  rw [List.findIdx?_cons, atomsL]
  by_cases ha : atomB (ns.getD o.toNat default).kind = true
  ·rw [if_pos ha, List.find?_cons, hsame, ha, Bool.true_and]
   by_cases hs : sameA (ns.getD o.toNat default) d
   ·rw [decide_eq_true hs]; simp
   ·rw [decide_eq_false hs]
    simp only [Bool.false_eq_true, if_false]
    rw [<- ih, Option.map_map]
    congr 1
    funext j; simp; omega
  ·rw [if_neg ha, Bool.eq_false_iff.2 ha, Bool.false_and]
   simp only [Bool.false_eq_true, if_false]
   rw [<- ih, Option.map_map]
   congr 1
   funext j; simp; omega
theorem findA_atoms (ns : List Nd) (ord : List Int) (d : Nd) : ((findA ns ord d).map fun (j : Nat) => (j : Int)) = (atomsL ns ord 0).find? (sameAt ns ord d) := by
 have := findA_atoms_go ns d ord ord 0 (fun j _ => by rw [Nat.zero_add])
 simp only [Nat.zero_add] at this
 exact this
theorem rmetS_self {ns : List Nd} {pt ord : List Int} {n : Nat} (h : 0 <= pt.getD n 0 \/ atomB (ns.getD n default).kind = false) : rmetS ns pt ord n = pt.getD n 0 := by unfold rmetS; rw [if_pos h]
theorem rmetS_some {ns : List Nd} {pt ord : List Int} {n : Nat} {z : Int} (h : ¬ (0 <= pt.getD n 0 \/ atomB (ns.getD n default).kind = false)) (hf : (atomsL ns ord 0).find? (sameAt ns ord (ns.getD n default)) = some z) : rmetS ns pt ord n = z := by
 unfold rmetS; rw [if_neg h]
 rw [<- findA_atoms] at hf
 cases hq : findA ns ord (ns.getD n default) with
 | none => rw [hq] at hf; cases hf
 | some j => rw [hq] at hf; exact Option.some.inj hf
theorem rmetS_none {ns : List Nd} {pt ord : List Int} {n : Nat} (h : ¬ (0 <= pt.getD n 0 \/ atomB (ns.getD n default).kind = false)) (hf : (atomsL ns ord 0).find? (sameAt ns ord (ns.getD n default)) = none) : rmetS ns pt ord n = -1 := by
 unfold rmetS; rw [if_neg h]
 rw [<- findA_atoms] at hf
 cases hq : findA ns ord (ns.getD n default) with
 | none => rfl
 | some j => rw [hq] at hf; cases hf
theorem find_take {l : List Int} {p : Int -> Bool} {m : Nat} (hm : m < l.length) (h : (l.take m).find? p = none) : (p (l.getD m 0) = true -> l.find? p = some (l.getD m 0)) /\ (p (l.getD m 0) = false -> (l.take (m + 1)).find? p = none) := by
 have e : l.getD m 0 = l[m] := by rw [List.getD_eq_getElem?_getD, List.getElem?_eq_getElem hm]; rfl
 constructor
 ·intro hp
  have h2 : l = l.take m ++ l.drop m := (List.take_append_drop m l).symm
  rw [h2, List.find?_append, h]
  rw [<- h2, e]
  rw [List.drop_eq_getElem_cons hm, List.find?_cons, <- e, hp]; simp
 ·intro hp
  rw [List.take_succ_eq_append_getElem hm, List.find?_append, h, <- e, List.find?_cons, hp]; rfl
set_option maxRecDepth 100000
instance : DecidableEq Nd := fun a b => decidable_of_iff (a.kind = b.kind /\ a.num = b.num /\ a.text = b.text /\ a.kids = b.kids) (by cases a; cases b; simp)
theorem take_succ_of {α : Type} (d : α) {l : List α} {m : Nat} (h : m < l.length) : l.take (m + 1) = l.take m ++ [l.getD m d] := by
 rw [List.take_succ_eq_append_getElem h, List.getD_eq_getElem?_getD, List.getElem?_eq_getElem h]; rfl
theorem ne_of_getD {α : Type} (d : α) {l l' : List α} {m : Nat} (h : l.getD m d ≠ l'.getD m d) : l ≠ l' := fun e => h (by rw [e])
structure GOk (w : World) (an : Option Addr) (nn cn : Nat) (ar : Option Addr) (nr cr : Nat) (ns : List Nd) (rs : List Int) : Prop where
 is : GIs w an nn cn ar nr cr ns rs
 small : smallG ns
 kids : ∀ d ∈ ns, d.kids.length <= 100
 nn_le : nn <= 2500
 nr_le : nr <= 2500
theorem GOk.below {w w' : World} {an ar : Option Addr} {nn cn nr cr : Nat} {ns : List Nd} {rs : List Int} (h : GOk w an nn cn ar nr cr ns rs) (hb : Below w.heap.size w w') : GOk w' an nn cn ar nr cr ns rs := ⟨h.is.below hb, h.small, h.kids, h.nn_le, h.nr_le⟩
def canonN (ns : List Nd) (rs : List Int) : List Nd × List Int := canonG ns rs 300001
def sameGB (ns : List Nd) (rs : List Int) (ns' : List Nd) (rs' : List Int) : Bool := goodG ns rs && goodG ns' rs' && decide ((canonN ns rs).1 = (canonN ns' rs').1) && decide ((canonN ns rs).2 = (canonN ns' rs').2)
theorem own_lit {w : World} {g n k : Nat} {e : TypeId} {cs : Array Value} {xs : List Value} (h : w.heap[g]? = some (.cells cs e (0, 0))) (hx : cs.toList = xs) (hk : xs.length = n * k) (hn : n <= 1000) (base : Nat) (hb : base <= g) : w.ownsRow base e k (.slice (some ⟨g, 0, none⟩) n n) n xs := by
 refine ⟨hk, .inr ⟨g, n, cs, rfl, hb, h, Nat.le_refl _, by unfold maxLen; omega, ?_, ?_⟩⟩
 ·rw [<- Array.length_toList, hx, hk]
 ·rw [hx, List.take_of_length_le (by omega)]
theorem lit_nodes {w : World} {g n : Nat} {cs : Array Value} {l : List (Nd × (Option Addr × Nat × Nat))} (h : w.heap[g]? = some (.cells cs 54 (0, 0))) (hx : cs.toList = ncs l) (hl : l.length = n) (hn : n <= 1000) (hk : ∀ x ∈ l, IRow w x.2.1 x.2.2.1 x.2.2.2 x.1.kids /\ (∀ ad, x.2.1 = some ad -> ad.block < g /\ ad.block < w.heap.size)) (ho : ∀ x ∈ l, NdOk x.1) :
  NRow w (some ⟨g, 0, none⟩) n n (l.map Prod.fst) := by
 subst hl
 have ho' : NOwn 0 w (.slice (some ⟨g, 0, none⟩) l.length l.length) l := ⟨own_lit h hx (ncs_length l) hn 0 (Nat.zero_le _), fun x hx => ⟨(hk x hx).1, fun ad had => ⟨Nat.zero_le _, ((hk x hx).2 ad had).2, fun e => by have := ((hk x hx).2 ad had).1; have : g = ad.block := Option.some.inj e; omega⟩⟩, ho⟩
 obtain ⟨ao, cap, e, hr⟩ := ho'.row
 cases e
 exact hr
theorem lit_ints {w : World} {g n : Nat} {cs : Array Value} {l : List Int} (h : w.heap[g]? = some (.cells cs 3 (0, 0))) (hx : cs.toList = cz l) (hl : l.length = n) (hn : n <= 1000) (hb : ∀ z ∈ l, I64 z) : IRow w (some ⟨g, 0, none⟩) n n l := by
 subst hl
 obtain ⟨ao, cap, e, hr⟩ := irow_of (own_lit h hx (by rw [cz_length]; omega) hn 0 (Nat.zero_le _)) hb
 cases e
 exact hr
theorem two_new (w : World) (o1 o2 : Obj) : ((w.alloc o1).alloc o2).heap[w.heap.size]? = some o1 /\ ((w.alloc o1).alloc o2).heap[w.heap.size + 1]? = some o2 := by
 refine ⟨?_, heap_alloc2_new w o1 o2⟩
 exact ((Ba (w.alloc o1) o2).block _ (by rw [size_alloc]; omega)).trans (heap_alloc_new _ _)
theorem small2 (a b : Nd) (ha : a.text.size <= 2000 /\ a.kids.length <= 100) (hb : b.text.size <= 2000 /\ b.kids.length <= 100) : smallG [a, b] /\ ∀ d ∈ [a, b], d.kids.length <= 100 := by
 refine ⟨fun d hd => ?_, fun d hd => ?_⟩ <;>(simp at hd; rcases hd with rfl | rfl <;> omega)
theorem ok2 (a b : Nd) {x y : Option Addr × Nat × Nat} (ha : NdOk a) (hb : NdOk b) : ∀ z ∈ [(a, x), (b, y)], NdOk z.1 := by
 intro z hz; simp at hz; rcases hz with rfl | rfl <;> assumption
end Go.Proofs.YticimejfjjmikaaGreatDoor
