import Derived.Test.YticimejfjjmikaaGreatDoorSG1
import Derived.Test.YticimejfjjmikaaGreatDoorG3
import Derived.Test.YticimejfjjmikaaGreatDoorM2
import Derived.Test.YticimejfjjmikaaGreatDoorQ1
import Derived.Test.YticimejfjjmikaaGreatDoorG21
import Derived.Test.YticimejfjjmikaaGreatDoorG14
import Derived.Test.YticimejfjjmikaaGreatDoorW36
import Derived.Test.YticimejfjjmikaaGreatDoorST3
set_option linter.unusedVariables false
set_option linter.unusedSimpArgs false
namespace Go.Proofs.YticimejfjjmikaaGreatDoor
open Go.RowKit
theorem followS_nil (ns : List Nd) (f : Nat) (pl ord : List Int) : followS ns f [] pl ord = (pl,ord):=by cases f <;> rfl
theorem um_meet (ns : List Nd) (pl ord : List Int) {o : Nat} (ho : o < ns.length) (hl : pl.length = ns.length) (hp : pl.getD o 0 = -1) : um ns (meetS ns pl ord o).1 <= um ns pl:=by
 obtain ⟨z,hz1,hz2,hz3,hz4⟩:=meetS_facts ns pl ord o
 rw [hz3]
 have:=um_set (ns:=ns) (pl:=pl) (i:=o) (z:=z) ho (by omega) hp hz1
 omega
theorem um_follow {ns : List Nd} {nn : Nat} : ∀ {f : Nat} {st pl ord : List Int},Fv ns nn st pl ord f -> um ns (followS ns f st pl ord).1 <= um ns pl
 | 0,_,_,_,_=>Nat.le_refl _
 | f + 1,[],_,_,_=>Nat.le_refl _
 | f + 1, o :: st, pl, ord, h => by
  unfold followS
  have hr:=h.rng o (by simp)
  by_cases hp : pl.getD o.toNat 0 = -1
  ·rw [if_neg (fun hq => hq hp)]
   exact Nat.le_trans (um_follow (h.meet hp)) (um_meet ns pl ord (by rw [h.nlen];omega) (by rw [h.plen,h.nlen]) hp)
  ·rw [if_pos hp];exact um_follow h.skip
theorem Fv.left {ns : List Nd} {nn : Nat} {s1 s2 pl ord : List Int} {f : Nat} (h : Fv ns nn (s1 ++ s2) pl ord f) : Fv ns nn s1 pl ord f :=
 ⟨h.plen,h.nlen,h.kids,fun z hz=>h.rng z (by simp [hz]),by have:=h.fu;simp at this;omega,h.cnt⟩
theorem Fv.right {ns : List Nd} {nn : Nat} {s1 s2 pl ord : List Int} {f : Nat} (h : Fv ns nn (s1 ++ s2) pl ord f) : Fv ns nn s2 (followS ns f s1 pl ord).1 (followS ns f s1 pl ord).2 f:=by
 have e:=h.left.end_
 have u:=um_follow h.left
 exact ⟨e.plen,e.nlen,e.kids,fun z hz=>h.rng z (by simp [hz]),by have:=h.fu;simp at this;omega,e.cnt⟩
theorem follow_fuel {ns : List Nd} {nn : Nat} : ∀ {f : Nat} {st pl ord : List Int},Fv ns nn st pl ord f -> followS ns (f + 1) st pl ord = followS ns f st pl ord
 | 0,st,pl,ord,h=>by
  have:=h.fu
  obtain rfl : st = []:=List.length_eq_zero_iff.1 (by omega)
  rfl
 | f + 1,[],pl,ord,h=>rfl
 | f + 1,o :: st,pl,ord,h=>by
  rw [followS,followS]
  by_cases hp : pl.getD o.toNat 0 = -1
  ·rw [if_neg (fun hq=>hq hp),if_neg (fun hq=>hq hp)];exact follow_fuel (h.meet hp)
  ·rw [if_pos hp,if_pos hp];exact follow_fuel h.skip
theorem follow_append {ns : List Nd} {nn : Nat} : ∀ {f : Nat} {s1 s2 pl ord : List Int},Fv ns nn (s1 ++ s2) pl ord f -> followS ns f (s1 ++ s2) pl ord = followS ns f s2 (followS ns f s1 pl ord).1 (followS ns f s1 pl ord).2
 | f,[],s2,pl,ord,h=>by rw [followS_nil];rfl
 | 0,o :: s1,s2,pl,ord,h=>by have:=h.fu;simp at this
 | f + 1, o :: s1, s2, pl, ord, h => by
  have h' : Fv ns nn (o :: (s1 ++ s2)) pl ord (f + 1):=h
  rw [List.cons_append,followS,followS]
  by_cases hp : pl.getD o.toNat 0 = -1
  ·rw [if_neg (fun hq => hq hp), if_neg (fun hq => hq hp)]
   have h2:=h'.meet hp
   rw [<- List.append_assoc] at h2 ⊢
   rw [follow_append h2,follow_fuel h2.right]
  ·rw [if_pos hp, if_pos hp]
   have h2:=h'.skip
   rw [follow_append h2,follow_fuel h2.right]
theorem followR_all {ns : List Nd} {nn : Nat} {f : Nat} : ∀ {rs : List Int} {s : List Int × List Int},Fv ns nn rs s.1 s.2 f -> followR ns f rs s = followS ns f rs s.1 s.2
 | [],s,h=>by rw [followS_nil];rfl
 | r :: rs,s,h=>by
  have h' : Fv ns nn ([r] ++ rs) s.1 s.2 f:=h
  show followR ns f rs (followS ns f [r] s.1 s.2) = followS ns f ([r] ++ rs) s.1 s.2
  rw [follow_append h',followR_all h'.right]
def rmetS (ns : List Nd) (pt ord : List Int) (n : Nat) : Int :=
 if 0 <= pt.getD n 0 \/ atomB (ns.getD n default).kind = false then pt.getD n 0 else
  match findA ns ord (ns.getD n default) with
  | some j=>(j : Int)
  | none=>-1
def rfollowS (ns : List Nd) : Nat -> List Int -> List Int -> List Int -> List Int × List Int
 | 0,_,pt,ord=>(pt,ord)
 | _ + 1,[],pt,ord=>(pt,ord)
 | f + 1,o :: st,pt,ord=>if 0 <= rmetS ns pt ord o.toNat then rfollowS ns f st pt ord else rfollowS ns f ((ns.getD o.toNat default).kids ++ st) (pt.set o.toNat ord.length) (ord ++ [(o.toNat : Int)])
structure Rr (ns : List Nd) (pl pt ord : List Int) : Prop where
 plen : pl.length = ns.length
 tlen : pt.length = ns.length
 pos : ∀ i,i < ns.length -> pl.getD i 0 ≠ -1 -> 0 <= pl.getD i 0
 r1 : ∀ i,i < ns.length -> pt.getD i 0 ≠ -1 -> pl.getD i 0 = pt.getD i 0
 r2 : ∀ i,i < ns.length -> pl.getD i 0 ≠ -1 -> pt.getD i 0 = pl.getD i 0 \/ (pt.getD i 0 = -1 /\ atomB (ns.getD i default).kind = true /\ ∃ j,findA ns ord (ns.getD i default) = some j /\ pl.getD i 0 = (j : Int))
theorem Rr.met {ns : List Nd} {pl pt ord : List Int} (h : Rr ns pl pt ord) {i : Nat} (hi : i < ns.length) (hp : pl.getD i 0 ≠ -1) : rmetS ns pt ord i = pl.getD i 0:=by
 have hpos:=h.pos i hi hp
 unfold rmetS
 rcases h.r2 i hi hp with e | ⟨e,ha,j,hf,hj⟩
 ·rw [if_pos (.inl (by omega)),e]
 ·rw [if_neg (by rw [e,ha];simp),hf,hj]
theorem Rr.un {ns : List Nd} {pl pt ord : List Int} (h : Rr ns pl pt ord) {i : Nat} (hi : i < ns.length) (hp : pl.getD i 0 = -1) : pt.getD i 0 = -1:=by
 by_cases e : pt.getD i 0 = -1
 ·exact e
 ·have:=h.r1 i hi e;omega
theorem rsim {ns : List Nd} (hb : ∀ d∈ns,atomB d.kind = true -> d.kids = []) (hk : ∀ d∈ns,placesB d.kids ns.length = true) : ∀ {f : Nat} {st pl pt ord : List Int},(∀ z∈st,0 <= z /\ z < ns.length) -> Rr ns pl pt ord ->
  Rr ns (followS ns f st pl ord).1 (rfollowS ns f st pt ord).1 (followS ns f st pl ord).2 /\ (rfollowS ns f st pt ord).2 = (followS ns f st pl ord).2
 | 0,_,_,_,_,_,R=>⟨R,rfl⟩
 | f + 1,[],_,_,_,_,R=>⟨R,rfl⟩
 | f + 1, o :: st, pl, pt, ord, hs, R => by
  have ho:=hs o (by simp)
  have hi : o.toNat < ns.length:=by omega
  have hst : ∀ z∈st,0 <= z /\ z < (ns.length : Int):=fun z hz=>hs z (by simp [hz])
  have hmem:=getD_mem_nd hi
  unfold followS rfollowS
  by_cases hp : pl.getD o.toNat 0 = -1
  ·rw [if_neg (fun hq => hq hp)]
   have ht:=R.un hi hp
   have fresh : (atomB (ns.getD o.toNat default).kind = false \/ findA ns ord (ns.getD o.toNat default) = none) -> meetS ns pl ord o.toNat = (pl.set o.toNat ord.length,ord ++ [(o.toNat : Int)]) /\ rmetS ns pt ord o.toNat = -1:=by
    intro hf
    unfold meetS rmetS
    rcases hf with hf | hf
    ·rw [if_neg (by rw [hf];decide),if_pos (.inr hf)];exact ⟨rfl,ht⟩
    ·by_cases ha : atomB (ns.getD o.toNat default).kind = true
     ·rw [if_pos ha,hf,if_neg (by rw [ht,ha];simp)];exact ⟨rfl,rfl⟩
     ·rw [if_neg ha,if_pos (.inr (by simpa using ha))];exact ⟨rfl,ht⟩
   have go : (atomB (ns.getD o.toNat default).kind = false \/ findA ns ord (ns.getD o.toNat default) = none) -> Rr ns (pl.set o.toNat ord.length) (pt.set o.toNat ord.length) (ord ++ [(o.toNat : Int)]):=by
    intro hf
    have hlp : o.toNat < pl.length:=by rw [R.plen];exact hi
    have hlt : o.toNat < pt.length:=by rw [R.tlen];exact hi
    refine ⟨by rw [List.length_set];exact R.plen,by rw [List.length_set];exact R.tlen,fun i h1 h2=>?_,fun i h1 h2=>?_,fun i h1 h2=>?_⟩
    ·by_cases e : o.toNat = i
     ·subst e;rw [getD_set_self hlp];omega
     ·rw [getDi_set_ne e] at h2 ⊢;exact R.pos i h1 h2
    ·by_cases e : o.toNat = i
     ·subst e;rw [getD_set_self hlp,getD_set_self hlt]
     ·rw [getDi_set_ne e] at h2 ⊢;rw [getDi_set_ne e];exact R.r1 i h1 h2
    ·by_cases e : o.toNat = i
     ·subst e;left;rw [getD_set_self hlp,getD_set_self hlt]
     ·rw [getDi_set_ne e] at h2 ⊢; rw [getDi_set_ne e]
      rcases R.r2 i h1 h2 with q | ⟨q1,q2,j,q3,q4⟩
      ·exact .inl q
      ·exact .inr ⟨q1,q2,j,findA_snoc_some q3,q4⟩
   by_cases ha : atomB (ns.getD o.toNat default).kind = true
   ·cases hfo : findA ns ord (ns.getD o.toNat default) with
    | none =>
     obtain ⟨e1,e2⟩:=fresh (.inr hfo)
     rw [e1,e2,if_neg (by omega),hb _ hmem ha,List.nil_append]
     exact rsim hb hk hst (go (.inr hfo))
    | some j =>
     have e1 : meetS ns pl ord o.toNat = (pl.set o.toNat j,ord):=by unfold meetS;rw [if_pos ha,hfo]
     have e2 : rmetS ns pt ord o.toNat = j:=by unfold rmetS;rw [if_neg (by rw [ht,ha];simp),hfo]
     rw [e1,e2,if_pos (by omega),hb _ hmem ha,List.nil_append]
     refine rsim hb hk hst ⟨by rw [List.length_set];exact R.plen,R.tlen,fun i h1 h2=>?_,fun i h1 h2=>?_,fun i h1 h2=>?_⟩
     ·by_cases e : o.toNat = i
      ·subst e;rw [getD_set_self (by rw [R.plen];exact hi)];omega
      ·rw [getDi_set_ne e] at h2 ⊢;exact R.pos i h1 h2
     ·by_cases e : o.toNat = i
      ·subst e;exact absurd ht h2
      ·rw [getDi_set_ne e];exact R.r1 i h1 h2
     ·by_cases e : o.toNat = i
      ·subst e;right;exact ⟨ht,ha,j,hfo,getD_set_self (by rw [R.plen];exact hi)⟩
      ·rw [getDi_set_ne e] at h2 ⊢;exact R.r2 i h1 h2
   ·obtain ⟨e1, e2⟩ := fresh (.inl (by simpa using ha))
    rw [e1,e2,if_neg (by omega)]
    refine rsim hb hk ?_ (go (.inl (by simpa using ha)))
    intro z hz
    rcases List.mem_append.1 hz with hz | hz
    ·exact places_rng (hk _ hmem) z hz
    ·exact hst z hz
  ·rw [if_pos hp, R.met hi hp, if_pos (R.pos _ hi hp)]
   exact rsim hb hk hst R
def rmetL (ns : List Nd) (pt ord l : List Int) : List Int:=l.map fun o=>rmetS ns pt ord o.toNat
def rnewNode (ns : List Nd) (pt ord : List Int) (o : Int) : Nd:={ ns.getD o.toNat default with kids:=rmetL ns pt ord (ns.getD o.toNat default).kids }
def rcanonG (ns : List Nd) (rs : List Int) (f : Nat) : List Nd × List Int :=
 if goodG ns rs = true then
  let s:=rfollowS ns f rs (start ns.length).1 (start ns.length).2
  (s.2.map (rnewNode ns s.1 s.2),rmetL ns s.1 s.2 rs)
 else ([],[])
theorem rcanon_eq {ns : List Nd} {rs : List Int} {f : Nat} (h : Fine ns rs f) (hf : rs.length + 100 * ns.length <= f) : rcanonG ns rs f = canonG ns rs f:=by
 obtain ⟨q0,q1,q2⟩:=h.ends
 obtain ⟨hk,hr⟩:=goodG_parts h.good
 have hrr:=places_rng hr
 have hst : ∀ i,i < ns.length -> (start ns.length).1.getD i 0 = -1:=fun i hi=>by
  rcases start_get ns.length i with q | q
  ·exact q
  ·omega
 have hF : Fv ns ns.length rs (start ns.length).1 (start ns.length).2 f:=⟨by simp [start],rfl,hk,hrr,by have:=um_le (ns:=ns) (pl:=(start ns.length).1) h.kids;omega,by simp [start]⟩
 have e0 : endS ns rs f = followS ns f rs (start ns.length).1 (start ns.length).2:=followR_all hF
 have R0 : Rr ns (start ns.length).1 (start ns.length).1 (start ns.length).2:=⟨by simp [start],by simp [start],fun i hi hp=>absurd (hst i hi) hp,fun i hi hp=>absurd (hst i hi) hp,fun i hi hp=>absurd (hst i hi) hp⟩
 obtain ⟨R,eo⟩:=rsim (goodG_bare h.good) hk (f:=f) (st:=rs) hrr R0
 rw [<- e0] at R eo
 rw [h.canon]
 unfold rcanonG
 rw [if_pos h.good]
 simp only
 rw [eo]
 generalize (rfollowS ns f rs (start ns.length).1 (start ns.length).2).1 = T at *
 have hm : ∀ k : Int,0 <= k -> k < ns.length -> (endS ns rs f).1.getD k.toNat 0 ≠ -1 -> rmetS ns T (endS ns rs f).2 k.toNat = (endS ns rs f).1.getD k.toNat 0:=fun k k0 k1 hk=>R.met (by omega) hk
 refine Prod.ext ?_ ?_
 ·refine List.map_congr_left fun o ho => ?_
  obtain ⟨j,hj,e⟩:=List.getElem_of_mem ho
  have hoj : (endS ns rs f).2.getD j 0 = o:=by rw [List.getD_eq_getElem?_getD,List.getElem?_eq_getElem hj];exact e
  obtain ⟨r1,r2,r3⟩:=q1.ordr j hj
  rw [hoj] at r1 r2 r3
  refine nd_ext rfl rfl rfl ?_
  show rmetL ns T (endS ns rs f).2 (ns.getD o.toNat default).kids = renum (endS ns rs f).1 (ns.getD o.toNat default).kids
  refine List.map_congr_left fun k hkk=>?_
  have hkr:=places_rng (hk _ (getD_mem_nd (by omega : o.toNat < ns.length))) k hkk
  refine hm k hkr.1 hkr.2 ?_
  rcases q1.cl o r1 r2 (by rw [r3];omega) k hkk with q | q
  ·exact q
  ·cases q
 ·refine List.map_congr_left fun k hkk => ?_
  exact hm k (hrr k hkk).1 (hrr k hkk).2 (q2 k hkk)
def atomsL (ns : List Nd) : List Int -> Nat -> List Int
 | [],_=>[]
 | o :: ord,k=>if atomB (ns.getD o.toNat default).kind = true then (k : Int) :: atomsL ns ord (k + 1) else atomsL ns ord (k + 1)
theorem atomsL_snoc (ns : List Nd) (o : Int) : ∀ (ord : List Int) (k : Nat),atomsL ns (ord ++ [o]) k = atomsL ns ord k ++ (if atomB (ns.getD o.toNat default).kind = true then [((k + ord.length : Nat) : Int)] else [])
 | [],k=>by simp [atomsL]
 | x :: ord,k=>by
  have ih:=atomsL_snoc ns o ord (k + 1)
  simp only [List.cons_append,atomsL,ih,List.length_cons]
  have e : k + 1 + ord.length = k + (ord.length + 1):=by omega
  rw [e]
  split <;> simp
theorem atomsL_rng (ns : List Nd) : ∀ (ord : List Int) (k : Nat),∀ z∈atomsL ns ord k,(k : Int) <= z /\ z < k + ord.length
 | [],k,z,h=>by simp [atomsL] at h
 | x :: ord, k, z, h => by
  have ih:=atomsL_rng ns ord (k + 1)
  simp only [atomsL] at h
  have hs : z∈atomsL ns ord (k + 1) -> (k : Int) <= z /\ z < k + ((x :: ord).length : Nat):=fun h=>by
   have:=ih z h;simp;omega
  split at h
  ·rcases List.mem_cons.1 h with rfl | h
   ·simp;omega
   ·exact hs h
  ·exact hs h
theorem atomsL_len (ns : List Nd) : ∀ (ord : List Int) (k : Nat),(atomsL ns ord k).length <= ord.length
 | [],k=>by simp [atomsL]
 | x :: ord,k=>by
  have ih:=atomsL_len ns ord (k + 1)
  simp only [atomsL];split <;> simp <;> omega
def sameAt (ns : List Nd) (ord : List Int) (d : Nd) (z : Int) : Bool:=decide (sameA (ns.getD (ord.getD z.toNat 0).toNat default) d)
theorem findA_atoms_go (ns : List Nd) (d : Nd) (all : List Int) : ∀ (ord : List Int) (k : Nat),(∀ j,j < ord.length -> all.getD (k + j) 0 = ord.getD j 0) ->
  ((findA ns ord d).map fun j=>((k + j : Nat) : Int)) = (atomsL ns ord k).find? (sameAt ns all d)
 | [],k,_=>by simp [findA,atomsL]
 | o :: ord, k, h => by
  have h0:=h 0 (by simp)
  rw [Nat.add_zero] at h0
  have ih:=findA_atoms_go ns d all ord (k + 1) (fun j hj=>by have:=h (j + 1) (by simpa using hj);rw [show k + 1 + j = k + (j + 1) by omega];rw [this];simp)
  have hsame : sameAt ns all d (k : Int) = decide (sameA (ns.getD o.toNat default) d):=by unfold sameAt;rw [Int.toNat_natCast,h0];rfl
  unfold findA at *
  rw [List.findIdx?_cons,atomsL]
  by_cases ha : atomB (ns.getD o.toNat default).kind = true
  ·rw [if_pos ha, List.find?_cons, hsame, ha, Bool.true_and]
   by_cases hs : sameA (ns.getD o.toNat default) d
   ·rw [decide_eq_true hs];simp
   ·rw [decide_eq_false hs]
    simp only [Bool.false_eq_true,if_false]
    rw [<- ih,Option.map_map]
    congr 1
    funext j;simp;omega
  ·rw [if_neg ha, Bool.eq_false_iff.2 ha, Bool.false_and]
   simp only [Bool.false_eq_true,if_false]
   rw [<- ih,Option.map_map]
   congr 1
   funext j;simp;omega
theorem findA_atoms (ns : List Nd) (ord : List Int) (d : Nd) : ((findA ns ord d).map fun (j : Nat)=>(j : Int)) = (atomsL ns ord 0).find? (sameAt ns ord d):=by
 have:=findA_atoms_go ns d ord ord 0 (fun j _=>by rw [Nat.zero_add])
 simp only [Nat.zero_add] at this
 exact this
theorem rmetS_self {ns : List Nd} {pt ord : List Int} {n : Nat} (h : 0 <= pt.getD n 0 \/ atomB (ns.getD n default).kind = false) : rmetS ns pt ord n = pt.getD n 0:=by unfold rmetS;rw [if_pos h]
theorem rmetS_some {ns : List Nd} {pt ord : List Int} {n : Nat} {z : Int} (h : ¬ (0 <= pt.getD n 0 \/ atomB (ns.getD n default).kind = false)) (hf : (atomsL ns ord 0).find? (sameAt ns ord (ns.getD n default)) = some z) : rmetS ns pt ord n = z:=by
 unfold rmetS;rw [if_neg h]
 rw [<- findA_atoms] at hf
 cases hq : findA ns ord (ns.getD n default) with
 | none=>rw [hq] at hf;cases hf
 | some j=>rw [hq] at hf;exact Option.some.inj hf
theorem rmetS_none {ns : List Nd} {pt ord : List Int} {n : Nat} (h : ¬ (0 <= pt.getD n 0 \/ atomB (ns.getD n default).kind = false)) (hf : (atomsL ns ord 0).find? (sameAt ns ord (ns.getD n default)) = none) : rmetS ns pt ord n = -1:=by
 unfold rmetS;rw [if_neg h]
 rw [<- findA_atoms] at hf
 cases hq : findA ns ord (ns.getD n default) with
 | none=>rfl
 | some j=>rw [hq] at hf;cases hf
theorem find_take {l : List Int} {p : Int -> Bool} {m : Nat} (hm : m < l.length) (h : (l.take m).find? p = none) : (p (l.getD m 0) = true -> l.find? p = some (l.getD m 0)) /\ (p (l.getD m 0) = false -> (l.take (m + 1)).find? p = none):=by
 have e : l.getD m 0 = l[m]:=by rw [List.getD_eq_getElem?_getD,List.getElem?_eq_getElem hm];rfl
 constructor
 ·intro hp
  have h2 : l = l.take m ++ l.drop m:=(List.take_append_drop m l).symm
  rw [h2,List.find?_append,h]
  rw [<- h2,e]
  rw [List.drop_eq_getElem_cons hm,List.find?_cons,<- e,hp];simp
 ·intro hp
  rw [List.take_succ_eq_append_getElem hm,List.find?_append,h,<- e,List.find?_cons,hp];rfl
set_option maxRecDepth 100000
instance : DecidableEq Nd:=fun a b=>decidable_of_iff (a.kind = b.kind /\ a.num = b.num /\ a.text = b.text /\ a.kids = b.kids) (by cases a;cases b;simp)
theorem take_succ_of {α : Type} (d : α) {l : List α} {m : Nat} (h : m < l.length) : l.take (m + 1) = l.take m ++ [l.getD m d]:=by
 rw [List.take_succ_eq_append_getElem h,List.getD_eq_getElem?_getD,List.getElem?_eq_getElem h];rfl
structure GOk (w : World) (an : Option Addr) (nn cn : Nat) (ar : Option Addr) (nr cr : Nat) (ns : List Nd) (rs : List Int) : Prop where
 is : GIs w an nn cn ar nr cr ns rs
 small : smallG ns
 kids : ∀ d∈ns,d.kids.length <= 100
 nn_le : nn <= 2500
 nr_le : nr <= 2500
theorem GOk.below {w w' : World} {an ar : Option Addr} {nn cn nr cr : Nat} {ns : List Nd} {rs : List Int} (h : GOk w an nn cn ar nr cr ns rs) (hb : Below w.heap.size w w') : GOk w' an nn cn ar nr cr ns rs:=⟨h.is.below hb,h.small,h.kids,h.nn_le,h.nr_le⟩
def canonN (ns : List Nd) (rs : List Int) : List Nd × List Int:=canonG ns rs 300001
set_option maxHeartbeats 1000000 in
theorem few_any (an ar : Option Addr) (nn cn nr cr : Nat) (ns : List Nd) (rs : List Int) (most : Nat) (hmost : most <= 1000) (w : World) (G : GIs w an nn cn ar nr cr ns rs) :
  Calls Tryz.prog 50 #[GVal an nn cn ar nr cr,.int .i64 most] w fun e w'=>e = .returned (.bool (fewB ns rs most)) /\ Below w.heap.size w w':=by
 have HG:=hid G
 have hn1:=G.nodes.fits
 have hn2:=G.nodes.most
 have hr1:=G.roots.fits
 have hr2:=G.roots.most
 unfold maxLen at hn2 hr2
 unfold GVal
 clear G
 go_enter Tryz.func50,Tryz.ntmps50
 by_cases h1 : nn <= most
 ·by_cases h2 : nr <= most
  ·go_wp2
   have b1:=Ba w (.cells #[.slice an nn cn,.slice ar nr cr] 34)
   have x1:=GBox.new 34 w an ar nn cn nr cr
   obtain ⟨g,hg⟩ : ∃ g,g = w.heap.size:=⟨_,rfl⟩
   rw [<- hg] at x1
   rw [<- hg]
   have G1:=hid (HG.out.below b1)
   generalize w.alloc (.cells #[.slice an nn cn,.slice ar nr cr] 34) = W1 at *
   have HB:=hid b1
   obtain ⟨c0,c1⟩:=x1.c
   clear b1 x1 hg
   go_loopw [5] (fun i wr=>∃ m : Nat,m <= nn /\ i = .int .i64 m /\ Hid (fewTo ns m = true) /\ Hid (wr = W1)) (fun i _=>nn - (intOf i).toNat)
   case atStart=>exact ⟨0,Nat.zero_le _,rfl,by unfold Hid fewTo;simp,hid rfl⟩
   case round =>
    obtain ⟨m,hm,rfl,hF,hw⟩:=hrel
    have hw:=hw.out
    subst hw
    by_cases hlt : m < nn
    ·obtain ⟨b, o, rfl, hl, hc⟩ := G1.out.nodes.some (by omega)
     obtain ⟨k1,k2,k3,ak,nk,ck,k4,k5⟩:=hc m hlt
     have hnl : m < ns.length:=by rw [G1.out.nodes.len];exact hlt
     obtain ⟨d,hd⟩ : ∃ d,d = ns.getD m default:=⟨_,rfl⟩
     have hok:=G1.out.nodes.get hlt
     rw [<- hd] at k3 k5 hok
     have hts:=hok.2.2
     have hkl:=k5.len
     have hkf:=k5.fits
     have hkm:=k5.most
     unfold maxLen at hts hkm
     have hstep : Hid (fewTo ns (m + 1) = (decide (d.text.size <= 2000) && decide (nk <= 100))):=by
      unfold Hid;rw [fewTo_succ hnl,hF.out,<- hd,hkl];simp
     clear k1 k2 hc k5 hok hd
     generalize d.text = t at *
     by_cases ht : t.size <= 2000
     ·by_cases hk : nk <= 100
      ·go_wp2
       exact ⟨⟨m + 1,by omega,by omega,by unfold Hid;rw [hstep.out];simp [ht,hk]⟩,by simp [intOf] <;> omega⟩
      ·go_wp2
       go_ret
       refine ⟨?_,HB.out⟩
       have h3:=fewTo_false (j:=ns.length) (k:=m) hnl (Nat.le_refl _) (by rw [hstep.out];simp [hk])
       unfold fewB;rw [h3];simp
     ·go_wp2
      go_ret
      refine ⟨?_,HB.out⟩
      have h3:=fewTo_false (j:=ns.length) (k:=m) hnl (Nat.le_refl _) (by rw [hstep.out];simp [ht])
      unfold fewB;rw [h3];simp
    ·obtain rfl : m = nn := by omega
     go_wp2
     go_ret
     refine ⟨?_,HB.out⟩
     unfold fewB
     rw [G1.out.nodes.len,G1.out.roots.len,hF.out];simp [h1,h2]
  ·go_wp2
   go_ret
   refine ⟨?_,Ba _ _⟩
   unfold fewB
   rw [HG.out.roots.len];simp [h2]
 ·go_wp2
  go_ret
  refine ⟨?_,Ba _ _⟩
  unfold fewB
  rw [HG.out.nodes.len];simp [h1]
theorem few_parts {ns : List Nd} {rs : List Int} {most : Nat} (h : fewB ns rs most = true) : ns.length <= most /\ rs.length <= most /\ smallG ns /\ ∀ d∈ns,d.kids.length <= 100:=by
 unfold fewB fewTo at h
 rw [List.take_length] at h
 simp only [Bool.and_eq_true,decide_eq_true_eq,List.all_eq_true] at h
 exact ⟨h.1.1,h.1.2,fun d hd=>(h.2 d hd).1,fun d hd=>(h.2 d hd).2⟩
structure MetIn (w : World) (oa : Option Addr) (on oc : Nat) (os : List Nd) (ta : Option Addr) (tc : Nat) (pt : List Int) (sa : Option Addr) (sn sc : Nat) (ns : List Nd) (ord : List Int) (an : Option Addr) (nn cn : Nat) : Prop where
 out : NRow w oa on oc os
 olen : on = ord.length
 osame : ∀ j,j < ord.length -> sameA (os.getD j default) (ns.getD (ord.getD j 0).toNat default)
 pt_ : IRow w ta nn tc pt
 atoms : IRow w sa sn sc (atomsL ns ord 0)
 nodes : NRow w an nn cn ns
 small : nn <= 2500 /\ on <= 2500
set_option maxHeartbeats 4000000 in
theorem rmet_any (oa : Option Addr) (on oc : Nat) (xa : Option Addr) (xn xc : Nat) (os : List Nd) (ta : Option Addr) (tc : Nat) (pt : List Int) (sa : Option Addr) (sn sc : Nat) (ns : List Nd) (ord : List Int) (an : Option Addr) (nn cn : Nat) (ar : Option Addr) (nr cr : Nat) (n : Nat) (hn : n < nn) (w : World) (M : MetIn w oa on oc os ta tc pt sa sn sc ns ord an nn cn) :
  Calls Tryz.prog 45 #[.agg #[.slice oa on oc,.slice xa xn xc],.slice ta nn tc,.slice sa sn sc,.agg #[.slice an nn cn,.slice ar nr cr],.int .i64 (n : Int)] w fun e w'=>e = .returned (.int .i64 (rmetS ns pt ord n)) /\ Below w.heap.size w w':=by
 have HM:=hid M
 have hm1:=M.small
 have ht1:=M.pt_.fits
 have ht2:=M.pt_.most
 have hs1:=M.atoms.fits
 have hs2:=M.atoms.most
 have hn1:=M.nodes.fits
 have hn2:=M.nodes.most
 have ho1:=M.out.fits
 have ho2:=M.out.most
 have HSL:=hid M.atoms.len
 have HOL:=hid M.olen
 unfold maxLen at ht2 hs2 hn2 ho2
 obtain ⟨hm1,hm2⟩:=hm1
 obtain ⟨bt,ot,rfl,hlt,hct⟩:=M.pt_.some (by omega)
 obtain ⟨bn,on',rfl,hln,hcn⟩:=M.nodes.some (by omega)
 have c1:=hct n hn
 obtain ⟨j1,j2,j3,ak,nk,ck,j4,j5⟩:=hcn n hn
 obtain ⟨p,hp⟩ : ∃ p,p = pt.getD n 0:=⟨_,rfl⟩
 obtain ⟨d,hd⟩ : ∃ d,d = ns.getD n default:=⟨_,rfl⟩
 rw [<- hp] at c1
 rw [<- hd] at j1 j2 j3 j5
 obtain ⟨dk,dn,dt,dl⟩:=d
 simp only [] at j1 j2 j3 j5
 have HP:=hid hp
 have HD:=hid hd
 have bA:=Baa w (.cells #[.slice oa on oc,.slice xa xn xc] 34) (.cells #[.slice (some ⟨bn,on',none⟩) nn cn,.slice ar nr cr] 34)
 have c1':=(bA.cell (p:=⟨bt,ot + n,none⟩) hlt).trans c1
 have j1':=(bA.cell (p:=⟨bn,on' + n * 4,none⟩) hln).trans j1
 have j2':=(bA.cell (p:=⟨bn,on' + n * 4 + 1,none⟩) hln).trans j2
 have j3':=(bA.cell (p:=⟨bn,on' + n * 4 + 2,none⟩) hln).trans j3
 have j4':=(bA.cell (p:=⟨bn,on' + n * 4 + 3,none⟩) hln).trans j4
 have HBA:=hid bA
 clear M hct hcn c1 j1 j2 j3 j4 j5 hp hd bA
 by_cases hp0 : 0 <= p
 ·have e0 : decide (0 <= p) = true := by simp [hp0]
  go_enter Tryz.func45,Tryz.ntmps45
  go_wp2
  go_ret
  exact ⟨by rw [rmetS_self (.inl (by rw [<- HP.out];exact hp0)),<- HP.out];rfl,HBA.out⟩
 ·have e0 : decide (0 <= p) = false := by simp [hp0]
  go_enter Tryz.func45,Tryz.ntmps45
  go_wp2_with fail
  refine (ratom_any dk _).mono ?_
  rintro e w7 ⟨rfl,hw7⟩
  subst hw7
  cases ha : atomB dk
  ·go_wp2
   go_ret
   exact ⟨by rw [rmetS_self (.inr (by rw [<- HD.out];exact ha)),<- HP.out];rfl,HBA.out⟩
  ·have HNS : Hid (¬ (0 <= pt.getD n 0 \/ atomB (ns.getD n default).kind = false)) := by unfold Hid; rw [<- HP.out, <- HD.out]; simp [hp0, ha]
   go_wp2_with fail
   have bB : Below w.heap.size w (allocs w [(.cells #[.slice oa on oc,.slice xa xn xc] 34),(.cells #[.slice (some ⟨bn,on',none⟩) nn cn,.slice ar nr cr] 34),(.cells #[.int .i64 dk,.int .i64 dn,.string dt,.slice ak nk ck] 54)]):=allocs_below _ _
   have x0 : (allocs w [(.cells #[.slice oa on oc,.slice xa xn xc] 34),(.cells #[.slice (some ⟨bn,on',none⟩) nn cn,.slice ar nr cr] 34),(.cells #[.int .i64 dk,.int .i64 dn,.string dt,.slice ak nk ck] 54)]).heap[w.heap.size]? = some (.cells #[.slice oa on oc,.slice xa xn xc] 34 (0,0)):=allocs_get (i:=0) rfl
   have x2 : (allocs w [(.cells #[.slice oa on oc,.slice xa xn xc] 34),(.cells #[.slice (some ⟨bn,on',none⟩) nn cn,.slice ar nr cr] 34),(.cells #[.int .i64 dk,.int .i64 dn,.string dt,.slice ak nk ck] 54)]).heap[w.heap.size + 1 + 1]? = some (.cells #[.int .i64 dk,.int .i64 dn,.string dt,.slice ak nk ck] 54 (0,0)):=allocs_get (i:=2) rfl
   have hWW : allocs w [(.cells #[.slice oa on oc,.slice xa xn xc] 34),(.cells #[.slice (some ⟨bn,on',none⟩) nn cn,.slice ar nr cr] 34),(.cells #[.int .i64 dk,.int .i64 dn,.string dt,.slice ak nk ck] 54)] = ((w.alloc (.cells #[.slice oa on oc,.slice xa xn xc] 34)).alloc (.cells #[.slice (some ⟨bn,on',none⟩) nn cn,.slice ar nr cr] 34)).alloc (.cells #[.int .i64 dk,.int .i64 dn,.string dt,.slice ak nk ck] 54):=rfl
   rw [<- hWW]
   clear hWW
   generalize allocs w [(.cells #[.slice oa on oc,.slice xa xn xc] 34),(.cells #[.slice (some ⟨bn,on',none⟩) nn cn,.slice ar nr cr] 34),(.cells #[.int .i64 dk,.int .i64 dn,.string dt,.slice ak nk ck] 54)] = W2 at *
   obtain ⟨gx,hgx⟩ : ∃ g,g = w.heap.size + 1 + 1:=⟨_,rfl⟩
   obtain ⟨g1,hg1⟩ : ∃ g,g = w.heap.size + 1:=⟨_,rfl⟩
   obtain ⟨g0,hg0⟩ : ∃ g,g = w.heap.size:=⟨_,rfl⟩
   rw [<- hgx] at x2
   rw [<- hg0] at x0
   rw [<- hgx,<- hg1,<- hg0]
   have HB:=hid bB
   have X0:=hid x0
   have X2:=hid x2
   clear hgx hg1 hg0 bB x0 x2 c1' j1' j2' j3' j4' HBA
   go_loopw [12] (fun i wr=>∃ m : Nat,m <= sn /\ i = .int .i64 m /\ Hid (((atomsL ns ord 0).take m).find? (sameAt ns ord ⟨dk,dn,dt,dl⟩) = none /\ Below W2.heap.size W2 wr)) (fun i _=>sn - (intOf i).toNat)
   case atStart=>exact ⟨0,Nat.zero_le _,rfl,rfl,Below.refl _ _⟩
   case round =>
    obtain ⟨m,hmn,rfl,hI⟩:=hrel
    obtain ⟨hf,hb⟩:=hI.out
    have HF:=hid hf
    have HBR:=hid hb
    clear hf hI
    by_cases hlm : m < sn
    ·obtain ⟨bs, os', rfl, hls, hcs⟩ := HM.out.atoms.some (by omega)
     have hml : m < (atomsL ns ord 0).length:=by have:=HSL.out;omega
     obtain ⟨z,hz⟩ : ∃ z,z = (atomsL ns ord 0).getD m 0:=⟨_,rfl⟩
     have hzr:=atomsL_rng ns ord 0 z (by rw [hz,List.getD_eq_getElem?_getD,List.getElem?_eq_getElem hml];exact List.getElem_mem hml)
     obtain ⟨kn,rfl⟩:=Int.eq_ofNat_of_zero_le (by omega : 0 <= z)
     have hkn : kn < on:=by have:=HOL.out;omega
     have HZ:=hid hz
     obtain ⟨bo,oo,rfl,hlo,hco⟩:=HM.out.out.some (by omega)
     have bW : Below w.heap.size w wr:=Bt HB.out hb
     have cz0 : wr.cell? ⟨bs,os' + m,none⟩ = some (.int .i64 (kn : Int)):=by rw [hz];exact (bW.cell (p:=⟨bs,os' + m,none⟩) hls).trans (hcs m hlm)
     have hnd:=(hco kn hkn).below hlo bW
     have hos:=HM.out.osame kn (by have:=HOL.out;omega)
     obtain ⟨e,he⟩ : ∃ e,e = os.getD kn default:=⟨_,rfl⟩
     rw [<- he] at hnd hos
     obtain ⟨i1,i2,i3,ae,ne,ce,i4,_⟩:=hnd
     obtain ⟨ek,en,et,el⟩:=e
     simp only [] at i1 i2 i3
     have hP : Hid (sameAt ns ord ⟨dk,dn,dt,dl⟩ ((atomsL ns ord 0).getD m 0) = decide (ek = dk /\ en = dn /\ et = dt)):=by
      unfold Hid sameAt
      rw [<- hz,Int.toNat_natCast]
      exact decide_sameA hos.symm (sameA.rfl' _)
     obtain ⟨y0,y1⟩:=(GBox.on (t:=34) (p:=g0) X0.out hb).c
     have X2r:=(hb.block gx (Array.getElem?_eq_some_iff.1 X2.out).1).trans X2.out
     have y2 : wr.cell? ⟨gx,0,none⟩ = some (.int .i64 dk):=blk_cell X2r 0
     have y3 : wr.cell? ⟨gx,1,none⟩ = some (.int .i64 dn):=blk_cell X2r 1
     have y4 : wr.cell? ⟨gx,2,none⟩ = some (.string dt):=blk_cell X2r 2
     clear hz hcs hco he hos hb bW X2r hzr
     by_cases hne : ek = dk
     ·subst hne
      by_cases hne : en = dn
      ·subst hne
       by_cases hne : et = dt
       ·subst hne
        have e1 : (ek == ek) = true:=by simp
        have e2 : (en == en) = true:=by simp
        have e3 : (et.toList == et.toList) = true:=by simp
        go_wp2_with fail
        go_quiet (fail)
        have HBQ:=hid (Bt HBR.out (Bd wr nq))
        go_wp2
        go_ret
        refine ⟨?_,Bt HB.out HBQ.out⟩
        have h1:=(find_take hml HF.out).1 (by rw [hP.out];simp)
        rw [<- HZ.out] at h1
        rw [rmetS_some HNS.out (by rw [<- HD.out];exact h1)];rfl
       ·have e1 : (ek == ek) = true := by simp
        have e2 : (en == en) = true:=by simp
        have e3 : (et.toList == dt.toList) = false:=by rw [str_eq];simp [hne]
        go_wp2_with fail
        go_quiet (fail)
        have HBQ:=hid (Bt HBR.out (Bd wr nq))
        go_wp2
        refine ⟨⟨m + 1,by omega,by go_num,(find_take hml HF.out).2 (by rw [hP.out];simp [hne]),HBQ.out⟩,by simp [intOf] <;> omega⟩
      ·have e1 : (ek == ek) = true := by simp
       have e2 : (en == dn) = false:=by simp [hne]
       go_wp2_with fail
       go_quiet (fail)
       have HBQ:=hid (Bt HBR.out (Bd wr nq))
       go_wp2
       refine ⟨⟨m + 1,by omega,by go_num,(find_take hml HF.out).2 (by rw [hP.out];simp [hne]),HBQ.out⟩,by simp [intOf] <;> omega⟩
     ·have e1 : (ek == dk) = false := by simp [hne]
      go_wp2_with fail
      go_quiet (fail)
      have HBQ:=hid (Bt HBR.out (Bd wr nq))
      go_wp2
      refine ⟨⟨m + 1,by omega,by go_num,(find_take hml HF.out).2 (by rw [hP.out];simp [hne]),HBQ.out⟩,by simp [intOf] <;> omega⟩
    ·obtain rfl : sn = m := by omega
     go_wp2
     go_ret
     refine ⟨?_,Bt HB.out HBR.out⟩
     have h1:=HF.out
     rw [List.take_of_length_le (by have:=HSL.out;omega)] at h1
     rw [rmetS_none HNS.out (by rw [<- HD.out];exact h1)];rfl
theorem owns_on {w w' : World} {base : Nat} {e : TypeId} {k : Nat} {v : Value} {n : Nat} {xs : List Value} (h : w.ownsRow base e k v n xs) (hb : Below w.heap.size w w') : w'.ownsRow base e k v n xs:=by
 refine ⟨h.1,?_⟩
 rcases h.2 with h0 | ⟨g,cap,cur,h1,h2,h3,h4⟩
 ·exact .inl h0
 ·exact .inr ⟨g,cap,cur,h1,h2,(hb.block g (Array.getElem?_eq_some_iff.1 h3).1).trans h3,h4⟩
def Mjn (s : Nat × Bool) : Nat:=(2 - s.1) + (if s.2 then 0 else 1)
end Go.Proofs.YticimejfjjmikaaGreatDoor
