import Derived.Test.YticimejfjjmikaaGreatDoorM2
import Derived.Test.YticimejfjjmikaaGreatDoorG19
set_option linter.unusedVariables false
set_option linter.unusedSimpArgs false
namespace Go.Proofs.YticimejfjjmikaaGreatDoor
open Go.RowKit
theorem nd_ext {a b : Nd} (h1 : a.kind = b.kind) (h2 : a.num = b.num) (h3 : a.text = b.text) (h4 : a.kids = b.kids) : a = b:=by
 cases a;cases b;simp only at h1 h2 h3 h4;subst h1 h2 h3 h4;rfl
theorem goodG_bare {ns : List Nd} {rs : List Int} (h : goodG ns rs = true) : ∀ d∈ns,atomB d.kind = true -> d.kids = []:=by
 intro d hd ha
 unfold goodG at h
 rw [Bool.and_eq_true] at h
 have:=List.all_eq_true.1 h.1 d hd
 unfold nodeB at this
 simp only [Bool.and_eq_true] at this
 have hc:=this.1.2
 unfold atomB at ha
 unfold countB at hc
 simp only [Bool.or_eq_true,decide_eq_true_eq] at ha
 rw [if_neg (by omega),if_neg (by omega),if_neg (by omega),decide_eq_true_eq] at hc
 exact List.length_eq_zero_iff.1 hc
theorem start_get (n : Nat) (i : Nat) : (start n).1.getD i 0 = -1 \/ n <= i:=by
 unfold start
 by_cases h : i < n
 ·left;rw [List.getD_eq_getElem?_getD,List.getElem?_replicate,if_pos h];rfl
 ·exact .inr (by omega)
theorem Cv.start_ {ns : List Nd} {rs : List Int} (h : goodG ns rs = true) : Cv ns rs [] (start ns.length).1 (start ns.length).2:=by
 have hn : ∀ i : Int,0 <= i -> i < ns.length -> (start ns.length).1.getD i.toNat 0 = -1:=fun i i0 i1=>by
  rcases start_get ns.length i.toNat with q | q
  ·exact q
  ·omega
 exact ⟨by simp [start],(goodG_parts h).1,goodG_bare h,(fun z hz=>by cases hz),(fun i i0 i1 hi=>absurd (hn i i0 i1) hi),(fun i i0 i1 hi=>absurd (hn i i0 i1) hi),(fun j hj=>by simp [start] at hj),(fun j j' _ hj=>by simp [start] at hj),(fun j hj=>by simp [start] at hj),(fun z hz=>by cases hz)⟩
def endS (ns : List Nd) (rs : List Int) (f : Nat) : List Int × List Int:=followR ns f rs (start ns.length)
structure Fine (ns : List Nd) (rs : List Int) (f : Nat) : Prop where
 good : goodG ns rs = true
 kids : ∀ d∈ns,d.kids.length <= 100
 nn : ns.length <= 2500
 fuel : 1 + 100 * ns.length <= f
theorem Fine.ends {ns : List Nd} {rs : List Int} {f : Nat} (h : Fine ns rs f) : Sv ns ns.length (endS ns rs f).1 (endS ns rs f).2 /\ Cv ns rs [] (endS ns rs f).1 (endS ns rs f).2 /\ (∀ z∈rs,(endS ns rs f).1.getD z.toNat 0 ≠ -1):=by
 obtain ⟨hk,hr⟩:=goodG_parts h.good
 obtain ⟨q0,q1,q2,q3⟩:=Cv.roots (ns:=ns) (rs:=rs) (nn:=ns.length) h.fuel h.nn (l:=rs) (s:=start ns.length) (fun _ h=>h) (places_rng hr) (Sv.start_ hk h.kids) (Cv.start_ h.good)
 exact ⟨q0,q1,q3⟩
theorem Fine.canon {ns : List Nd} {rs : List Int} {f : Nat} (h : Fine ns rs f) : canonG ns rs f = ((endS ns rs f).2.map (newNode ns (endS ns rs f).1),renum (endS ns rs f).1 rs):=by
 unfold canonG;rw [if_pos h.good];rfl
theorem canon_sim {ns ns' : List Nd} {φ : Int -> Int} {M : Int -> Prop} {rs : List Int} {f : Nat} (S : Sim ns ns' φ M) (h : Fine ns rs f) (hr : ∀ z∈rs,M z) (h' : goodG ns' (rs.map φ) = true) : canonG ns' (rs.map φ) f = canonG ns rs f:=by
 have R:=sim_roots S f (rs:=rs) hr (sim_start S)
 obtain ⟨q0,q1,q2⟩:=h.ends
 rw [h.canon]
 unfold canonG
 rw [if_pos h']
 have e2 : (followR ns' f (rs.map φ) (start ns'.length)).2 = (endS ns rs f).2.map φ:=R.ord_
 have hpl : ∀ i,M i -> (endS ns rs f).1.getD i.toNat 0 ≠ -1 -> (followR ns' f (rs.map φ) (start ns'.length)).1.getD (φ i).toNat 0 = (endS ns rs f).1.getD i.toNat 0:=R.pl_
 generalize (followR ns' f (rs.map φ) (start ns'.length)).1 = P' at *
 rw [e2,List.map_map]
 refine Prod.ext ?_ ?_
 ·refine List.map_congr_left fun o ho => ?_
  have hM:=R.om o ho
  have hM0:=S.rng o hM
  obtain ⟨j,hj,e⟩:=List.getElem_of_mem ho
  have hoj : (endS ns rs f).2.getD j 0 = o:=by rw [List.getD_eq_getElem?_getD,List.getElem?_eq_getElem hj];exact e
  have hmet : (endS ns rs f).1.getD o.toNat 0 ≠ -1:=by
   have:=(q1.ordr j hj).2.2
   rw [hoj] at this;rw [this];omega
  have hk : ∀ k∈(ns.getD o.toNat default).kids,(endS ns rs f).1.getD k.toNat 0 ≠ -1:=fun k hk=>by
   rcases q1.cl o hM0.1 hM0.2 hmet k hk with q | q
   ·exact q
   ·cases q
  show newNode ns' P' (φ o) = newNode ns (endS ns rs f).1 o
  unfold newNode
  rw [S.node o hM]
  refine nd_ext rfl rfl rfl ?_
  show renum P' ((ns.getD o.toNat default).kids.map φ) = renum (endS ns rs f).1 (ns.getD o.toNat default).kids
  unfold renum
  rw [List.map_map]
  exact List.map_congr_left fun k hkk=>hpl k (S.kids o hM k hkk) (hk k hkk)
 ·show renum P' (rs.map φ) = renum (endS ns rs f).1 rs
  unfold renum
  rw [List.map_map]
  exact List.map_congr_left fun k hk=>hpl k (hr k hk) (q2 k hk)
structure Ordered (ns : List Nd) (rs : List Int) : Prop where
 src : ∀ j,j < ns.length -> (j : Int)∈rs \/ ∃ i,i < j /\ (j : Int)∈(ns.getD i default).kids
 dist : ∀ j j',j < j' -> j' < ns.length -> atomB (ns.getD j default).kind = true -> ¬ sameA (ns.getD j default) (ns.getD j' default)
theorem getD_map_nd {l : List Int} {g : Int -> Nd} {j : Nat} (h : j < l.length) : (l.map g).getD j default = g (l.getD j 0):=by
 rw [List.getD_eq_getElem?_getD,List.getElem?_map,List.getD_eq_getElem?_getD,List.getElem?_eq_getElem h];rfl
section
variable {ns : List Nd} {rs : List Int} {f : Nat}
theorem Fine.len (h : Fine ns rs f) : (canonG ns rs f).1.length <= ns.length /\ (canonG ns rs f).2.length = rs.length:=by
 obtain ⟨q0,q1,q2⟩:=h.ends
 rw [h.canon]
 refine ⟨?_,by simp [renum]⟩
 simpa using q0.len
theorem Fine.ordered (h : Fine ns rs f) : Ordered (canonG ns rs f).1 (canonG ns rs f).2:=by
 obtain ⟨q0,q1,q2⟩:=h.ends
 rw [h.canon]
 refine ⟨fun j hj=>?_,fun j j' hj hj' ha=>?_⟩
 ·rw [List.length_map] at hj
  have e:=(q1.ordr j hj).2.2
  rcases q1.src j hj with q | ⟨i,q,q'⟩
  ·left
   show (j : Int)∈renum (endS ns rs f).1 rs
   unfold renum
   rw [<- e]
   exact List.mem_map_of_mem (f:=fun o=>(endS ns rs f).1.getD o.toNat 0) q
  ·right
   refine ⟨i,q,?_⟩
   rw [getD_map_nd (by omega)]
   show (j : Int)∈renum (endS ns rs f).1 (ns.getD ((endS ns rs f).2.getD i 0).toNat default).kids
   unfold renum
   rw [<- e]
   exact List.mem_map_of_mem (f:=fun o=>(endS ns rs f).1.getD o.toNat 0) q'
 ·rw [List.length_map] at hj'
  rw [getD_map_nd (by omega)] at ha ⊢
  rw [getD_map_nd hj']
  exact q1.dist j j' hj hj' ha
theorem Fine.sim (h : Fine ns rs f) : Sim ns (canonG ns rs f).1 (fun i=>(endS ns rs f).1.getD i.toNat 0) (fun i=>0 <= i /\ i < ns.length /\ (endS ns rs f).1.getD i.toNat 0 ≠ -1):=by
 obtain ⟨q0,q1,q2⟩:=h.ends
 rw [h.canon]
 refine ⟨fun i hi=>⟨hi.1,hi.2.1⟩,fun i hi=>?_,fun i hi k hk=>?_,fun i hi=>?_,fun i i' hi hi' e=>?_,fun i hi ha=>?_⟩
 ·obtain ⟨v1, v2, _⟩ := q1.val i hi.1 hi.2.1 hi.2.2
  exact ⟨v1,by rw [List.length_map];exact v2⟩
 ·have hr := places_rng (q1.kids _ (getD_mem_nd (by omega : i.toNat < ns.length))) k hk
  rcases q1.cl i hi.1 hi.2.1 hi.2.2 k hk with q | q
  ·exact ⟨hr.1,hr.2,q⟩
  ·cases q
 ·obtain ⟨v1, v2, v3⟩ := q1.val i hi.1 hi.2.1 hi.2.2
  rw [getD_map_nd (by omega)]
  unfold newNode renum
  rcases v3 with e | ⟨ha,hs⟩
  ·rw [e]
  ·have hk := q1.bare _ (getD_mem_nd (by omega : i.toNat < ns.length)) ha
   have hr:=(q1.ordr _ (by omega : ((endS ns rs f).1.getD i.toNat 0).toNat < (endS ns rs f).2.length))
   have hk':=q1.bare _ (getD_mem_nd (by omega : ((endS ns rs f).2.getD ((endS ns rs f).1.getD i.toNat 0).toNat 0).toNat < ns.length)) (by rw [hs.1];exact ha)
   rw [hk',hk]
   exact nd_ext hs.1 hs.2.1 hs.2.2 rfl
 ·obtain ⟨v1, v2, v3⟩ := q1.val i hi.1 hi.2.1 hi.2.2
  obtain ⟨w1,w2,w3⟩:=q1.val i' hi'.1 hi'.2.1 hi'.2.2
  have e' : (endS ns rs f).1.getD i.toNat 0 = (endS ns rs f).1.getD i'.toNat 0:=e
  rw [<- e'] at w3
  rcases v3 with v3 | ⟨ha,_⟩
  ·rcases w3 with w3 | ⟨ha, hs⟩
   ·exact .inl (v3.symm.trans w3)
   ·right
    rw [v3] at hs
    rw [hs.1];exact ha
  ·exact .inr ha
 ·exact q1.bare _ (getD_mem_nd (by omega : i.toNat < ns.length)) ha
theorem nodeB_parts {n : Nat} {d : Nd} (h : nodeB n d = true) : (decide (1 <= d.kind) && decide (d.kind <= 17) && numB d.kind d.num && textB d.kind d.text && countB d.kind d.kids.length) = true /\ placesB d.kids n = true:=by
 unfold nodeB at h;rw [Bool.and_eq_true] at h;exact h
theorem Fine.goodC (h : Fine ns rs f) : goodG (canonG ns rs f).1 (canonG ns rs f).2 = true:=by
 have S:=h.sim
 have he:=h.ends
 obtain ⟨q0,q1,q2⟩:=he
 have hcl : (canonG ns rs f).1.length = (endS ns rs f).2.length:=by rw [h.canon];simp
 have hpl : ∀ z : Int,0 <= z -> z < ns.length -> (endS ns rs f).1.getD z.toNat 0 ≠ -1 -> placeB (canonG ns rs f).1.length ((endS ns rs f).1.getD z.toNat 0) = true:=by
  intro z z0 z1 hz
  obtain ⟨v1,v2,_⟩:=q1.val z z0 z1 hz
  unfold placeB
  rw [hcl,Bool.and_eq_true,decide_eq_true_eq,decide_eq_true_eq]
  exact ⟨v1,v2⟩
 have hrr:=places_rng (goodG_parts h.good).2
 unfold goodG
 rw [Bool.and_eq_true]
 constructor
 ·rw [List.all_eq_true]
  intro d hd
  have hd':=hd
  rw [h.canon] at hd'
  obtain ⟨o,ho,rfl⟩:=List.mem_map.1 hd'
  obtain ⟨j,hj,e⟩:=List.getElem_of_mem ho
  have hoj : (endS ns rs f).2.getD j 0 = o:=by rw [List.getD_eq_getElem?_getD,List.getElem?_eq_getElem hj];exact e
  obtain ⟨r1,r2,r3⟩:=q1.ordr j hj
  rw [hoj] at r1 r2 r3
  have hmem : ns.getD o.toNat default∈ns:=getD_mem_nd (by omega)
  have hg:=h.good
  unfold goodG at hg
  rw [Bool.and_eq_true] at hg
  obtain ⟨p1,p2⟩:=nodeB_parts (List.all_eq_true.1 hg.1 _ hmem)
  unfold nodeB
  rw [Bool.and_eq_true]
  refine ⟨?_,?_⟩
  ·unfold newNode renum
   simpa using p1
  ·unfold placesB newNode renum
   rw [List.all_map,List.all_eq_true]
   intro k hk
   have hkr:=places_rng p2 k hk
   refine hpl k hkr.1 hkr.2 ?_
   rcases q1.cl o r1 r2 (by rw [r3];omega) k hk with q | q
   ·exact q
   ·cases q
 ·have e : (canonG ns rs f).2 = renum (endS ns rs f).1 rs := by rw [h.canon]
  rw [e]
  unfold placesB renum
  rw [List.all_map,List.all_eq_true]
  intro k hk
  have hkr:=hrr k hk
  exact hpl k hkr.1 hkr.2 (q2 k hk)
theorem Fine.again (h : Fine ns rs f) : canonG (canonG ns rs f).1 (canonG ns rs f).2 f = canonG ns rs f:=by
 have hrr:=places_rng (goodG_parts h.good).2
 obtain ⟨q0,q1,q2⟩:=h.ends
 have e : (canonG ns rs f).2 = rs.map fun i=>(endS ns rs f).1.getD i.toNat 0:=by rw [h.canon];rfl
 have hg:=h.goodC
 rw [e] at hg ⊢
 exact canon_sim h.sim h (fun z hz=>⟨(hrr z hz).1,(hrr z hz).2,q2 z hz⟩) hg
theorem Fine.kidsC (h : Fine ns rs f) : ∀ d∈(canonG ns rs f).1,d.kids.length <= 100:=by
 intro d hd
 rw [h.canon] at hd
 obtain ⟨o,ho,rfl⟩:=List.mem_map.1 hd
 obtain ⟨q0,q1,q2⟩:=h.ends
 have hr:=q0.rng o ho
 have:=h.kids _ (getD_mem_nd (by omega : o.toNat < ns.length))
 unfold newNode renum
 simpa using this
theorem Fine.smallC (h : Fine ns rs f) (hs : ∀ d∈ns,d.text.size <= 2000) : ∀ d∈(canonG ns rs f).1,d.text.size <= 2000:=by
 intro d hd
 rw [h.canon] at hd
 obtain ⟨o,ho,rfl⟩:=List.mem_map.1 hd
 obtain ⟨q0,q1,q2⟩:=h.ends
 have hr:=q0.rng o ho
 exact hs (ns.getD o.toNat default) (getD_mem_nd (by omega : o.toNat < ns.length))
end
set_option maxRecDepth 100000
theorem store4 {w : World} {g : Nat} {a b c d v1 v2 v3 v4 : Value} {t : TypeId} (h : w.heap[g]? = some (.cells #[a,b,c,d] t (0,0))) : ((((w.setCell ⟨g,0,none⟩ v1).setCell ⟨g,1,none⟩ v2).setCell ⟨g,2,none⟩ v3).setCell ⟨g,3,none⟩ v4).heap[g]? = some (.cells #[v1,v2,v3,v4] t (0,0)):=by
 have h1:=blk_set (i:=0) h v1
 have h2:=blk_set (i:=1) h1 v2
 have h3:=blk_set (i:=2) h2 v3
 have h4:=blk_set (i:=3) h3 v4
 rw [h4];rfl
theorem store4_far {w : World} {g b : Nat} {v1 v2 v3 v4 : Value} (h : b ≠ g) : ((((w.setCell ⟨g,0,none⟩ v1).setCell ⟨g,1,none⟩ v2).setCell ⟨g,2,none⟩ v3).setCell ⟨g,3,none⟩ v4).heap[b]? = w.heap[b]? :=
 (Below.heap_setCell _ _ _ _ h).trans ((Below.heap_setCell _ _ _ _ h).trans ((Below.heap_setCell _ _ _ _ h).trans (Below.heap_setCell _ _ _ _ h)))
theorem store4_below {n : Nat} {w0 w : World} {g : Nat} {v1 v2 v3 v4 : Value} (h : Below n w0 w) (hg : n <= g) : Below n w0 ((((w.setCell ⟨g,0,none⟩ v1).setCell ⟨g,1,none⟩ v2).setCell ⟨g,2,none⟩ v3).setCell ⟨g,3,none⟩ v4) :=
 (((h.setCell (p:=⟨g,0,none⟩) hg _).setCell (p:=⟨g,1,none⟩) hg _).setCell (p:=⟨g,2,none⟩) hg _).setCell (p:=⟨g,3,none⟩) hg _
theorem goodG_nodes {ns : List Nd} {rs : List Int} (h : goodG ns rs = true) : ∀ d∈ns,nodeB ns.length d = true:=by
 unfold goodG at h
 rw [Bool.and_eq_true] at h
 exact List.all_eq_true.1 h.1
theorem goodG_mk {ns : List Nd} {rs : List Int} (h : ∀ d∈ns,nodeB ns.length d = true) (h2 : placesB rs ns.length = true) : goodG ns rs = true:=by
 unfold goodG
 rw [Bool.and_eq_true]
 exact ⟨List.all_eq_true.2 h,h2⟩
inductive Rch (D : Int -> Nd) (roots : List Int) : Int -> Prop
 | root {x : Int} : x∈roots -> Rch D roots x
 | kid {x y : Int} : Rch D roots x -> y∈(D x).kids -> Rch D roots y
structure Told (D : Int -> Nd) (roots W : List Int) (ns : List Nd) (rs : List Int) : Prop where
 len : W.length = ns.length
 node : ∀ i,i < ns.length -> sameA (ns.getD i default) (D (W.getD i 0))
 kids : ∀ i,i < ns.length -> (ns.getD i default).kids.map (fun k=>W.getD k.toNat 0) = (D (W.getD i 0)).kids
 kr : ∀ i,i < ns.length -> ∀ k∈(ns.getD i default).kids,0 <= k /\ k < ns.length
 rts : rs.map (fun k=>W.getD k.toNat 0) = roots
 rr : ∀ k∈rs,0 <= k /\ k < ns.length
 inj : ∀ i j,i < ns.length -> j < ns.length -> W.getD i 0 = W.getD j 0 -> i = j \/ atomB (ns.getD i default).kind = true
theorem getD_mem_w {l : List Int} {i : Nat} (h : i < l.length) : l.getD i 0∈l:=by
 rw [List.getD_eq_getElem?_getD,List.getElem?_eq_getElem h];exact List.getElem_mem h
theorem getD_map_w {l : List Int} {g : Int -> Int} {j : Nat} (h : j < l.length) : (l.map g).getD j 0 = g (l.getD j 0):=by
 rw [List.getD_eq_getElem?_getD,List.getElem?_map,List.getD_eq_getElem?_getD,List.getElem?_eq_getElem h];rfl
theorem mem_getD_w {l : List Int} {x : Int} (h : x∈l) : ∃ i,i < l.length /\ l.getD i 0 = x:=by
 obtain ⟨i,hi,e⟩:=List.getElem_of_mem h
 exact ⟨i,hi,by rw [List.getD_eq_getElem?_getD,List.getElem?_eq_getElem hi];exact e⟩
theorem list_eq_w {la lb : List Int} (hl : la.length = lb.length) (h : ∀ k,k < la.length -> la.getD k 0 = lb.getD k 0) : la = lb:=by
 apply List.ext_getElem hl
 intro i h1 h2
 have:=h i h1
 rw [List.getD_eq_getElem?_getD,List.getD_eq_getElem?_getD,List.getElem?_eq_getElem h1,List.getElem?_eq_getElem h2] at this
 simpa using this
theorem nodup_idx : ∀ {l : List Int} {i j : Nat},l.Nodup -> (h1 : i < l.length) -> (h2 : j < l.length) -> l[i] = l[j] -> i = j
 | [],_,_,_,h,_,_=>by simp at h
 | x :: l,0,0,_,_,_,_=>rfl
 | x :: l, 0, j + 1, hn, _, h2, e => by
  have h3 : j < l.length:=by simpa using h2
  have : x∈l:=by
   have e' : x = l[j]:=by simpa using e
   rw [e'];exact List.getElem_mem h3
  exact absurd this (List.nodup_cons.1 hn).1
 | x :: l, i + 1, 0, hn, h1, _, e => by
  have h3 : i < l.length:=by simpa using h1
  have : x∈l:=by
   have e' : l[i] = x:=by simpa using e
   rw [<- e'];exact List.getElem_mem h3
  exact absurd this (List.nodup_cons.1 hn).1
 | x :: l,i + 1,j + 1,hn,h1,h2,e=>by
  have:=nodup_idx (l:=l) (List.nodup_cons.1 hn).2 (by simpa using h1) (by simpa using h2) (by simpa using e)
  omega
section
variable {D D' : Int -> Nd} {roots W W' rs rs' : List Int} {ns ns' : List Nd} {ψ : Int -> Int}
theorem Told.has (T' : Told D' (roots.map ψ) W' ns' rs') (hψ : ∀ x,Rch D roots x -> (D' (ψ x)).kids = (D x).kids.map ψ) {x : Int} (h : Rch D roots x) : ∃ j,j < ns'.length /\ W'.getD j 0 = ψ x:=by
 induction h with
 | @root x hx =>
  have : ψ x∈rs'.map (fun k=>W'.getD k.toNat 0):=by rw [T'.rts];exact List.mem_map_of_mem hx
  obtain ⟨k,hk,e⟩:=List.mem_map.1 this
  have:=T'.rr k hk
  exact ⟨k.toNat,by omega,e⟩
 | @kid x y hx hy ih =>
  obtain ⟨j,hj,e⟩:=ih
  have h1:=T'.kids j hj
  rw [e,hψ x hx] at h1
  have : ψ y∈(ns'.getD j default).kids.map (fun k=>W'.getD k.toNat 0):=by rw [h1];exact List.mem_map_of_mem hy
  obtain ⟨k,hk,e2⟩:=List.mem_map.1 this
  have:=T'.kr j hj k hk
  exact ⟨k.toNat,by omega,e2⟩
def toldF (ψ : Int -> Int) (W W' : List Int) (i : Int) : Int:=((W'.idxOf (ψ (W.getD i.toNat 0)) : Nat) : Int)
theorem idx_get {l : List Int} {x : Int} (h : x∈l) : l.idxOf x < l.length /\ l.getD (l.idxOf x) 0 = x:=by
 have hl:=List.idxOf_lt_length_of_mem h
 refine ⟨hl,?_⟩
 rw [List.getD_eq_getElem?_getD,List.getElem?_eq_getElem hl]
 simp
theorem told_sim (T : Told D roots W ns rs) (T' : Told D' (roots.map ψ) W' ns' rs') (hn : ∀ i j,i < ns'.length -> j < ns'.length -> W'.getD i 0 = W'.getD j 0 -> i = j)
  (hψ : ∀ x,Rch D roots x -> sameA (D' (ψ x)) (D x) /\ (D' (ψ x)).kids = (D x).kids.map ψ)
  (hi : ∀ x y,Rch D roots x -> Rch D roots y -> ψ x = ψ y -> x = y \/ atomB (D x).kind = true)
  (hb : ∀ x,Rch D roots x -> atomB (D x).kind = true -> (D x).kids = []) :
  Sim ns ns' (toldF ψ W W') (fun i=>0 <= i /\ i < ns.length /\ Rch D roots (W.getD i.toNat 0)) /\ rs' = rs.map (toldF ψ W W') /\ ∀ z∈rs,0 <= z /\ z < ns.length /\ Rch D roots (W.getD z.toNat 0):=by
 have hin : ∀ x,Rch D roots x -> ψ x∈W':=fun x hx=>by
  obtain ⟨j,hj,e⟩:=T'.has (fun x hx=>(hψ x hx).2) hx
  rw [<- e];exact getD_mem_w (by rw [T'.len];exact hj)
 have hF : ∀ i : Int,Rch D roots (W.getD i.toNat 0) -> 0 <= toldF ψ W W' i /\ toldF ψ W W' i < ns'.length /\ W'.getD (toldF ψ W W' i).toNat 0 = ψ (W.getD i.toNat 0):=fun i h=>by
  obtain ⟨h1,h2⟩:=idx_get (hin _ h)
  rw [T'.len] at h1
  unfold toldF
  refine ⟨by omega,by omega,?_⟩
  rw [Int.toNat_natCast];exact h2
 have hlist : ∀ (a b : List Int),a.map (fun k=>W'.getD k.toNat 0) = (b.map (fun k=>W.getD k.toNat 0)).map ψ -> (∀ k∈a,0 <= k /\ k < ns'.length) -> (∀ k∈b,Rch D roots (W.getD k.toNat 0)) -> a = b.map (toldF ψ W W'):=fun a b h ha hbm=>by
  have hl : a.length = b.length:=by have:=congrArg List.length h;simpa using this
  refine list_eq_w (by rw [List.length_map];exact hl) (fun t ht=>?_)
  have hb' : t < b.length:=by omega
  have e : W'.getD (a.getD t 0).toNat 0 = ψ (W.getD (b.getD t 0).toNat 0):=by
   have:=congrArg (fun l : List Int=>l.getD t 0) h
   rw [getD_map_w ht,getD_map_w (by rw [List.length_map];exact hb'),getD_map_w hb'] at this
   exact this
  rw [getD_map_w hb']
  have h1:=ha _ (getD_mem_w ht)
  obtain ⟨f1,f2,f3⟩:=hF (b.getD t 0) (hbm _ (getD_mem_w hb'))
  have:=hn (a.getD t 0).toNat (toldF ψ W W' (b.getD t 0)).toNat (by omega) (by omega) (e.trans f3.symm)
  omega
 have hkr : ∀ i : Int,0 <= i -> i < ns.length -> Rch D roots (W.getD i.toNat 0) -> ∀ k∈(ns.getD i.toNat default).kids,Rch D roots (W.getD k.toNat 0):=fun i h0 h1 h2 k hk=>by
  have e:=T.kids i.toNat (by omega)
  refine .kid h2 ?_
  rw [<- e];exact List.mem_map_of_mem (f:=fun k=>W.getD k.toNat 0) hk
 have hrt : ∀ z∈rs,Rch D roots (W.getD z.toNat 0):=fun z hz=>.root (by rw [<- T.rts];exact List.mem_map_of_mem (f:=fun k=>W.getD k.toNat 0) hz)
 have hkind : ∀ i : Int,0 <= i -> i < ns.length -> (ns.getD i.toNat default).kind = (D (W.getD i.toNat 0)).kind:=fun i h0 h1=>(T.node i.toNat (by omega)).1
 refine ⟨⟨fun i hM=>⟨hM.1,hM.2.1⟩,fun i hM=>?_,fun i hM k hk=>?_,fun i hM=>?_,fun i i' hM hM' e=>?_,fun i hM ha=>?_⟩,?_,fun z hz=>⟨(T.rr z hz).1,(T.rr z hz).2,hrt z hz⟩⟩
 ·obtain ⟨f1, f2, _⟩ := hF i hM.2.2
  exact ⟨f1,f2⟩
 ·have := T.kr i.toNat (by have := hM.1; have := hM.2.1; omega) k hk
  exact ⟨this.1,this.2,hkr i hM.1 hM.2.1 hM.2.2 k hk⟩
 ·obtain ⟨f1, f2, f3⟩ := hF i hM.2.2
  have hj : (toldF ψ W W' i).toNat < ns'.length:=by omega
  have hi' : i.toNat < ns.length:=by have:=hM.1;have:=hM.2.1;omega
  have s1:=T'.node _ hj
  rw [f3] at s1
  have s2:=(s1.trans (hψ _ hM.2.2).1).trans (T.node _ hi').symm
  refine nd_ext s2.1 s2.2.1 s2.2.2 ?_
  refine hlist _ _ ?_ (T'.kr _ hj) (hkr i hM.1 hM.2.1 hM.2.2)
  rw [T'.kids _ hj,f3,(hψ _ hM.2.2).2,T.kids _ hi']
 ·obtain ⟨f1, f2, f3⟩ := hF i hM.2.2
  obtain ⟨g1,g2,g3⟩:=hF i' hM'.2.2
  have e2 : ψ (W.getD i.toNat 0) = ψ (W.getD i'.toNat 0):=by rw [<- f3,<- g3,e]
  rcases hi _ _ hM.2.2 hM'.2.2 e2 with e3 | e3
  ·rcases T.inj i.toNat i'.toNat (by have := hM.1; have := hM.2.1; omega) (by have := hM'.1; have := hM'.2.1; omega) e3 with e4 | e4
   ·left;have:=hM.1;have:=hM'.1;omega
   ·exact .inr e4
  ·right;rw [hkind i hM.1 hM.2.1];exact e3
 ·have := hb _ hM.2.2 (by rw [<- hkind i hM.1 hM.2.1]; exact ha)
  have e:=T.kids i.toNat (by have:=hM.1;have:=hM.2.1;omega)
  rw [this] at e
  exact List.map_eq_nil_iff.1 e
 ·exact hlist _ _ (by rw [T'.rts,T.rts]) T'.rr hrt
theorem told_canon {f : Nat} (T : Told D roots W ns rs) (T' : Told D' (roots.map ψ) W' ns' rs') (hn : ∀ i j,i < ns'.length -> j < ns'.length -> W'.getD i 0 = W'.getD j 0 -> i = j)
  (hψ : ∀ x,Rch D roots x -> sameA (D' (ψ x)) (D x) /\ (D' (ψ x)).kids = (D x).kids.map ψ)
  (hi : ∀ x y,Rch D roots x -> Rch D roots y -> ψ x = ψ y -> x = y \/ atomB (D x).kind = true)
  (hb : ∀ x,Rch D roots x -> atomB (D x).kind = true -> (D x).kids = []) (hf : Fine ns rs f) (hg : goodG ns' rs' = true) : canonG ns' rs' f = canonG ns rs f:=by
 obtain ⟨S,e,hr⟩:=told_sim T T' hn hψ hi hb
 rw [e] at hg ⊢
 exact canon_sim S hf hr hg
def mkN (D : Int -> Nd) (W : List Int) (x : Int) : Nd:={ D x with kids:=(D x).kids.map (fun y=>((W.idxOf y : Nat) : Int)) }
def mkG (D : Int -> Nd) (W : List Int) : List Nd:=W.map (mkN D W)
theorem mkG_get {i : Nat} (h : i < W.length) : (mkG D W).getD i default = mkN D W (W.getD i 0):=by
 unfold mkG
 rw [List.getD_eq_getElem?_getD,List.getElem?_map,List.getD_eq_getElem?_getD,List.getElem?_eq_getElem h];rfl
theorem told_mk (hn : W.Nodup) (hc : ∀ x∈W,∀ y∈(D x).kids,y∈W) (hr : ∀ x∈roots,x∈W) : Told D roots W (mkG D W) (roots.map (fun y=>((W.idxOf y : Nat) : Int))):=by
 have hl : (mkG D W).length = W.length:=by unfold mkG;rw [List.length_map]
 have hid : ∀ (l : List Int),(∀ y∈l,y∈W) -> (l.map (fun y=>((W.idxOf y : Nat) : Int))).map (fun k=>W.getD k.toNat 0) = l:=fun l h=>by
  rw [List.map_map]
  conv=>rhs;rw [<- List.map_id l]
  refine List.map_congr_left (fun y hy=>?_)
  show W.getD (((W.idxOf y : Nat) : Int)).toNat 0 = y
  rw [Int.toNat_natCast];exact (idx_get (h y hy)).2
 have hrg : ∀ (l : List Int),(∀ y∈l,y∈W) -> ∀ k∈l.map (fun y=>((W.idxOf y : Nat) : Int)),0 <= k /\ k < (mkG D W).length:=fun l h k hk=>by
  obtain ⟨y,hy,rfl⟩:=List.mem_map.1 hk
  have:=(idx_get (h y hy)).1
  rw [hl];omega
 refine ⟨hl.symm,fun i hi=>?_,fun i hi=>?_,fun i hi=>?_,hid roots hr,hrg roots hr,fun i j h1 h2 e=>.inl ?_⟩
 ·rw [hl] at hi;rw [mkG_get hi];exact ⟨rfl,rfl,rfl⟩
 ·rw [hl] at hi;rw [mkG_get hi];exact hid _ (hc _ (getD_mem_w hi))
 ·rw [hl] at hi;rw [mkG_get hi];exact hrg _ (hc _ (getD_mem_w hi))
 ·rw [hl] at h1 h2
  rw [List.getD_eq_getElem?_getD,List.getD_eq_getElem?_getD,List.getElem?_eq_getElem h1,List.getElem?_eq_getElem h2] at e
  exact nodup_idx hn h1 h2 (by simpa using e)
theorem mk_nodup (hn : W.Nodup) : ∀ i j,i < (mkG D W).length -> j < (mkG D W).length -> W.getD i 0 = W.getD j 0 -> i = j:=fun i j h1 h2 e=>by
 have hl : (mkG D W).length = W.length:=by unfold mkG;rw [List.length_map]
 rw [hl] at h1 h2
 rw [List.getD_eq_getElem?_getD,List.getD_eq_getElem?_getD,List.getElem?_eq_getElem h1,List.getElem?_eq_getElem h2] at e
 exact nodup_idx hn h1 h2 (by simpa using e)
def okD (d : Nd) : Bool:=decide (1 <= d.kind) && decide (d.kind <= 17) && numB d.kind d.num && textB d.kind d.text && countB d.kind d.kids.length
theorem Told.good (T : Told D roots W ns rs) (hd : ∀ x∈W,okD (D x) = true) : goodG ns rs = true:=by
 have hpl : ∀ (l : List Int) (n : Nat),(∀ k∈l,0 <= k /\ k < (n : Int)) -> placesB l n = true:=fun l n h=>by
  unfold placesB
  rw [List.all_eq_true]
  intro k hk
  have:=h k hk
  unfold placeB;rw [Bool.and_eq_true,decide_eq_true_eq,decide_eq_true_eq];omega
 refine goodG_mk (fun d hd'=>?_) (hpl _ _ T.rr)
 obtain ⟨i,hi,rfl⟩:=List.getElem_of_mem hd'
 have e : ns.getD i default = ns[i]:=by rw [List.getD_eq_getElem?_getD,List.getElem?_eq_getElem hi];rfl
 have h1:=T.node i hi
 have h2:=congrArg List.length (T.kids i hi)
 have h3:=hd (W.getD i 0) (getD_mem_w (by rw [T.len];exact hi))
 rw [e] at h1 h2
 rw [List.length_map] at h2
 unfold okD at h3
 rw [<- h1.1,<- h1.2.1,<- h1.2.2,<- h2] at h3
 unfold nodeB
 rw [h3]
 have:=hpl ns[i].kids ns.length (by have:=T.kr i hi;rw [e] at this;exact this)
 rw [this];rfl
end
end Go.Proofs.YticimejfjjmikaaGreatDoor
