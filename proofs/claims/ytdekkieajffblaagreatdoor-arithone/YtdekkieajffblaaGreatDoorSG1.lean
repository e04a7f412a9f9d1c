import Derived.Test.YtdekkieajffblaaGreatDoorM5
set_option linter.unusedVariables false
set_option linter.unusedSimpArgs false
namespace Go.Proofs.YtdekkieajffblaaGreatDoor
open Go.RowKit
inductive Rch (D : Int -> Nd) (roots : List Int) : Int -> Prop
 | root {x : Int} : x ∈ roots -> Rch D roots x
 | kid {x y : Int} : Rch D roots x -> y ∈ (D x).kids -> Rch D roots y
structure Told (D : Int -> Nd) (roots W : List Int) (ns : List Nd) (rs : List Int) : Prop where
 len : W.length = ns.length
 node : ∀ i, i < ns.length -> sameA (ns.getD i default) (D (W.getD i 0))
 kids : ∀ i, i < ns.length -> (ns.getD i default).kids.map (fun k => W.getD k.toNat 0) = (D (W.getD i 0)).kids
 kr : ∀ i, i < ns.length -> ∀ k ∈ (ns.getD i default).kids, 0 <= k /\ k < ns.length
 rts : rs.map (fun k => W.getD k.toNat 0) = roots
 rr : ∀ k ∈ rs, 0 <= k /\ k < ns.length
 inj : ∀ i j, i < ns.length -> j < ns.length -> W.getD i 0 = W.getD j 0 -> i = j \/ atomB (ns.getD i default).kind = true
theorem getD_mem_w {l : List Int} {i : Nat} (h : i < l.length) : l.getD i 0 ∈ l := by
 rw [List.getD_eq_getElem?_getD, List.getElem?_eq_getElem h]; exact List.getElem_mem h
theorem getD_map_w {l : List Int} {g : Int -> Int} {j : Nat} (h : j < l.length) : (l.map g).getD j 0 = g (l.getD j 0) := by
 rw [List.getD_eq_getElem?_getD, List.getElem?_map, List.getD_eq_getElem?_getD, List.getElem?_eq_getElem h]; rfl
theorem mem_getD_w {l : List Int} {x : Int} (h : x ∈ l) : ∃ i, i < l.length /\ l.getD i 0 = x := by
 obtain ⟨i, hi, e⟩ := List.getElem_of_mem h
 exact ⟨i, hi, by rw [List.getD_eq_getElem?_getD, List.getElem?_eq_getElem hi]; exact e⟩
theorem list_eq_w {la lb : List Int} (hl : la.length = lb.length) (h : ∀ k, k < la.length -> la.getD k 0 = lb.getD k 0) : la = lb := by
 apply List.ext_getElem hl
 intro i h1 h2
 have := h i h1
 rw [List.getD_eq_getElem?_getD, List.getD_eq_getElem?_getD, List.getElem?_eq_getElem h1, List.getElem?_eq_getElem h2] at this
 simpa using this
theorem nodup_idx : ∀ {l : List Int} {i j : Nat}, l.Nodup -> (h1 : i < l.length) -> (h2 : j < l.length) -> l[i] = l[j] -> i = j
 | [], _, _, _, h, _, _ => by simp at h
 | x :: l, 0, 0, _, _, _, _ => rfl
 | x :: l, 0, j + 1, hn, _, h2, e => by
  have h3 : j < l.length := by simpa using h2
  have : x ∈ l := by
   have e' : x = l[j] := by simpa using e
   rw [e']; exact List.getElem_mem h3
  exact absurd this (List.nodup_cons.1 hn).1
 | x :: l, i + 1, 0, hn, h1, _, e => by
  have h3 : i < l.length := by simpa using h1
  have : x ∈ l := by
   have e' : l[i] = x := by simpa using e
   rw [<- e']; exact List.getElem_mem h3
  exact absurd this (List.nodup_cons.1 hn).1
 | x :: l, i + 1, j + 1, hn, h1, h2, e => by
  have := nodup_idx (l := l) (List.nodup_cons.1 hn).2 (by simpa using h1) (by simpa using h2) (by simpa using e)
  omega
section
variable {D D' : Int -> Nd} {roots W W' rs rs' : List Int} {ns ns' : List Nd} {ψ : Int -> Int}
theorem Told.has (T' : Told D' (roots.map ψ) W' ns' rs') (hψ : ∀ x, Rch D roots x -> (D' (ψ x)).kids = (D x).kids.map ψ) {x : Int} (h : Rch D roots x) : ∃ j, j < ns'.length /\ W'.getD j 0 = ψ x := by
 induction h with
 | @root x hx =>
  have : ψ x ∈ rs'.map (fun k => W'.getD k.toNat 0) := by rw [T'.rts]; exact List.mem_map_of_mem hx
  obtain ⟨k, hk, e⟩ := List.mem_map.1 this
  have := T'.rr k hk
  exact ⟨k.toNat, by omega, e⟩
 | @kid x y hx hy ih =>
  obtain ⟨j, hj, e⟩ := ih
  have h1 := T'.kids j hj
  rw [e, hψ x hx] at h1
  have : ψ y ∈ (ns'.getD j default).kids.map (fun k => W'.getD k.toNat 0) := by rw [h1]; exact List.mem_map_of_mem hy
  obtain ⟨k, hk, e2⟩ := List.mem_map.1 this
  have := T'.kr j hj k hk
  exact ⟨k.toNat, by omega, e2⟩
def toldF (ψ : Int -> Int) (W W' : List Int) (i : Int) : Int := ((W'.idxOf (ψ (W.getD i.toNat 0)) : Nat) : Int)
theorem idx_get {l : List Int} {x : Int} (h : x ∈ l) : l.idxOf x < l.length /\ l.getD (l.idxOf x) 0 = x := by
 have hl := List.idxOf_lt_length_of_mem h
 refine ⟨hl, ?_⟩
 rw [List.getD_eq_getElem?_getD, List.getElem?_eq_getElem hl]
 simp
theorem told_sim (T : Told D roots W ns rs) (T' : Told D' (roots.map ψ) W' ns' rs') (hn : ∀ i j, i < ns'.length -> j < ns'.length -> W'.getD i 0 = W'.getD j 0 -> i = j)
  (hψ : ∀ x, Rch D roots x -> sameA (D' (ψ x)) (D x) /\ (D' (ψ x)).kids = (D x).kids.map ψ)
  (hi : ∀ x y, Rch D roots x -> Rch D roots y -> ψ x = ψ y -> x = y \/ atomB (D x).kind = true)
  (hb : ∀ x, Rch D roots x -> atomB (D x).kind = true -> (D x).kids = []) :
  Sim ns ns' (toldF ψ W W') (fun i => 0 <= i /\ i < ns.length /\ Rch D roots (W.getD i.toNat 0)) /\ rs' = rs.map (toldF ψ W W') /\ ∀ z ∈ rs, 0 <= z /\ z < ns.length /\ Rch D roots (W.getD z.toNat 0) := by
 have hin : ∀ x, Rch D roots x -> ψ x ∈ W' := fun x hx => by
  obtain ⟨j, hj, e⟩ := T'.has (fun x hx => (hψ x hx).2) hx
  rw [<- e]; exact getD_mem_w (by rw [T'.len]; exact hj)
 have hF : ∀ i : Int, Rch D roots (W.getD i.toNat 0) -> 0 <= toldF ψ W W' i /\ toldF ψ W W' i < ns'.length /\ W'.getD (toldF ψ W W' i).toNat 0 = ψ (W.getD i.toNat 0) := fun i h => by
  obtain ⟨h1, h2⟩ := idx_get (hin _ h)
  rw [T'.len] at h1
  unfold toldF
  refine ⟨by omega, by omega, ?_⟩
  rw [Int.toNat_natCast]; exact h2
 have hlist : ∀ (a b : List Int), a.map (fun k => W'.getD k.toNat 0) = (b.map (fun k => W.getD k.toNat 0)).map ψ -> (∀ k ∈ a, 0 <= k /\ k < ns'.length) -> (∀ k ∈ b, Rch D roots (W.getD k.toNat 0)) -> a = b.map (toldF ψ W W') := fun a b h ha hbm => by
  have hl : a.length = b.length := by have := congrArg List.length h; simpa using this
  refine list_eq_w (by rw [List.length_map]; exact hl) (fun t ht => ?_)
  have hb' : t < b.length := by omega
  have e : W'.getD (a.getD t 0).toNat 0 = ψ (W.getD (b.getD t 0).toNat 0) := by
   have := congrArg (fun l : List Int => l.getD t 0) h
   rw [getD_map_w ht, getD_map_w (by rw [List.length_map]; exact hb'), getD_map_w hb'] at this
   exact this
  rw [getD_map_w hb']
  have h1 := ha _ (getD_mem_w ht)
  obtain ⟨f1, f2, f3⟩ := hF (b.getD t 0) (hbm _ (getD_mem_w hb'))
  have := hn (a.getD t 0).toNat (toldF ψ W W' (b.getD t 0)).toNat (by omega) (by omega) (e.trans f3.symm)
  omega
 have hkr : ∀ i : Int, 0 <= i -> i < ns.length -> Rch D roots (W.getD i.toNat 0) -> ∀ k ∈ (ns.getD i.toNat default).kids, Rch D roots (W.getD k.toNat 0) := fun i h0 h1 h2 k hk => by
  have e := T.kids i.toNat (by omega)
  refine .kid h2 ?_
  rw [<- e]; exact List.mem_map_of_mem (f := fun k => W.getD k.toNat 0) hk
 have hrt : ∀ z ∈ rs, Rch D roots (W.getD z.toNat 0) := fun z hz => .root (by rw [<- T.rts]; exact List.mem_map_of_mem (f := fun k => W.getD k.toNat 0) hz)
 have hkind : ∀ i : Int, 0 <= i -> i < ns.length -> (ns.getD i.toNat default).kind = (D (W.getD i.toNat 0)).kind := fun i h0 h1 => (T.node i.toNat (by omega)).1
 refine ⟨⟨fun i hM => ⟨hM.1, hM.2.1⟩, fun i hM => ?_, fun i hM k hk => ?_, fun i hM => ?_, fun i i' hM hM' e => ?_, fun i hM ha => ?_⟩, ?_, fun z hz => ⟨(T.rr z hz).1, (T.rr z hz).2, hrt z hz⟩⟩
 ·obtain ⟨f1, f2, _⟩ := hF i hM.2.2
  exact ⟨f1, f2⟩
 ·have := T.kr i.toNat (by have := hM.1; have := hM.2.1; omega) k hk
  exact ⟨this.1, this.2, hkr i hM.1 hM.2.1 hM.2.2 k hk⟩
 ·obtain ⟨f1, f2, f3⟩ := hF i hM.2.2
  have hj : (toldF ψ W W' i).toNat < ns'.length := by omega
  have hi' : i.toNat < ns.length := by have := hM.1; have := hM.2.1; omega
  have s1 := T'.node _ hj
  rw [f3] at s1
  have s2 := (s1.trans (hψ _ hM.2.2).1).trans (T.node _ hi').symm
  refine nd_ext s2.1 s2.2.1 s2.2.2 ?_
  refine hlist _ _ ?_ (T'.kr _ hj) (hkr i hM.1 hM.2.1 hM.2.2)
  rw [T'.kids _ hj, f3, (hψ _ hM.2.2).2, T.kids _ hi']
 ·obtain ⟨f1, f2, f3⟩ := hF i hM.2.2
  obtain ⟨g1, g2, g3⟩ := hF i' hM'.2.2
  have e2 : ψ (W.getD i.toNat 0) = ψ (W.getD i'.toNat 0) := by rw [<- f3, <- g3, e]
  rcases hi _ _ hM.2.2 hM'.2.2 e2 with e3 | e3
  ·rcases T.inj i.toNat i'.toNat (by have := hM.1; have := hM.2.1; omega) (by have := hM'.1; have := hM'.2.1; omega) e3 with e4 | e4
   ·left; have := hM.1; have := hM'.1; omega
   ·exact .inr e4
  ·right; rw [hkind i hM.1 hM.2.1]; exact e3
 ·have := hb _ hM.2.2 (by rw [<- hkind i hM.1 hM.2.1]; exact ha)
  have e := T.kids i.toNat (by have := hM.1; have := hM.2.1; omega)
  rw [this] at e
  exact List.map_eq_nil_iff.1 e
 ·exact hlist _ _ (by rw [T'.rts, T.rts]) T'.rr hrt
theorem told_canon {f : Nat} (T : Told D roots W ns rs) (T' : Told D' (roots.map ψ) W' ns' rs') (hn : ∀ i j, i < ns'.length -> j < ns'.length -> W'.getD i 0 = W'.getD j 0 -> i = j)
  (hψ : ∀ x, Rch D roots x -> sameA (D' (ψ x)) (D x) /\ (D' (ψ x)).kids = (D x).kids.map ψ)
  (hi : ∀ x y, Rch D roots x -> Rch D roots y -> ψ x = ψ y -> x = y \/ atomB (D x).kind = true)
  (hb : ∀ x, Rch D roots x -> atomB (D x).kind = true -> (D x).kids = []) (hf : Fine ns rs f) (hg : goodG ns' rs' = true) : canonG ns' rs' f = canonG ns rs f := by
 obtain ⟨S, e, hr⟩ := told_sim T T' hn hψ hi hb
 rw [e] at hg ⊢
 exact canon_sim S hf hr hg
def mkN (D : Int -> Nd) (W : List Int) (x : Int) : Nd := { D x with kids := (D x).kids.map (fun y => ((W.idxOf y : Nat) : Int)) }
def mkG (D : Int -> Nd) (W : List Int) : List Nd := W.map (mkN D W)
theorem mkG_get {i : Nat} (h : i < W.length) : (mkG D W).getD i default = mkN D W (W.getD i 0) := by
 unfold mkG
 rw [List.getD_eq_getElem?_getD, List.getElem?_map, List.getD_eq_getElem?_getD, List.getElem?_eq_getElem h]; rfl
theorem told_mk (hn : W.Nodup) (hc : ∀ x ∈ W, ∀ y ∈ (D x).kids, y ∈ W) (hr : ∀ x ∈ roots, x ∈ W) : Told D roots W (mkG D W) (roots.map (fun y => ((W.idxOf y : Nat) : Int))) := by
 have hl : (mkG D W).length = W.length := by unfold mkG; rw [List.length_map]
 have hid : ∀ (l : List Int), (∀ y ∈ l, y ∈ W) -> (l.map (fun y => ((W.idxOf y : Nat) : Int))).map (fun k => W.getD k.toNat 0) = l := fun l h => by
  rw [List.map_map]
  conv => rhs; rw [<- List.map_id l]
  refine List.map_congr_left (fun y hy => ?_)
  show W.getD (((W.idxOf y : Nat) : Int)).toNat 0 = y
  rw [Int.toNat_natCast]; exact (idx_get (h y hy)).2
 have hrg : ∀ (l : List Int), (∀ y ∈ l, y ∈ W) -> ∀ k ∈ l.map (fun y => ((W.idxOf y : Nat) : Int)), 0 <= k /\ k < (mkG D W).length := fun l h k hk => by
  obtain ⟨y, hy, rfl⟩ := List.mem_map.1 hk
  have := (idx_get (h y hy)).1
  rw [hl]; omega
 refine ⟨hl.symm, fun i hi => ?_, fun i hi => ?_, fun i hi => ?_, hid roots hr, hrg roots hr, fun i j h1 h2 e => .inl ?_⟩
 ·rw [hl] at hi; rw [mkG_get hi]; exact ⟨rfl, rfl, rfl⟩
 ·rw [hl] at hi; rw [mkG_get hi]; exact hid _ (hc _ (getD_mem_w hi))
 ·rw [hl] at hi; rw [mkG_get hi]; exact hrg _ (hc _ (getD_mem_w hi))
 ·rw [hl] at h1 h2
  rw [List.getD_eq_getElem?_getD, List.getD_eq_getElem?_getD, List.getElem?_eq_getElem h1, List.getElem?_eq_getElem h2] at e
  exact nodup_idx hn h1 h2 (by simpa using e)
theorem mk_nodup (hn : W.Nodup) : ∀ i j, i < (mkG D W).length -> j < (mkG D W).length -> W.getD i 0 = W.getD j 0 -> i = j := fun i j h1 h2 e => by
 have hl : (mkG D W).length = W.length := by unfold mkG; rw [List.length_map]
 rw [hl] at h1 h2
 rw [List.getD_eq_getElem?_getD, List.getD_eq_getElem?_getD, List.getElem?_eq_getElem h1, List.getElem?_eq_getElem h2] at e
 exact nodup_idx hn h1 h2 (by simpa using e)
def okD (d : Nd) : Bool := decide (1 <= d.kind) && decide (d.kind <= 17) && numB d.kind d.num && textB d.kind d.text && countB d.kind d.kids.length
theorem Told.good (T : Told D roots W ns rs) (hd : ∀ x ∈ W, okD (D x) = true) : goodG ns rs = true := by
 have hpl : ∀ (l : List Int) (n : Nat), (∀ k ∈ l, 0 <= k /\ k < (n : Int)) -> placesB l n = true := fun l n h => by
  unfold placesB
  rw [List.all_eq_true]
  intro k hk
  have := h k hk
  unfold placeB; rw [Bool.and_eq_true, decide_eq_true_eq, decide_eq_true_eq]; omega
 refine goodG_mk (fun d hd' => ?_) (hpl _ _ T.rr)
 obtain ⟨i, hi, rfl⟩ := List.getElem_of_mem hd'
 have e : ns.getD i default = ns[i] := by rw [List.getD_eq_getElem?_getD, List.getElem?_eq_getElem hi]; rfl
 have h1 := T.node i hi
 have h2 := congrArg List.length (T.kids i hi)
 have h3 := hd (W.getD i 0) (getD_mem_w (by rw [T.len]; exact hi))
 rw [e] at h1 h2
 rw [List.length_map] at h2
 unfold okD at h3
 rw [<- h1.1, <- h1.2.1, <- h1.2.2, <- h2] at h3
 unfold nodeB
 rw [h3]
 have := hpl ns[i].kids ns.length (by have := T.kr i hi; rw [e] at this; exact this)
 rw [this]; rfl
end
end Go.Proofs.YtdekkieajffblaaGreatDoor
