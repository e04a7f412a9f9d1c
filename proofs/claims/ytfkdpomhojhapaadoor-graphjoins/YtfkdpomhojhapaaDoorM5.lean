/-
  A graph that is turned round and put behind another one: plain mathematics.
-/
import Derived.Test.YtfkdpomhojhapaaDoorM3
import Derived.Test.YtfkdpomhojhapaaDoorL1
set_option linter.unusedVariables false
set_option linter.unusedSimpArgs false
namespace Go.Proofs.YtfkdpomhojhapaaDoor
open Go.RowKit

/-- A place behind a turn. -/
def turnI (n : Nat) (by_ z : Int) : Int := (z - by_ + n) % n
def turnD (n : Nat) (by_ : Int) (d : Nd) : Nd := { d with kids := d.kids.map (turnI n by_) }
/-- A graph's nodes, turned round. -/
def turnN (ns : List Nd) (by_ : Nat) : List Nd := (List.range ns.length).map fun i => turnD ns.length by_ (ns.getD ((i + by_) % ns.length) default)
/-- Two graphs' nodes, side by side. -/
def joinN (a b : List Nd) : List Nd := a.map (movedN 0) ++ b.map (movedN a.length)
theorem movedL_zero (l : List Int) : movedL 0 l = l := by unfold movedL; simp
theorem movedN_zero (d : Nd) : movedN 0 d = d := nd_ext rfl rfl rfl (movedL_zero _)
theorem turnI_rng {n : Nat} (hn : 0 < n) (b z : Int) : 0 ≤ turnI n b z ∧ turnI n b z < n := by
  unfold turnI; exact ⟨Int.emod_nonneg _ (by omega), Int.emod_lt_of_pos _ (by omega)⟩
theorem turnI_back {n : Nat} {b : Nat} {z : Int} (hb : b < n) (h0 : 0 ≤ z) (h1 : z < n) : ((turnI n b z).toNat + b) % n = z.toNat := by
  unfold turnI
  by_cases h : (b : Int) ≤ z
  · have : (z - b + n) % (n : Int) = z - b := by
      rw [Int.add_emod_right]; exact Int.emod_eq_of_lt (by omega) (by omega)
    rw [this]
    have : (z - b).toNat + b = z.toNat := by omega
    rw [this]
    exact Nat.mod_eq_of_lt (by omega)
  · have : (z - b + n) % (n : Int) = z - b + n := Int.emod_eq_of_lt (by omega) (by omega)
    rw [this]
    have : (z - b + n).toNat + b = z.toNat + n := by omega
    rw [this, Nat.add_mod_right]
    exact Nat.mod_eq_of_lt (by omega)
theorem turnN_length (ns : List Nd) (b : Nat) : (turnN ns b).length = ns.length := by simp [turnN]
theorem turnN_get {ns : List Nd} {b i : Nat} (h : i < ns.length) : (turnN ns b).getD i default = turnD ns.length b (ns.getD ((i + b) % ns.length) default) := by
  unfold turnN
  rw [List.getD_eq_getElem?_getD, List.getElem?_map, List.getElem?_range h]; rfl
theorem joinN_length (a b : List Nd) : (joinN a b).length = a.length + b.length := by simp [joinN]
theorem joinN_get {a b : List Nd} {i : Nat} (h : i < b.length) : (joinN a b).getD (a.length + i) default = movedN a.length (b.getD i default) := by
  unfold joinN
  rw [List.getD_eq_getElem?_getD, List.getElem?_append_right (by simp)]
  simp [List.getElem?_eq_getElem h]
theorem places_more {l : List Int} {n m : Nat} (h : placesB l n = true) (hm : n ≤ m) : placesB l m = true := by
  unfold placesB at *
  rw [List.all_eq_true] at *
  intro z hz
  have := h z hz
  unfold placeB at *
  simp at *
  omega
theorem nodeB_of {n m : Nat} {d e : Nd} (h : nodeB n d = true) (h1 : e.kind = d.kind) (h2 : e.num = d.num) (h3 : e.text = d.text) (h4 : e.kids.length = d.kids.length) (h5 : placesB e.kids m = true) : nodeB m e = true := by
  unfold nodeB at *
  rw [Bool.and_eq_true] at *
  rw [h1, h2, h3, h4]
  exact ⟨h.1, h5⟩
theorem goodG_nodes {ns : List Nd} {rs : List Int} (h : goodG ns rs = true) : ∀ d ∈ ns, nodeB ns.length d = true := by
  unfold goodG at h
  rw [Bool.and_eq_true] at h
  exact List.all_eq_true.1 h.1
theorem goodG_mk {ns : List Nd} {rs : List Int} (h : ∀ d ∈ ns, nodeB ns.length d = true) (h2 : placesB rs ns.length = true) : goodG ns rs = true := by
  unfold goodG
  rw [Bool.and_eq_true]
  exact ⟨List.all_eq_true.2 h, h2⟩
theorem turned_places {n k : Nat} (hn : 0 < n) (b : Int) (l : List Int) : placesB ((l.map (turnI n b)).map (· + (k : Int))) (k + n) = true := by
  unfold placesB
  rw [List.all_eq_true]
  intro z hz
  obtain ⟨y, hy, rfl⟩ := List.mem_map.1 hz
  obtain ⟨x, hx, rfl⟩ := List.mem_map.1 hy
  have := turnI_rng hn b x
  unfold placeB
  simp
  omega
/-- Turned round and put behind another good graph it is good. -/
theorem good_turned {hs ns : List Nd} {hr rs : List Int} {b : Nat} (hh : goodG hs hr = true) (hg : goodG ns rs = true) (hn : 0 < ns.length) : goodG (joinN hs (turnN ns b)) (movedL hs.length (rs.map (turnI ns.length b))) = true := by
  have hlen : (joinN hs (turnN ns b)).length = hs.length + ns.length := by rw [joinN_length, turnN_length]
  refine goodG_mk (fun d hd => ?_) (by rw [hlen]; exact turned_places hn _ _)
  rw [hlen]
  unfold joinN at hd
  rcases List.mem_append.1 hd with hd | hd
  · obtain ⟨e, he, rfl⟩ := List.mem_map.1 hd
    rw [movedN_zero]
    have := goodG_nodes hh e he
    exact nodeB_of this rfl rfl rfl rfl (places_more (nodeB_parts this).2 (by omega))
  · obtain ⟨e, he, rfl⟩ := List.mem_map.1 hd
    unfold turnN at he
    obtain ⟨i, hi, rfl⟩ := List.mem_map.1 he
    have hm : (i + b) % ns.length < ns.length := Nat.mod_lt _ hn
    refine nodeB_of (goodG_nodes hg _ (getD_mem_nd hm)) rfl rfl rfl ?_ (turned_places hn _ _)
    simp [movedN, movedL, turnD]
theorem turned_sim (hs : List Nd) {ns : List Nd} {rs : List Int} {b : Nat} (hg : goodG ns rs = true) (hb : b < ns.length) : Sim ns (joinN hs (turnN ns b)) (fun z => turnI ns.length b z + hs.length) (fun z => 0 ≤ z ∧ z < ns.length) := by
  have hn : 0 < ns.length := by omega
  refine ⟨fun i hi => hi, fun i hi => ?_, fun i hi k hk => ?_, fun i hi => ?_, fun i i' hi hi' e => ?_, fun i hi ha => ?_⟩
  · have := turnI_rng hn b i
    rw [joinN_length, turnN_length]; omega
  · exact places_rng ((goodG_parts hg).1 _ (getD_mem_nd (by omega : i.toNat < ns.length))) k hk
  · have hr := turnI_rng hn b i
    have e1 : (turnI ns.length b i + (hs.length : Int)).toNat = hs.length + (turnI ns.length b i).toNat := by omega
    show (joinN hs (turnN ns b)).getD (turnI ns.length b i + (hs.length : Int)).toNat default = _
    rw [e1, joinN_get (by rw [turnN_length]; omega), turnN_get (by omega), turnI_back hb hi.1 hi.2]
    refine nd_ext rfl rfl rfl ?_
    show movedL hs.length (((ns.getD i.toNat default).kids).map (turnI ns.length b)) = _
    unfold movedL
    rw [List.map_map]
    rfl
  · left
    have e' : turnI ns.length b i = turnI ns.length b i' := by
      have e2 : turnI ns.length b i + (hs.length : Int) = turnI ns.length b i' + (hs.length : Int) := e
      omega
    have h1 := turnI_back hb hi.1 hi.2
    have h2 := turnI_back hb hi'.1 hi'.2
    rw [e'] at h1
    omega
  · exact goodG_bare hg _ (getD_mem_nd (by omega : i.toNat < ns.length)) ha
/-- .. and its order is the same. -/
theorem canon_turned {hs ns : List Nd} {hr rs : List Int} {b f : Nat} (hh : goodG hs hr = true) (hF : Fine ns rs f) (hb : b < ns.length) : canonG (joinN hs (turnN ns b)) (movedL hs.length (rs.map (turnI ns.length b))) f = canonG ns rs f := by
  have hg := good_turned (b := b) hh hF.good (by omega)
  have e : movedL hs.length (rs.map (turnI ns.length b)) = rs.map (fun z => turnI ns.length b z + (hs.length : Int)) := by unfold movedL; rw [List.map_map]; rfl
  rw [e] at hg ⊢
  exact canon_sim (turned_sim hs hF.good hb) hF (places_rng (goodG_parts hF.good).2) hg
theorem joinN_nil (b : List Nd) : joinN [] b = b := by
  unfold joinN
  simp only [List.map_nil, List.nil_append, List.length_nil]
  rw [show ((0 : Nat) : Int) = 0 from rfl]
  conv => rhs; rw [← List.map_id b]
  exact List.map_congr_left fun d _ => movedN_zero d
end Go.Proofs.YtfkdpomhojhapaaDoor
