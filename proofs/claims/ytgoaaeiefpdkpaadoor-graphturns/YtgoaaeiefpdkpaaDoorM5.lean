/-
  A graph that is turned round and put behind another one: plain mathematics.
-/
import Derived.Test.YtgoaaeiefpdkpaaDoorH3
import Derived.Test.YtgoaaeiefpdkpaaDoorG20
import Derived.Test.YtgoaaeiefpdkpaaDoorG21
import Derived.Test.YtgoaaeiefpdkpaaDoorW36
import Derived.Test.YtgoaaeiefpdkpaaDoorM3
set_option linter.unusedVariables false
set_option linter.unusedSimpArgs false
set_option maxRecDepth 100000
namespace Go.Proofs.YtgoaaeiefpdkpaaDoor
open Go.RowKit

def movedN (k : Int) (d : Nd) : Nd := { d with kids := movedL k d.kids }
/-- Places of a graph are small enough to be moved. -/
structure Raw (ns : List Nd) (rs : List Int) : Prop where
  kids : ∀ d ∈ ns, (∀ z ∈ d.kids, -1099511627776 ≤ z ∧ z ≤ 1099511627776) ∧ d.kids.length ≤ 1000
  roots : ∀ z ∈ rs, -1099511627776 ≤ z ∧ z ≤ 1099511627776

end Go.Proofs.YtgoaaeiefpdkpaaDoor

set_option linter.unusedVariables false
set_option linter.unusedSimpArgs false
set_option maxRecDepth 100000
namespace Go.Proofs.YtgoaaeiefpdkpaaDoor
open Go.RowKit

/-- Objects that are laid one behind the other. -/
def allocs (w : World) : List Obj → World
  | [] => w
  | o :: os => allocs (w.alloc o) os
theorem allocs_below : ∀ (os : List Obj) (w : World), Below w.heap.size w (allocs w os)
  | [], w => Below.refl _ _
  | o :: os, w => Bt (Ba w o) (allocs_below os (w.alloc o))
theorem allocs_get : ∀ {os : List Obj} {w : World} {i : Nat} {o : Obj}, os[i]? = some o → (allocs w os).heap[w.heap.size + i]? = some o
  | [], _, _, _, h => by simp at h
  | o' :: os, w, 0, o, h => by
    have e : o' = o := by simpa using h
    subst e
    exact ((allocs_below os (w.alloc o')).block _ (by rw [size_alloc]; omega)).trans (heap_alloc_new _ _)
  | o' :: os, w, i + 1, o, h => by
    have := allocs_get (w := w.alloc o') (os := os) (i := i) (o := o) (by simpa using h)
    rw [size_alloc] at this
    rw [show w.heap.size + (i + 1) = w.heap.size + 1 + i by omega]; exact this
theorem lit_nrow {w : World} {g n : Nat} {cs : Array Value} {l : List (Nd × (Option Addr × Nat × Nat))} (h : w.heap[g]? = some (.cells cs 34 (0, 0))) (hx : cs.toList = ncs l) (hl : l.length = n) (hn : n ≤ 1000) (hk : ∀ x ∈ l, IRow w x.2.1 x.2.2.1 x.2.2.2 x.1.kids) (ho : ∀ x ∈ l, NdOk x.1) :
    NRow w (some ⟨g, 0, none⟩) n n (l.map Prod.fst) := by
  subst hl
  refine ⟨by simp, Nat.le_refl _, by unfold maxLen; omega, fun e => (by cases e), fun d hd => ?_, .inr ⟨g, 0, rfl, (Array.getElem?_eq_some_iff.1 h).1, fun i hi => ?_⟩⟩
  · obtain ⟨x, hx, rfl⟩ := List.mem_map.1 hd
    exact ho x hx
  · rw [List.length_map] at hi
    have e : (l.map Prod.fst).getD i default = (l.getD i (default, none, 0, 0)).1 := by
      rw [List.getD_eq_getElem?_getD, List.getElem?_map, List.getD_eq_getElem?_getD, List.getElem?_eq_getElem hi]; rfl
    rw [e]
    have hm : l.getD i (default, none, 0, 0) ∈ l := by rw [List.getD_eq_getElem?_getD, List.getElem?_eq_getElem hi]; exact List.getElem_mem hi
    have hc : ∀ j, j < 4 → w.cell? ⟨g, 0 + i * 4 + j, none⟩ = (nc (l.getD i (default, none, 0, 0)))[j]? := fun j hj => by
      rw [blk_cell h, Nat.zero_add, ← ncs_get hi hj, ← hx, Array.getElem?_toList]
    exact ⟨hc 0 (by omega), hc 1 (by omega), hc 2 (by omega), _, _, _, hc 3 (by omega), hk _ hm⟩


section
variable {P : Program} {w : World} {ops : Array Oper} {o : Oper} {a : Act} {K : Act → World → Prop} {Q : Exit → Act → World → Prop} {E : Prop}
/-- 'append(nodes, n)' as a step. -/
theorem stepNode (dst : Option Nat) (hdst : o.dst = dst) (hgd : o.guard = none) (s x : Operand) (t : TypeId) (ho : o.op = .call { callee := .builtin .append, args := #[s, x], argTypes := #[t, t] })
    (base : Nat) (e : TypeId) (ht : P.underlying t = some (.slice e)) (hi : (P.info? e).map (fun i => (i.zero, i.size, i.bytes)) = some (some (.agg #[.int .i64 0, .int .i64 0, .string ByteArray.empty, .slice none 0 0]), 4, 56))
    (v : Value) (n : Nat) (xs : List Value) (hs : a.eval s = v) (hown : w.ownsRow base e 4 v n xs)
    (g0 c : Nat) (d : Nd × (Option Addr × Nat × Nat)) (hx : a.eval x = .slice (some ⟨g0, 0, none⟩) 1 c) (hd : ∀ j u, (nc d)[j]? = some u → w.cell? ⟨g0, j, none⟩ = some u) (hsm : n ≤ 1000000) (hbase : base ≤ w.heap.size)
    (h : ∀ g cap w', w'.ownsRow base e 4 (.slice (some ⟨g, 0, none⟩) (n + 1) cap) (n + 1) (xs ++ nc d) → w.grownBy w' v.ownBlock → (v.ownBlock = some g ∨ g = w.heap.size) → g < w'.heap.size → K (a.put dst (.slice (some ⟨g, 0, none⟩) (n + 1) cap)) w') :
    if Region.wanted o (yielded ops a.tmps) = true then Oper.wp P o a w K Q else E := by
  subst hdst
  have hw : Region.wanted o (yielded ops a.tmps) = true := by simp [Region.wanted, hgd]
  rw [if_pos hw]
  obtain ⟨i0, hi0, hz0, hz1, hz2⟩ := info_parts hi
  refine wp_append_lies w s x t ho base e i0 _ 4 56 ht hi0 hz0 hz1 hz2 rfl (by decide) v n xs hs hown ⟨g0, 0, none⟩ 1 c (nc d) hx rfl ?_ ?_ (by decide) (by unfold maxLen; omega) (by omega) hbase w.heap.size rfl h
  · intro j u hj
    have := hd j u hj
    unfold Addr.add
    by_cases hj0 : j = 0
    · subst hj0; simpa using this
    · rw [if_neg hj0]; simpa using this
  · intro u hu; simp [nc] at hu; rcases hu with rfl | rfl | rfl | rfl <;> rfl
/-- 'append(numbers, more...)' as a step. -/
theorem stepInts (dst : Option Nat) (hdst : o.dst = dst) (hgd : o.guard = none) (s x : Operand) (t : TypeId) (ho : o.op = .call { callee := .builtin .append, args := #[s, x], argTypes := #[t, t] })
    (base : Nat) (e : TypeId) (ht : P.underlying t = some (.slice e)) (hi : (P.info? e).map (fun i => (i.zero, i.size, i.bytes)) = some (some (.int .i64 0), 1, 8))
    (v : Value) (n : Nat) (l : List Int) (hs : a.eval s = v) (hown : w.ownsRow base e 1 v n (cz l))
    (ao : Option Addr) (m c : Nat) (r : List Int) (hx : a.eval x = .slice ao m c) (hr : IRow w ao m c r) (hsm : n + m ≤ 1000000) (hbase : base ≤ w.heap.size)
    (h : ∀ v' w', w'.ownsRow base e 1 v' (n + m) (cz (l ++ r)) → w.grownBy w' v.ownBlock → K (a.put dst v') w') :
    if Region.wanted o (yielded ops a.tmps) = true then Oper.wp P o a w K Q else E := by
  subst hdst
  have hw : Region.wanted o (yielded ops a.tmps) = true := by simp [Region.wanted, hgd]
  rw [if_pos hw]
  obtain ⟨i0, hi0, hz0, hz1, hz2⟩ := info_parts hi
  cases ao with
  | none =>
    have hc := hr.nil_ rfl
    subst hc
    have hm : m = 0 := by have := hr.fits; omega
    subst hm
    have hl2 : r = [] := List.length_eq_zero_iff.1 hr.len
    subst hl2
    have hrun := run_append_owned_none (P := P) (w := w) base t o.type e i0 1 ht hi0 v n (cz l) hown
    unfold Oper.wp
    simp [execOp, ho, resolve, invoke, builtin, hs, hx, hrun, Result.andThen]
    exact h v w (by simpa using hown) ⟨rfl, rfl, rfl, Nat.le_refl _, fun _ _ _ => rfl⟩
  | some ad =>
    refine wp_append_own w s x t ho base e i0 (.int .i64 0) 1 8 ht hi0 hz0 hz1 hz2 rfl (by decide) v n (cz l) hs hown ad m c (cz r) hx (by rw [cz_length, hr.len]; omega) ?_ ?_ (by unfold maxLen; omega) (by omega) hbase ?_
    · intro j u hj
      have hjl : j < r.length := by
        have := (List.getElem?_eq_some_iff.1 hj).1
        rwa [cz_length] at this
      rw [cz_get hjl] at hj
      cases hj
      obtain ⟨b, o', hao, _, hc⟩ := hr.some (by have := hr.len; omega)
      cases hao
      have := hc j (by have := hr.len; omega)
      unfold Addr.add
      by_cases hj0 : j = 0
      · subst hj0; simpa using this
      · rw [if_neg hj0]; exact this
    · intro u hu
      unfold cz at hu
      obtain ⟨z, _, rfl⟩ := List.mem_map.1 hu
      rfl
    · intro v' w' h1 h2 _
      rw [← cz_append] at h1
      exact h v' w' h1 h2
end
end Go.Proofs.YtgoaaeiefpdkpaaDoor

set_option linter.unusedVariables false
set_option linter.unusedSimpArgs false
namespace Go.Proofs.YtgoaaeiefpdkpaaDoor
open Go.RowKit

/-- A place behind a turn. -/
def turnI (n : Nat) (by_ z : Int) : Int := (z - by_ + n) % n
def turnD (n : Nat) (by_ : Int) (d : Nd) : Nd := { d with kids := d.kids.map (turnI n by_) }
/-- A graph's nodes, turned round. -/
def turnN (ns : List Nd) (by_ : Nat) : List Nd := (List.range ns.length).map fun i => turnD ns.length by_ (ns.getD ((i + by_) % ns.length) default)
/-- Two graphs' nodes, side by side. -/
def joinN (a b : List Nd) : List Nd := a.map (movedN 0) ++ b.map (movedN a.length)
theorem movedL_zero (l : List Int) : movedL 0 l = l := by unfold movedL; simp
theorem movedN_zero (d : Nd) : movedN 0 d = d := nd_ext rfl rfl rfl (movedL_zero _)
theorem turnI_rng {n : Nat} (hn : 0 < n) (b z : Int) : 0 ≤ turnI n b z ∧ turnI n b z < n := by
  unfold turnI; exact ⟨Int.emod_nonneg _ (by omega), Int.emod_lt_of_pos _ (by omega)⟩
theorem turnI_back {n : Nat} {b : Nat} {z : Int} (hb : b < n) (h0 : 0 ≤ z) (h1 : z < n) : ((turnI n b z).toNat + b) % n = z.toNat := by
  unfold turnI
  by_cases h : (b : Int) ≤ z
  · have : (z - b + n) % (n : Int) = z - b := by
      rw [Int.add_emod_right]; exact Int.emod_eq_of_lt (by omega) (by omega)
    rw [this]
    have : (z - b).toNat + b = z.toNat := by omega
    rw [this]
    exact Nat.mod_eq_of_lt (by omega)
  · have : (z - b + n) % (n : Int) = z - b + n := Int.emod_eq_of_lt (by omega) (by omega)
    rw [this]
    have : (z - b + n).toNat + b = z.toNat + n := by omega
    rw [this, Nat.add_mod_right]
    exact Nat.mod_eq_of_lt (by omega)
theorem turnN_length (ns : List Nd) (b : Nat) : (turnN ns b).length = ns.length := by simp [turnN]
theorem turnN_get {ns : List Nd} {b i : Nat} (h : i < ns.length) : (turnN ns b).getD i default = turnD ns.length b (ns.getD ((i + b) % ns.length) default) := by
  unfold turnN
  rw [List.getD_eq_getElem?_getD, List.getElem?_map, List.getElem?_range h]; rfl
theorem joinN_length (a b : List Nd) : (joinN a b).length = a.length + b.length := by simp [joinN]
theorem joinN_get {a b : List Nd} {i : Nat} (h : i < b.length) : (joinN a b).getD (a.length + i) default = movedN a.length (b.getD i default) := by
  unfold joinN
  rw [List.getD_eq_getElem?_getD, List.getElem?_append_right (by simp)]
  simp [List.getElem?_eq_getElem h]
theorem places_more {l : List Int} {n m : Nat} (h : placesB l n = true) (hm : n ≤ m) : placesB l m = true := by
  unfold placesB at *
  rw [List.all_eq_true] at *
  intro z hz
  have := h z hz
  unfold placeB at *
  simp at *
  omega
theorem nodeB_of {n m : Nat} {d e : Nd} (h : nodeB n d = true) (h1 : e.kind = d.kind) (h2 : e.num = d.num) (h3 : e.text = d.text) (h4 : e.kids.length = d.kids.length) (h5 : placesB e.kids m = true) : nodeB m e = true := by
  unfold nodeB at *
  rw [Bool.and_eq_true] at *
  rw [h1, h2, h3, h4]
  exact ⟨h.1, h5⟩
theorem goodG_nodes {ns : List Nd} {rs : List Int} (h : goodG ns rs = true) : ∀ d ∈ ns, nodeB ns.length d = true := by
  unfold goodG at h
  rw [Bool.and_eq_true] at h
  exact List.all_eq_true.1 h.1
theorem goodG_mk {ns : List Nd} {rs : List Int} (h : ∀ d ∈ ns, nodeB ns.length d = true) (h2 : placesB rs ns.length = true) : goodG ns rs = true := by
  unfold goodG
  rw [Bool.and_eq_true]
  exact ⟨List.all_eq_true.2 h, h2⟩
theorem turned_places {n k : Nat} (hn : 0 < n) (b : Int) (l : List Int) : placesB ((l.map (turnI n b)).map (· + (k : Int))) (k + n) = true := by
  unfold placesB
  rw [List.all_eq_true]
  intro z hz
  obtain ⟨y, hy, rfl⟩ := List.mem_map.1 hz
  obtain ⟨x, hx, rfl⟩ := List.mem_map.1 hy
  have := turnI_rng hn b x
  unfold placeB
  simp
  omega
/-- Turned round and put behind another good graph it is good. -/
theorem good_turned {hs ns : List Nd} {hr rs : List Int} {b : Nat} (hh : goodG hs hr = true) (hg : goodG ns rs = true) (hn : 0 < ns.length) : goodG (joinN hs (turnN ns b)) (movedL hs.length (rs.map (turnI ns.length b))) = true := by
  have hlen : (joinN hs (turnN ns b)).length = hs.length + ns.length := by rw [joinN_length, turnN_length]
  refine goodG_mk (fun d hd => ?_) (by rw [hlen]; exact turned_places hn _ _)
  rw [hlen]
  unfold joinN at hd
  rcases List.mem_append.1 hd with hd | hd
  · obtain ⟨e, he, rfl⟩ := List.mem_map.1 hd
    rw [movedN_zero]
    have := goodG_nodes hh e he
    exact nodeB_of this rfl rfl rfl rfl (places_more (nodeB_parts this).2 (by omega))
  · obtain ⟨e, he, rfl⟩ := List.mem_map.1 hd
    unfold turnN at he
    obtain ⟨i, hi, rfl⟩ := List.mem_map.1 he
    have hm : (i + b) % ns.length < ns.length := Nat.mod_lt _ hn
    refine nodeB_of (goodG_nodes hg _ (getD_mem_nd hm)) rfl rfl rfl ?_ (turned_places hn _ _)
    simp [movedN, movedL, turnD]
theorem turned_sim (hs : List Nd) {ns : List Nd} {rs : List Int} {b : Nat} (hg : goodG ns rs = true) (hb : b < ns.length) : Sim ns (joinN hs (turnN ns b)) (fun z => turnI ns.length b z + hs.length) (fun z => 0 ≤ z ∧ z < ns.length) := by
  have hn : 0 < ns.length := by omega
  refine ⟨fun i hi => hi, fun i hi => ?_, fun i hi k hk => ?_, fun i hi => ?_, fun i i' hi hi' e => ?_, fun i hi ha => ?_⟩
  · have := turnI_rng hn b i
    rw [joinN_length, turnN_length]; omega
  · exact places_rng ((goodG_parts hg).1 _ (getD_mem_nd (by omega : i.toNat < ns.length))) k hk
  · have hr := turnI_rng hn b i
    have e1 : (turnI ns.length b i + (hs.length : Int)).toNat = hs.length + (turnI ns.length b i).toNat := by omega
    show (joinN hs (turnN ns b)).getD (turnI ns.length b i + (hs.length : Int)).toNat default = _
    rw [e1, joinN_get (by rw [turnN_length]; omega), turnN_get (by omega), turnI_back hb hi.1 hi.2]
    refine nd_ext rfl rfl rfl ?_
    show movedL hs.length (((ns.getD i.toNat default).kids).map (turnI ns.length b)) = _
    unfold movedL
    rw [List.map_map]
    rfl
  · left
    have e' : turnI ns.length b i = turnI ns.length b i' := by
      have e2 : turnI ns.length b i + (hs.length : Int) = turnI ns.length b i' + (hs.length : Int) := e
      omega
    have h1 := turnI_back hb hi.1 hi.2
    have h2 := turnI_back hb hi'.1 hi'.2
    rw [e'] at h1
    omega
  · exact goodG_bare hg _ (getD_mem_nd (by omega : i.toNat < ns.length)) ha
/-- .. and its order is the same. -/
theorem canon_turned {hs ns : List Nd} {hr rs : List Int} {b f : Nat} (hh : goodG hs hr = true) (hF : Fine ns rs f) (hb : b < ns.length) : canonG (joinN hs (turnN ns b)) (movedL hs.length (rs.map (turnI ns.length b))) f = canonG ns rs f := by
  have hg := good_turned (b := b) hh hF.good (by omega)
  have e : movedL hs.length (rs.map (turnI ns.length b)) = rs.map (fun z => turnI ns.length b z + (hs.length : Int)) := by unfold movedL; rw [List.map_map]; rfl
  rw [e] at hg ⊢
  exact canon_sim (turned_sim hs hF.good hb) hF (places_rng (goodG_parts hF.good).2) hg
theorem joinN_nil (b : List Nd) : joinN [] b = b := by
  unfold joinN
  simp only [List.map_nil, List.nil_append, List.length_nil]
  rw [show ((0 : Nat) : Int) = 0 from rfl]
  conv => rhs; rw [← List.map_id b]
  exact List.map_congr_left fun d _ => movedN_zero d
end Go.Proofs.YtgoaaeiefpdkpaaDoor
