/-
  Objects that are laid one behind the other; appends as steps of a region that draws its order.
-/
import Derived.Test.YtfkdpomhojhapaaDoorH3
import Derived.Test.YtfkdpomhojhapaaDoorG20
import Derived.Test.YtfkdpomhojhapaaDoorG21
import Derived.Test.YtfkdpomhojhapaaDoorW36
set_option linter.unusedVariables false
set_option linter.unusedSimpArgs false
set_option maxRecDepth 100000
namespace Go.Proofs.YtfkdpomhojhapaaDoor
open Go.RowKit

def movedN (k : Int) (d : Nd) : Nd := { d with kids := movedL k d.kids }
/-- Places of a graph are small enough to be moved. -/
structure Raw (ns : List Nd) (rs : List Int) : Prop where
  kids : ∀ d ∈ ns, (∀ z ∈ d.kids, -1099511627776 ≤ z ∧ z ≤ 1099511627776) ∧ d.kids.length ≤ 1000
  roots : ∀ z ∈ rs, -1099511627776 ≤ z ∧ z ≤ 1099511627776

end Go.Proofs.YtfkdpomhojhapaaDoor

set_option linter.unusedVariables false
set_option linter.unusedSimpArgs false
set_option maxRecDepth 100000
namespace Go.Proofs.YtfkdpomhojhapaaDoor
open Go.RowKit

/-- Objects that are laid one behind the other. -/
def allocs (w : World) : List Obj → World
  | [] => w
  | o :: os => allocs (w.alloc o) os
theorem allocs_below : ∀ (os : List Obj) (w : World), Below w.heap.size w (allocs w os)
  | [], w => Below.refl _ _
  | o :: os, w => Bt (Ba w o) (allocs_below os (w.alloc o))
theorem allocs_get : ∀ {os : List Obj} {w : World} {i : Nat} {o : Obj}, os[i]? = some o → (allocs w os).heap[w.heap.size + i]? = some o
  | [], _, _, _, h => by simp at h
  | o' :: os, w, 0, o, h => by
    have e : o' = o := by simpa using h
    subst e
    exact ((allocs_below os (w.alloc o')).block _ (by rw [size_alloc]; omega)).trans (heap_alloc_new _ _)
  | o' :: os, w, i + 1, o, h => by
    have := allocs_get (w := w.alloc o') (os := os) (i := i) (o := o) (by simpa using h)
    rw [size_alloc] at this
    rw [show w.heap.size + (i + 1) = w.heap.size + 1 + i by omega]; exact this
theorem lit_nrow {w : World} {g n : Nat} {cs : Array Value} {l : List (Nd × (Option Addr × Nat × Nat))} (h : w.heap[g]? = some (.cells cs 32 (0, 0))) (hx : cs.toList = ncs l) (hl : l.length = n) (hn : n ≤ 1000) (hk : ∀ x ∈ l, IRow w x.2.1 x.2.2.1 x.2.2.2 x.1.kids) (ho : ∀ x ∈ l, NdOk x.1) :
    NRow w (some ⟨g, 0, none⟩) n n (l.map Prod.fst) := by
  subst hl
  refine ⟨by simp, Nat.le_refl _, by unfold maxLen; omega, fun e => (by cases e), fun d hd => ?_, .inr ⟨g, 0, rfl, (Array.getElem?_eq_some_iff.1 h).1, fun i hi => ?_⟩⟩
  · obtain ⟨x, hx, rfl⟩ := List.mem_map.1 hd
    exact ho x hx
  · rw [List.length_map] at hi
    have e : (l.map Prod.fst).getD i default = (l.getD i (default, none, 0, 0)).1 := by
      rw [List.getD_eq_getElem?_getD, List.getElem?_map, List.getD_eq_getElem?_getD, List.getElem?_eq_getElem hi]; rfl
    rw [e]
    have hm : l.getD i (default, none, 0, 0) ∈ l := by rw [List.getD_eq_getElem?_getD, List.getElem?_eq_getElem hi]; exact List.getElem_mem hi
    have hc : ∀ j, j < 4 → w.cell? ⟨g, 0 + i * 4 + j, none⟩ = (nc (l.getD i (default, none, 0, 0)))[j]? := fun j hj => by
      rw [blk_cell h, Nat.zero_add, ← ncs_get hi hj, ← hx, Array.getElem?_toList]
    exact ⟨hc 0 (by omega), hc 1 (by omega), hc 2 (by omega), _, _, _, hc 3 (by omega), hk _ hm⟩


section
variable {P : Program} {w : World} {ops : Array Oper} {o : Oper} {a : Act} {K : Act → World → Prop} {Q : Exit → Act → World → Prop} {E : Prop}
/-- 'append(nodes, n)' as a step. -/
theorem stepNode (dst : Option Nat) (hdst : o.dst = dst) (hgd : o.guard = none) (s x : Operand) (t : TypeId) (ho : o.op = .call { callee := .builtin .append, args := #[s, x], argTypes := #[t, t] })
    (base : Nat) (e : TypeId) (ht : P.underlying t = some (.slice e)) (hi : (P.info? e).map (fun i => (i.zero, i.size, i.bytes)) = some (some (.agg #[.int .i64 0, .int .i64 0, .string ByteArray.empty, .slice none 0 0]), 4, 56))
    (v : Value) (n : Nat) (xs : List Value) (hs : a.eval s = v) (hown : w.ownsRow base e 4 v n xs)
    (g0 c : Nat) (d : Nd × (Option Addr × Nat × Nat)) (hx : a.eval x = .slice (some ⟨g0, 0, none⟩) 1 c) (hd : ∀ j u, (nc d)[j]? = some u → w.cell? ⟨g0, j, none⟩ = some u) (hsm : n ≤ 1000000) (hbase : base ≤ w.heap.size)
    (h : ∀ g cap w', w'.ownsRow base e 4 (.slice (some ⟨g, 0, none⟩) (n + 1) cap) (n + 1) (xs ++ nc d) → w.grownBy w' v.ownBlock → (v.ownBlock = some g ∨ g = w.heap.size) → g < w'.heap.size → K (a.put dst (.slice (some ⟨g, 0, none⟩) (n + 1) cap)) w') :
    if Region.wanted o (yielded ops a.tmps) = true then Oper.wp P o a w K Q else E := by
  subst hdst
  have hw : Region.wanted o (yielded ops a.tmps) = true := by simp [Region.wanted, hgd]
  rw [if_pos hw]
  obtain ⟨i0, hi0, hz0, hz1, hz2⟩ := info_parts hi
  refine wp_append_lies w s x t ho base e i0 _ 4 56 ht hi0 hz0 hz1 hz2 rfl (by decide) v n xs hs hown ⟨g0, 0, none⟩ 1 c (nc d) hx rfl ?_ ?_ (by decide) (by unfold maxLen; omega) (by omega) hbase w.heap.size rfl h
  · intro j u hj
    have := hd j u hj
    unfold Addr.add
    by_cases hj0 : j = 0
    · subst hj0; simpa using this
    · rw [if_neg hj0]; simpa using this
  · intro u hu; simp [nc] at hu; rcases hu with rfl | rfl | rfl | rfl <;> rfl
/-- 'append(numbers, more...)' as a step. -/
theorem stepInts (dst : Option Nat) (hdst : o.dst = dst) (hgd : o.guard = none) (s x : Operand) (t : TypeId) (ho : o.op = .call { callee := .builtin .append, args := #[s, x], argTypes := #[t, t] })
    (base : Nat) (e : TypeId) (ht : P.underlying t = some (.slice e)) (hi : (P.info? e).map (fun i => (i.zero, i.size, i.bytes)) = some (some (.int .i64 0), 1, 8))
    (v : Value) (n : Nat) (l : List Int) (hs : a.eval s = v) (hown : w.ownsRow base e 1 v n (cz l))
    (ao : Option Addr) (m c : Nat) (r : List Int) (hx : a.eval x = .slice ao m c) (hr : IRow w ao m c r) (hsm : n + m ≤ 1000000) (hbase : base ≤ w.heap.size)
    (h : ∀ v' w', w'.ownsRow base e 1 v' (n + m) (cz (l ++ r)) → w.grownBy w' v.ownBlock → K (a.put dst v') w') :
    if Region.wanted o (yielded ops a.tmps) = true then Oper.wp P o a w K Q else E := by
  subst hdst
  have hw : Region.wanted o (yielded ops a.tmps) = true := by simp [Region.wanted, hgd]
  rw [if_pos hw]
  obtain ⟨i0, hi0, hz0, hz1, hz2⟩ := info_parts hi
  cases ao with
  | none =>
    have hc := hr.nil_ rfl
    subst hc
    have hm : m = 0 := by have := hr.fits; omega
    subst hm
    have hl2 : r = [] := List.length_eq_zero_iff.1 hr.len
    subst hl2
    have hrun := run_append_owned_none (P := P) (w := w) base t o.type e i0 1 ht hi0 v n (cz l) hown
    unfold Oper.wp
    simp [execOp, ho, resolve, invoke, builtin, hs, hx, hrun, Result.andThen]
    exact h v w (by simpa using hown) ⟨rfl, rfl, rfl, Nat.le_refl _, fun _ _ _ => rfl⟩
  | some ad =>
    refine wp_append_own w s x t ho base e i0 (.int .i64 0) 1 8 ht hi0 hz0 hz1 hz2 rfl (by decide) v n (cz l) hs hown ad m c (cz r) hx (by rw [cz_length, hr.len]; omega) ?_ ?_ (by unfold maxLen; omega) (by omega) hbase ?_
    · intro j u hj
      have hjl : j < r.length := by
        have := (List.getElem?_eq_some_iff.1 hj).1
        rwa [cz_length] at this
      rw [cz_get hjl] at hj
      cases hj
      obtain ⟨b, o', hao, _, hc⟩ := hr.some (by have := hr.len; omega)
      cases hao
      have := hc j (by have := hr.len; omega)
      unfold Addr.add
      by_cases hj0 : j = 0
      · subst hj0; simpa using this
      · rw [if_neg hj0]; exact this
    · intro u hu
      unfold cz at hu
      obtain ⟨z, _, rfl⟩ := List.mem_map.1 hu
      rfl
    · intro v' w' h1 h2 _
      rw [← cz_append] at h1
      exact h v' w' h1 h2
end
end Go.Proofs.YtfkdpomhojhapaaDoor
