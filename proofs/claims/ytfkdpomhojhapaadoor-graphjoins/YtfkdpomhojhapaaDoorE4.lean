/-
  Memory of Join of the document's answer: a node more in a row whose holder lies anywhere apart.
-/
import Derived.Test.YtfkdpomhojhapaaDoorE3
set_option linter.unusedVariables false
set_option linter.unusedSimpArgs false
set_option maxRecDepth 100000
namespace Go.Proofs.YtfkdpomhojhapaaDoor
open Go.RowKit

/-- One node more; what held them is told its new place, wherever it lies apart from them. -/
theorem NOwn.pushed_at {base : Nat} {w : World} {v : Value} {l : List (Nd × (Option Addr × Nat × Nat))} (h : NOwn base w v l) {w' : World} {g cap go : Nat} {d : Nd × (Option Addr × Nat × Nat)} (hgl : go < w.heap.size) (hgo : v.ownBlock ≠ some go)
    (ho : w'.ownsRow base 32 4 (.slice (some ⟨g, 0, none⟩) (l.length + 1) cap) (l.length + 1) (ncs l ++ nc d)) (hg : w.grownBy w' v.ownBlock) (hl : v.ownBlock = some g ∨ g = w.heap.size) (hd : NdOk d.1)
    (hk : IRow w d.2.1 d.2.2.1 d.2.2.2 d.1.kids) (hkb : ∀ ad, d.2.1 = some ad → base ≤ ad.block ∧ ad.block < w.heap.size ∧ v.ownBlock ≠ some ad.block) (hkg : ∀ x ∈ l ++ [d], ∀ ad, x.2.1 = some ad → ad.block ≠ go) :
    NOwn base (w'.setCell ⟨go, 0, none⟩ (.slice (some ⟨g, 0, none⟩) (l.length + 1) cap)) (.slice (some ⟨g, 0, none⟩) (l.length + 1) cap) (l ++ [d]) := by
  have hgb : base ≤ g := by
    rcases ho.2 with ⟨h, _⟩ | ⟨g', cap', cur, h, h2, _⟩
    · cases h
    · cases h; exact h2
  have hggo : g ≠ go := by
    rcases hl with h' | h'
    · intro e; exact hgo (by rw [h', e])
    · omega
  have hs : (w'.setCell ⟨go, 0, none⟩ (.slice (some ⟨g, 0, none⟩) (l.length + 1) cap)).heap.size = w'.heap.size := by simp [World.setCell]
  have key : ∀ (x : Nd × (Option Addr × Nat × Nat)), IRow w x.2.1 x.2.2.1 x.2.2.2 x.1.kids → (∀ ad, x.2.1 = some ad → base ≤ ad.block ∧ ad.block < w.heap.size ∧ v.ownBlock ≠ some ad.block) → (∀ ad, x.2.1 = some ad → ad.block ≠ go) →
      IRow (w'.setCell ⟨go, 0, none⟩ (.slice (some ⟨g, 0, none⟩) (l.length + 1) cap)) x.2.1 x.2.2.1 x.2.2.2 x.1.kids ∧ (∀ ad, x.2.1 = some ad → base ≤ ad.block ∧ ad.block < (w'.setCell ⟨go, 0, none⟩ (.slice (some ⟨g, 0, none⟩) (l.length + 1) cap)).heap.size ∧ (Value.slice (some ⟨g, 0, none⟩) (l.length + 1) cap).ownBlock ≠ some ad.block) := by
    intro x hx hxb hxg
    refine ⟨hx.frame (by rw [hs]; exact hg.size) (fun ad had => ?_), fun ad had => ?_⟩
    · obtain ⟨q1, q2, q3⟩ := hxb ad had
      exact (Below.heap_setCell _ _ _ _ (hxg ad had)).trans (hg.block _ q2 (fun e => q3 e.symm))
    · obtain ⟨q1, q2, q3⟩ := hxb ad had
      refine ⟨q1, by rw [hs]; exact Nat.lt_of_lt_of_le q2 hg.size, fun e => ?_⟩
      have e' : g = ad.block := Option.some.inj e
      rcases hl with h' | h'
      · exact q3 (by rw [h', e'])
      · omega
  refine ⟨?_, ?_, ?_⟩
  · rw [ncs_snoc, List.length_append, List.length_singleton]
    refine ⟨ho.1, ?_⟩
    rcases ho.2 with ⟨h, _⟩ | ⟨g', cap', cur, h1, h2, h3, h4⟩
    · cases h
    · cases h1
      exact .inr ⟨g, cap, cur, rfl, h2, (Below.heap_setCell _ _ _ _ hggo).trans h3, h4⟩
  · intro x hx
    rcases List.mem_append.1 hx with hx | hx
    · exact key x (h.kids x hx).1 (h.kids x hx).2 (hkg x (List.mem_append.2 (.inl hx)))
    · obtain rfl : x = d := by simpa using hx
      exact key x hk hkb (hkg x (List.mem_append.2 (.inr (List.mem_singleton.2 rfl))))
  · intro x hx
    rcases List.mem_append.1 hx with hx | hx
    · exact h.ok x hx
    · obtain rfl : x = d := by simpa using hx
      exact hd
theorem nfar_at {go : Nat} {w w' : World} {v : Value} (hg : w.grownBy w' v.ownBlock) {a b : Value} {t : TypeId} (hc : w.heap[go]? = some (.cells #[a, b] t (0, 0))) (hgo : v.ownBlock ≠ some go) : w'.heap[go]? = some (.cells #[a, b] t (0, 0)) :=
  (hg.block go (Array.getElem?_eq_some_iff.1 hc).1 (fun e => hgo e.symm)).trans hc

/-- A row that the call owns, written in place. -/
theorem owns_set {w : World} {base : Nat} {e : TypeId} {g n cap : Nat} {xs : List Value} (h : w.ownsRow base e 1 (.slice (some ⟨g, 0, none⟩) n cap) n xs) {k : Nat} (v : Value) : (w.setCell ⟨g, k, none⟩ v).ownsRow base e 1 (.slice (some ⟨g, 0, none⟩) n cap) n (xs.set k v) := by
  refine ⟨by rw [List.length_set]; exact h.1, ?_⟩
  rcases h.2 with ⟨h0, _⟩ | ⟨g', cap', cur, h1, h2, h3, h4, h5, h6, h7⟩
  · cases h0
  · cases h1
    refine .inr ⟨g, cap, cur.setIfInBounds k v, rfl, h2, blk_set (i := k) h3 v, h4, h5, by simpa using h6, ?_⟩
    rw [← h7, Array.toList_setIfInBounds, List.take_set]
theorem owns_in_place {w : World} {base : Nat} {e : TypeId} {g n cap : Nat} {xs : List Value} (h : w.ownsRow base e 1 (.slice (some ⟨g, 0, none⟩) n cap) n xs) {k : Nat} (hk : k < n) : w.frozen? ⟨g, k, none⟩ = false ∧ w.cell? ⟨g, k, none⟩ = xs[k]? := by
  rcases h.2 with ⟨h0, _⟩ | ⟨g', cap', cur, h1, h2, h3, h4, h5, h6, h7⟩
  · cases h0
  · cases h1
    refine ⟨blk_free h3 k, (blk_cell h3 k).trans ?_⟩
    rw [← h7, List.getElem?_take, if_pos (by omega)]
    simp
/-- The half that was moved, and the rest. -/
theorem moved_set {n : Int} {l : List Int} {k : Nat} (hk : k < l.length) : (cz (movedL n (l.take k) ++ l.drop k)).set k (.int .i64 (l.getD k 0 + n)) = cz (movedL n (l.take (k + 1)) ++ l.drop (k + 1)) := by
  rw [movedL_snoc n hk]
  have hl : (movedL n (l.take k)).length = k := by unfold movedL; rw [List.length_map, List.length_take]; omega
  have hd : l.drop k = l.getD k 0 :: l.drop (k + 1) := by
    rw [List.drop_eq_getElem_cons hk, List.getD_eq_getElem?_getD, List.getElem?_eq_getElem hk]; rfl
  rw [hd]
  unfold cz
  simp only [List.map_append, List.map_cons]
  rw [List.set_append, if_neg (by simp [hl])]
  simp [hl]
theorem moved_at {n : Int} {l : List Int} {k : Nat} (hk : k < l.length) : (cz (movedL n (l.take k) ++ l.drop k))[k]? = some (.int .i64 (l.getD k 0)) := by
  have hl : (movedL n (l.take k)).length = k := by unfold movedL; rw [List.length_map, List.length_take]; omega
  have hd : l.drop k = l.getD k 0 :: l.drop (k + 1) := by
    rw [List.drop_eq_getElem_cons hk, List.getD_eq_getElem?_getD, List.getElem?_eq_getElem hk]; rfl
  rw [hd]
  unfold cz
  simp only [List.map_append, List.map_cons]
  rw [List.getElem?_append_right (by simp [hl])]
  simp [hl]

end Go.Proofs.YtfkdpomhojhapaaDoor
