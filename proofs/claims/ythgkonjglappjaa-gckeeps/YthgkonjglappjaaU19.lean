/-
  Walks: what hangs on words (shape): one word is told.
-/
import Derived.Test.YthgkonjglappjaaU18
import Derived.Maps.OwnSet
set_option linter.unusedVariables false
set_option linter.unusedSimpArgs false
set_option maxRecDepth 100000
namespace Go.Proofs.Ythgkonjglappjaa
open Go.RowKit

theorem wlaw : Maps.Keyed Try.prog 46 := Maps.int_keyed Try.underlying46
theorem wkey {z : Int} (hz : U64 z) : keyOf Try.prog 46 (.int .u64 z) = some (.int .u64 z) := Maps.keyOf_int_mk Try.underlying46 (by unfold U64 at hz; simp [Lit.wf, IntKind.min, IntKind.max, IntKind.signed, IntKind.bits]; omega)
theorem zint (w : World) : (zeroValue 3).run Try.prog w = .ok (.int .i64 0) w := by kernel_rfl
/-- The map of numbers: each word that was met has its place. -/
def MapQ (w : World) (Bm : Nat) (q : List Int) : Prop :=
  ∃ D, w.ownsMap (H := Unit) Try.prog 46 (plainElem Try.prog 3) Bm q.length D ∧ Maps.size D = q.length ∧ ∀ z, U64 z → Maps.has D (.int .u64 z) = decide (z ∈ q) ∧ (z ∈ q → D.atKey (.int .u64 z) (.lit (.int .i64 0)) = .lit (.int .i64 ((q.idxOf z : Nat) : Int)))
section
variable {w w' : World} {Bm : Nat} {q : List Int} {z : Int}
theorem MapQ.lt (h : MapQ w Bm q) : Bm < w.heap.size := by obtain ⟨D, h1, _⟩ := h; exact h1.lt
theorem MapQ.frame (h : MapQ w Bm q) (hb : w'.heap[Bm]? = w.heap[Bm]?) : MapQ w' Bm q := by
  obtain ⟨D, ⟨es, clock, h1, h2, h3, h4⟩, h5⟩ := h
  exact ⟨D, ⟨es, clock, hb.trans h1, h2, h3, h4⟩, h5⟩
theorem MapQ.made (w : World) : MapQ (w.alloc (.map #[] 0)) w.heap.size [] :=
  ⟨.map [], World.ownsMap_made w _ _ _, rfl, fun z hz => ⟨by simp [Maps.has], fun h => by cases h⟩⟩
theorem MapQ.look_ok (h : MapQ w Bm q) (hz : U64 z) : ∃ c : Int, (Instr.lookup 82 (.map (some Bm)) (.int .u64 z) true).run Try.prog w = .ok (.tuple #[.int .i64 c, .bool (decide (z ∈ q))]) w := by
  obtain ⟨D, h1, h2, h3⟩ := h
  obtain ⟨v, ps, hrun, hv⟩ := h1.look_ok wlaw Try.underlying82 (zint w) (plainElem_int Try.underlying3 (a := 0) (by decide)) (wkey hz)
  obtain ⟨c, rfl, _, _⟩ := plainElem_int_inv Try.underlying3 hv
  exact ⟨c, by rw [hrun, (h3 z hz).1]⟩
theorem MapQ.look (h : MapQ w Bm q) (hz : U64 z) (hm : z ∈ q) : (Instr.lookup 82 (.map (some Bm)) (.int .u64 z) false).run Try.prog w = .ok (.int .i64 ((q.idxOf z : Nat) : Int)) w := by
  obtain ⟨D, h1, h2, h3⟩ := h
  obtain ⟨c, hrun, hc, _⟩ := h1.lookup_int wlaw Try.underlying82 Try.underlying3 (zint w) (wkey hz)
  have := (h3 z hz).2 hm
  rw [hc] at this
  injection this with this
  injection this with _ this
  rw [hrun, this]
theorem MapQ.len (h : MapQ w Bm q) (ty : TypeId) : (Builtin.len_ #[82] ty #[.map (some Bm)]).run Try.prog w = .ok (.int .i64 (q.length : Nat)) w := by
  obtain ⟨D, h1, h2, h3⟩ := h
  rw [h1.len Try.underlying82 ty, h2]
theorem MapQ.store (h : MapQ w Bm q) (hz : U64 z) (hm : z ∉ q) (hl : q.length ≤ 1000000) : ∃ w', (Instr.mapUpdate 82 (.map (some Bm)) (.int .u64 z) (.int .i64 (q.length : Nat))).run Try.prog w = .ok () w' ∧ MapQ w' Bm (q ++ [z]) ∧ w.grownBy w' (some Bm) := by
  obtain ⟨D, h1, h2, h3⟩ := h
  obtain ⟨w', hrun, ho, ht⟩ := h1.store wlaw Try.underlying82 (by unfold maxLen; omega) (wkey hz) (plainElem_int Try.underlying3 (a := (q.length : Nat)) (WalkArith.wf_i64 (by omega)))
  refine ⟨w', hrun, ⟨_, by rw [List.length_append]; exact ho, ?_, fun y hy => ?_⟩, ht.grown⟩
  · rw [Maps.size_put (h1.tidy wlaw), (h3 z hz).1, decide_eq_false hm, h2]; simp
  · by_cases e : y = z
    · subst e
      refine ⟨?_, fun _ => ?_⟩
      · rw [Maps.has_put_same h1.isMap (wlaw.key (wkey hz))]; simp
      · rw [Maps.atKey_put_same h1.isMap (wlaw.key (wkey hz)), List.idxOf_append, if_neg hm]; simp
    · have hne : (Lit.int .u64 y) ≠ .int .u64 z := fun e' => e (by injection e')
      obtain ⟨g1, g2⟩ := h3 y hy
      refine ⟨?_, fun hmem => ?_⟩
      · rw [Maps.has_put_other hne, g1]
        congr 1
        simp [e]
      · have hyq : y ∈ q := by
          rcases List.mem_append.1 hmem with h | h
          · exact h
          · exact absurd (List.mem_singleton.1 h) e
        rw [Maps.atKey_put_other hne, g2 hyq, List.idxOf_append, if_pos hyq]
end
/-- 'append(words, ..)' of some words that lie in a row of their own: where the new one lies is told. -/
theorem appL {P : Program} {w : World} {ops : Array Oper} {rest : List Oper} {o : Oper} {a : Act} {Q : Exit → Act → World → Prop} (hgd : o.guard = none) (s x : Operand) (t : TypeId) (ho : o.op = .call { callee := .builtin .append, args := #[s, x], argTypes := #[t, t] })
    (base : Nat) (e : TypeId) (ht : P.underlying t = some (.slice e)) (hi : (P.info? e).map (fun i => (i.zero, i.size, i.bytes)) = some (some (.int .u64 0), 1, 8))
    (v : Value) (n : Nat) (l : List Int) (hs : a.eval s = v) (hown : w.ownsRow base e 1 v n (uz l))
    (g0 m c : Nat) (r : List Int) (hx : a.eval x = .slice (some ⟨g0, 0, none⟩) m c) (hr : w.heap[g0]? = some (.cells (uz r).toArray e (0, 0))) (hl : r.length = m) (hm : 0 < m) (hsm : n + m ≤ 1000000000) (hbase : base ≤ w.heap.size)
    (h : ∀ g cap w', w'.ownsRow base e 1 (.slice (some ⟨g, 0, none⟩) (n + m) cap) (n + m) (uz (l ++ r)) → w.grownBy w' v.ownBlock → (v.ownBlock = some g ∨ g = w.heap.size) → g < w'.heap.size → wpList P ops Q rest (a.put o.dst (.slice (some ⟨g, 0, none⟩) (n + m) cap)) w') :
    wpList P ops Q (o :: rest) a w := by
  obtain ⟨i0, hi0, hz0, hz1, hz2⟩ : ∃ i0, P.info? e = some i0 ∧ i0.zero = some (.int .u64 0) ∧ i0.size = 1 ∧ i0.bytes = 8 := by
    cases h : P.info? e with
    | none => rw [h] at hi; cases hi
    | some i => rw [h] at hi; simp at hi; exact ⟨i, rfl, hi.1, hi.2.1, hi.2.2⟩
  refine wpList_append_lies w hgd s x t ho base e i0 (.int .u64 0) 1 8 ht hi0 hz0 hz1 hz2 rfl (by decide) v n (uz l) hs hown ⟨g0, 0, none⟩ m c (uz r) hx (by rw [uz_length, hl]; omega) ?_ ?_ hm (by unfold maxLen; omega) (by omega) hbase w.heap.size rfl ?_
  · intro j u hj
    have : w.cell? ⟨g0, j, none⟩ = some u := by rw [blk_cell hr, List.getElem?_toArray]; exact hj
    unfold Addr.add
    by_cases hj0 : j = 0
    · subst hj0; simpa using this
    · rw [if_neg hj0]; simpa using this
  · intro u hu
    unfold uz at hu
    obtain ⟨z, _, rfl⟩ := List.mem_map.1 hu
    rfl
  · intro g cap w' h1 h2 h3 h4
    rw [← uz_append] at h1
    exact h g cap w' h1 h2 h3 h4
/-- shape's memory: the heap, what was put out, the map, the queue, from block b on. -/
structure SM (b : Nat) (w0 : World) (v vo vq : Value) (out q mq : List Int) (w : World) : Prop where
  bel : Below b w0 w
  bb : w.heap[b]? = some (.cells #[v] 25 (0, 0))
  bo : w.heap[b + 1]? = some (.cells #[vo] 27 (0, 0))
  bm : w.heap[b + 3]? = some (.cells #[.map (some (b + 2))] 82 (0, 0))
  bq : w.heap[b + 4]? = some (.cells #[vq] 27 (0, 0))
  oo : w.ownsRow (b + 5) 46 1 vo out.length (uz out)
  oq : w.ownsRow (b + 5) 46 1 vq q.length (uz q)
  mp : MapQ w (b + 2) mq
  ap : ∀ g, vo.ownBlock = some g → vq.ownBlock ≠ some g
section
variable {b : Nat} {w0 w w' : World} {v vo vq : Value} {out q mq : List Int}
theorem SM.size (h : SM b w0 v vo vq out q mq w) : b + 5 ≤ w.heap.size := (Array.getElem?_eq_some_iff.1 h.bq).1
theorem SM.on (h : SM b w0 v vo vq out q mq w) (hb : Below w.heap.size w w') : SM b w0 v vo vq out q mq w' := by
  have hs := h.size
  exact ⟨h.bel.trans (hb.mono (by omega)), (hb.block b (by omega)).trans h.bb, (hb.block _ (by omega)).trans h.bo, (hb.block _ (by omega)).trans h.bm, (hb.block _ (by omega)).trans h.bq, uown_on h.oo hb, uown_on h.oq hb, h.mp.frame (hb.block _ (by omega)), h.ap⟩
/-- The map is turned. -/
theorem SM.map (h : SM b w0 v vo vq out q mq w) {mq' : List Int} (hg : w.grownBy w' (some (b + 2))) (hm : MapQ w' (b + 2) mq') : SM b w0 v vo vq out q mq' w' := by
  have hs := h.size
  have hk : ∀ k, k < w.heap.size → k ≠ b + 2 → w'.heap[k]? = w.heap[k]? := fun k hk hne => hg.block k hk (fun e => hne (Option.some.inj e))
  refine ⟨h.bel.trans ⟨hg.os, hg.tape, hg.output, hg.size, fun k hk' => hk k (by omega) (by omega)⟩, (hk b (by omega) (by omega)).trans h.bb, (hk _ (by omega) (by omega)).trans h.bo, (hk _ (by omega) (by omega)).trans h.bm, (hk _ (by omega) (by omega)).trans h.bq, own_at h.oo (fun k e => ?_), own_at h.oq (fun k e => ?_), hm, h.ap⟩
  · have := h.oo.lt k e; exact hk k this.2 (by omega)
  · have := h.oq.lt k e; exact hk k this.2 (by omega)
theorem SM.pushQ (h : SM b w0 v vo vq out q mq w) {g cap n' : Nat} {q' : List Int} (hn : q'.length = n') (ho : w'.ownsRow (b + 5) 46 1 (.slice (some ⟨g, 0, none⟩) n' cap) n' (uz q')) (hg : w.grownBy w' vq.ownBlock) (hl : vq.ownBlock = some g ∨ g = w.heap.size) :
    SM b w0 v vo (.slice (some ⟨g, 0, none⟩) n' cap) out q' mq (w'.setCell ⟨b + 4, 0, none⟩ (.slice (some ⟨g, 0, none⟩) n' cap)) ∧ w'.cell? ⟨b + 4, 0, none⟩ = some vq ∧ w'.frozen? ⟨b + 4, 0, none⟩ = false := by
  subst hn
  have hs := h.size
  have hs2 := hg.size
  have hq5 : ∀ k, vq.ownBlock = some k → b + 5 ≤ k := fun k e => (h.oq.lt k e).1
  have hg5 : b + 5 ≤ g := by rcases hl with e | e; exact hq5 g e; omega
  have hk : ∀ k, k < w.heap.size → vq.ownBlock ≠ some k → w'.heap[k]? = w.heap[k]? := fun k hk hne => hg.block k hk (fun e => hne e.symm)
  have hlow : ∀ k, k < b + 5 → w'.heap[k]? = w.heap[k]? := fun k hkb => hk k (by omega) (fun e => by have := hq5 k e; omega)
  have hset : ∀ k, k ≠ b + 4 → (w'.setCell ⟨b + 4, 0, none⟩ (.slice (some ⟨g, 0, none⟩) q'.length cap)).heap[k]? = w'.heap[k]? := fun k hne => Below.heap_setCell _ _ _ _ hne
  have hbq := (hlow (b + 4) (by omega)).trans h.bq
  refine ⟨⟨?_, (hset _ (by omega)).trans ((hlow _ (by omega)).trans h.bb), (hset _ (by omega)).trans ((hlow _ (by omega)).trans h.bo), (hset _ (by omega)).trans ((hlow _ (by omega)).trans h.bm), ?_, own_at h.oo (fun k e => ?_), own_at ho (fun k e => ?_), h.mp.frame ((hset _ (by omega)).trans (hlow _ (by omega))), fun k e e' => ?_⟩, blk_cell hbq 0, blk_free hbq 0⟩
  · refine (h.bel.trans ⟨hg.os, hg.tape, hg.output, hg.size, fun k hk' => hlow k (by omega)⟩).setCell (p := ⟨b + 4, 0, none⟩) (by show b ≤ b + 4; omega) _
  · rw [blk_set (i := 0) hbq]; rfl
  · have h1 := h.oo.lt k e
    exact (hset k (by omega)).trans (hk k h1.2 (h.ap k e))
  · have e' : g = k := Option.some.inj e
    exact hset k (by omega)
  · have e1 : g = k := Option.some.inj e'
    rcases hl with h1 | h1
    · exact h.ap k e (by rw [h1, e1])
    · have := (h.oo.lt k e).2; omega
theorem SM.pushO (h : SM b w0 v vo vq out q mq w) {g cap n' : Nat} {out' : List Int} (hn : out'.length = n') (ho : w'.ownsRow (b + 5) 46 1 (.slice (some ⟨g, 0, none⟩) n' cap) n' (uz out')) (hg : w.grownBy w' vo.ownBlock) (hl : vo.ownBlock = some g ∨ g = w.heap.size) :
    SM b w0 v (.slice (some ⟨g, 0, none⟩) n' cap) vq out' q mq (w'.setCell ⟨b + 1, 0, none⟩ (.slice (some ⟨g, 0, none⟩) n' cap)) ∧ w'.cell? ⟨b + 1, 0, none⟩ = some vo ∧ w'.frozen? ⟨b + 1, 0, none⟩ = false := by
  subst hn
  have hs := h.size
  have hs2 := hg.size
  have hq5 : ∀ k, vo.ownBlock = some k → b + 5 ≤ k := fun k e => (h.oo.lt k e).1
  have hg5 : b + 5 ≤ g := by rcases hl with e | e; exact hq5 g e; omega
  have hk : ∀ k, k < w.heap.size → vo.ownBlock ≠ some k → w'.heap[k]? = w.heap[k]? := fun k hk hne => hg.block k hk (fun e => hne e.symm)
  have hlow : ∀ k, k < b + 5 → w'.heap[k]? = w.heap[k]? := fun k hkb => hk k (by omega) (fun e => by have := hq5 k e; omega)
  have hset : ∀ k, k ≠ b + 1 → (w'.setCell ⟨b + 1, 0, none⟩ (.slice (some ⟨g, 0, none⟩) out'.length cap)).heap[k]? = w'.heap[k]? := fun k hne => Below.heap_setCell _ _ _ _ hne
  have hbo := (hlow (b + 1) (by omega)).trans h.bo
  refine ⟨⟨?_, (hset _ (by omega)).trans ((hlow _ (by omega)).trans h.bb), ?_, (hset _ (by omega)).trans ((hlow _ (by omega)).trans h.bm), (hset _ (by omega)).trans ((hlow _ (by omega)).trans h.bq), own_at ho (fun k e => ?_), own_at h.oq (fun k e => ?_), h.mp.frame ((hset _ (by omega)).trans (hlow _ (by omega))), fun k e e' => ?_⟩, blk_cell hbo 0, blk_free hbo 0⟩
  · refine (h.bel.trans ⟨hg.os, hg.tape, hg.output, hg.size, fun k hk' => hlow k (by omega)⟩).setCell (p := ⟨b + 1, 0, none⟩) (by show b ≤ b + 1; omega) _
  · rw [blk_set (i := 0) hbo]; rfl
  · have e' : g = k := Option.some.inj e
    exact hset k (by omega)
  · have h1 := h.oq.lt k e
    exact (hset k (by omega)).trans (hk k h1.2 (fun e2 => h.ap k e2 e))
  · have e1 : g = k := Option.some.inj e
    rcases hl with h1 | h1
    · exact h.ap g h1 (by rw [e1]; exact e')
    · have := (h.oq.lt k e').2; omega
end
end Go.Proofs.Ythgkonjglappjaa
