/-
  Walks, of the document's heap: Alloc.
-/
import Derived.Test.YthgkonjglappjabV3
set_option linter.unusedVariables false
set_option linter.unusedSimpArgs false
set_option maxRecDepth 100000
namespace Go.Proofs.Ythgkonjglappjab
open Go.RowKit

/-- Words that are read. -/
structure URow (w : World) (ao : Option Addr) (n cap : Nat) (l : List Int) : Prop where
  len : l.length = n
  fits : n ≤ cap
  most : cap ≤ maxLen
  nil_ : ao = none → cap = 0
  bd : ∀ z ∈ l, U64 z
  rd : l = [] ∨ ∃ b o, ao = some ⟨b, o, none⟩ ∧ b < w.heap.size ∧ ∀ i, i < l.length → w.cell? ⟨b, o + i, none⟩ = some (.int .u64 (l.getD i 0))
theorem URow.some {w : World} {ao : Option Addr} {n cap : Nat} {l : List Int} (h : URow w ao n cap l) (hl : 0 < n) :
    ∃ b o, ao = Option.some ⟨b, o, none⟩ ∧ b < w.heap.size ∧ ∀ i, i < n → w.cell? ⟨b, o + i, none⟩ = Option.some (.int .u64 (l.getD i 0)) := by
  rcases h.rd with e | h2
  · have := h.len; simp [e] at this; omega
  · rw [h.len] at h2; exact h2
theorem URow.keep {w w' : World} {ao : Option Addr} {n cap : Nat} {l : List Int} (h : URow w ao n cap l) (hs : w.heap.size ≤ w'.heap.size) (hb : l ≠ [] → ∀ a, ao = Option.some a → w'.heap[a.block]? = w.heap[a.block]?) : URow w' ao n cap l := by
  refine ⟨h.len, h.fits, h.most, h.nil_, h.bd, ?_⟩
  rcases h.rd with e | ⟨b, o, e, h1, h2⟩
  · exact .inl e
  · exact .inr ⟨b, o, e, Nat.lt_of_lt_of_le h1 hs, fun i hi => (World.cell?_of_block (a := ⟨b, o + i, none⟩) (hb (fun e' => by rw [e'] at hi; simp at hi) ⟨b, o, none⟩ e)).trans (h2 i hi)⟩
theorem URow.on {w w' : World} {ao : Option Addr} {n cap : Nat} {l : List Int} (h : URow w ao n cap l) (hb : Below w.heap.size w w') : URow w' ao n cap l := by
  refine ⟨h.len, h.fits, h.most, h.nil_, h.bd, ?_⟩
  rcases h.rd with e | ⟨b, o, e, h1, h2⟩
  · exact .inl e
  · exact .inr ⟨b, o, e, Nat.lt_of_lt_of_le h1 hb.size, fun i hi => (hb.cell (p := ⟨b, o + i, none⟩) h1).trans (h2 i hi)⟩
theorem info_word : (Try.prog.info? 32).map (fun i => (i.zero, i.size, i.bytes)) = some (some (.int .u64 0), 1, 8) := by kernel_rfl
section
variable {P : Program} {w : World} {ops : Array Oper} {o : Oper} {a : Act} {K : Act → World → Prop} {Q : Exit → Act → World → Prop} {E : Prop}
/-- 'append(words, more...)' as a step, onto an empty row. -/
theorem stepU (dst : Option Nat) (hdst : o.dst = dst) (hgd : o.guard = none) (s x : Operand) (t : TypeId) (ho : o.op = .call { callee := .builtin .append, args := #[s, x], argTypes := #[t, t] })
    (base : Nat) (e : TypeId) (ht : P.underlying t = some (.slice e)) (hi : (P.info? e).map (fun i => (i.zero, i.size, i.bytes)) = some (some (.int .u64 0), 1, 8))
    (v : Value) (n : Nat) (l : List Int) (hs : a.eval s = v) (hown : w.ownsRow base e 1 v n (uz l))
    (ao : Option Addr) (m c : Nat) (r : List Int) (hx : a.eval x = .slice ao m c) (hr : URow w ao m c r) (hsm : n + m ≤ 1099511627776) (hbase : base ≤ w.heap.size)
    (h : ∀ v' w', w'.ownsRow base e 1 v' (n + m) (uz (l ++ r)) → w.grownBy w' v.ownBlock → K (a.put dst v') w') :
    if Region.wanted o (yielded ops a.tmps) = true then Oper.wp P o a w K Q else E := by
  subst hdst
  have hw : Region.wanted o (yielded ops a.tmps) = true := by simp [Region.wanted, hgd]
  rw [if_pos hw]
  obtain ⟨i0, hi0, hz0, hz1, hz2⟩ : ∃ i0, P.info? e = some i0 ∧ i0.zero = some (.int .u64 0) ∧ i0.size = 1 ∧ i0.bytes = 8 := by
    cases h : P.info? e with
    | none => rw [h] at hi; cases hi
    | some i => rw [h] at hi; simp at hi; exact ⟨i, rfl, hi.1, hi.2.1, hi.2.2⟩
  cases ao with
  | none =>
    have hc := hr.nil_ rfl
    subst hc
    have hm : m = 0 := by have := hr.fits; omega
    subst hm
    have hl2 : r = [] := List.length_eq_zero_iff.1 hr.len
    subst hl2
    have hrun := run_append_owned_none (P := P) (w := w) base t o.type e i0 1 ht hi0 v n (uz l) hown
    unfold Oper.wp
    simp [execOp, ho, resolve, invoke, builtin, hs, hx, hrun, Result.andThen]
    exact h v w (by simpa using hown) ⟨rfl, rfl, rfl, Nat.le_refl _, fun _ _ _ => rfl⟩
  | some ad =>
    refine wp_append_own w s x t ho base e i0 (.int .u64 0) 1 8 ht hi0 hz0 hz1 hz2 rfl (by decide) v n (uz l) hs hown ad m c (uz r) hx (by rw [uz_length, hr.len]; omega) ?_ ?_ (by unfold maxLen; omega) (by omega) hbase ?_
    · intro j u hj
      have hjl : j < r.length := by
        have := (List.getElem?_eq_some_iff.1 hj).1
        rwa [uz_length] at this
      rw [uz_get hjl] at hj
      cases hj
      obtain ⟨b, o', hao, _, hc⟩ := hr.some (by have := hr.len; omega)
      cases hao
      have := hc j (by have := hr.len; omega)
      unfold Addr.add
      by_cases hj0 : j = 0
      · subst hj0; simpa using this
      · rw [if_neg hj0]; exact this
    · intro u hu
      unfold uz at hu
      obtain ⟨z, _, rfl⟩ := List.mem_map.1 hu
      rfl
    · intro v' w' h1 h2 _
      rw [← uz_append] at h1
      exact h v' w' h1 h2
/-- 'append(objects, x)' as a step. -/
theorem stepO (dst : Option Nat) (hdst : o.dst = dst) (hgd : o.guard = none) (s x : Operand) (t : TypeId) (ho : o.op = .call { callee := .builtin .append, args := #[s, x], argTypes := #[t, t] })
    (base : Nat) (e : TypeId) (ht : P.underlying t = some (.slice e)) (hi : (P.info? e).map (fun i => (i.zero, i.size, i.bytes)) = some (some (.agg #[.int .i64 0, .int .i64 0, .slice none 0 0]), 3, 40))
    (v : Value) (n : Nat) (xs : List Value) (hs : a.eval s = v) (hown : w.ownsRow base e 3 v n xs)
    (g0 c : Nat) (at_ : Nat) (d : Ob × Sl) (hx : a.eval x = .slice (some ⟨g0, 0, none⟩) 1 c) (hd : ∀ j u, (oc at_ d)[j]? = some u → w.cell? ⟨g0, j, none⟩ = some u) (hsm : n ≤ 1099511627776) (hbase : base ≤ w.heap.size)
    (h : ∀ g cap w', w'.ownsRow base e 3 (.slice (some ⟨g, 0, none⟩) (n + 1) cap) (n + 1) (xs ++ oc at_ d) → w.grownBy w' v.ownBlock → (v.ownBlock = some g ∨ g = w.heap.size) → g < w'.heap.size → K (a.put dst (.slice (some ⟨g, 0, none⟩) (n + 1) cap)) w') :
    if Region.wanted o (yielded ops a.tmps) = true then Oper.wp P o a w K Q else E := by
  subst hdst
  have hw : Region.wanted o (yielded ops a.tmps) = true := by simp [Region.wanted, hgd]
  rw [if_pos hw]
  obtain ⟨i0, hi0, hz0, hz1, hz2⟩ : ∃ i0, P.info? e = some i0 ∧ i0.zero = some (.agg #[.int .i64 0, .int .i64 0, .slice none 0 0]) ∧ i0.size = 3 ∧ i0.bytes = 40 := by
    cases h : P.info? e with
    | none => rw [h] at hi; cases hi
    | some i => rw [h] at hi; simp at hi; exact ⟨i, rfl, hi.1, hi.2.1, hi.2.2⟩
  refine wp_append_lies w s x t ho base e i0 _ 3 40 ht hi0 hz0 hz1 hz2 rfl (by decide) v n xs hs hown ⟨g0, 0, none⟩ 1 c (oc at_ d) hx rfl ?_ ?_ (by decide) (by unfold maxLen; omega) (by omega) hbase w.heap.size rfl h
  · intro j u hj
    have := hd j u hj
    unfold Addr.add
    by_cases hj0 : j = 0
    · subst hj0; simpa using this
    · rw [if_neg hj0]; simpa using this
  · intro u hu; simp [oc] at hu; rcases hu with rfl | rfl | rfl <;> rfl
end
def La (s : Nat × Bool) : Array Bool := #[true, true, true, true, s.2, true, true, decide (1 ≤ s.1), true, decide (2 ≤ s.1), decide (3 ≤ s.1), decide (4 ≤ s.1), false, false, false, false]
def Ma (s : Nat × Bool) : Nat := (4 - s.1) + (if s.2 then 0 else 1)
theorem uown_on {w w' : World} {base : Nat} {e : TypeId} {k : Nat} {v : Value} {n : Nat} {xs : List Value} (h : w.ownsRow base e k v n xs) (hb : Below w.heap.size w w') : w'.ownsRow base e k v n xs := own_at h (fun b e => hb.block b (h.lt b e).2)
section
variable {W wx wy : World} {vL : Value} {am : Nat} {kd : Int} {fl : List Int} {k : Nat} {al : Bool} {t39 t42 t44 t45 t46 : Value}
end
theorem own_weak {w : World} {base B : Nat} {e : TypeId} {k : Nat} {v : Value} {n : Nat} {xs : List Value} (h : w.ownsRow base e k v n xs) (hb : B ≤ base) : w.ownsRow B e k v n xs := by
  refine ⟨h.1, ?_⟩
  rcases h.2 with h0 | ⟨g, cap, cur, h1, h2, h3⟩
  · exact .inl h0
  · exact .inr ⟨g, cap, cur, h1, Nat.le_trans hb h2, h3⟩
def isHd (z : Int) : Bool := decide ((ofR z).1 = 8)
/-- What Alloc answers; the objects behind it. -/
def allocM (os : List Ob) (N kind : Int) (fl : List Int) : Int × Int :=
  if kind < 1 ∨ 22 < kind then (0, 70) else if fl.any isHd then (0, 1) else if N - (usedL os : Nat) < 1 + (fl.length : Nat) then (0, 3) else (wordR 2 (usedL os : Nat) 0, 0)
def allocO (os : List Ob) (N kind : Int) (fl : List Int) : List Ob := if (allocM os N kind fl).2 = 0 then os ++ [⟨kind, fl⟩] else os
theorem any_take {fl : List Int} {q : Nat} (h : (fl.take q).any isHd = false) (hq : q < fl.length) (hz : isHd (fl.getD q 0) = false) : (fl.take (q + 1)).any isHd = false := by
  rw [List.take_succ_eq_append_getElem hq, List.any_append, h]
  rw [List.getD_eq_getElem?_getD, List.getElem?_eq_getElem hq] at hz
  simp only [Option.getD_some] at hz
  simp [hz]
theorem any_at {fl : List Int} {q : Nat} (hq : q < fl.length) (hz : isHd (fl.getD q 0) = true) : fl.any isHd = true := by
  rw [List.getD_eq_getElem?_getD, List.getElem?_eq_getElem hq] at hz
  exact List.any_eq_true.2 ⟨fl[q], List.getElem_mem hq, hz⟩
end Go.Proofs.Ythgkonjglappjab
