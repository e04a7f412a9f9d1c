/-
  Walks, of the document's heap: New, Fill.
-/
import Derived.Test.YthgkonjglappjabV4
set_option linter.unusedVariables false
set_option linter.unusedSimpArgs false
set_option maxRecDepth 100000
namespace Go.Proofs.Ythgkonjglappjab
open Go.RowKit

/-- 'append(words, more...)' in plain code. -/
theorem appU {P : Program} {w : World} {ops : Array Oper} {rest : List Oper} {o : Oper} {a : Act} {Q : Exit → Act → World → Prop} (hgd : o.guard = none) (s x : Operand) (t : TypeId) (ho : o.op = .call { callee := .builtin .append, args := #[s, x], argTypes := #[t, t] })
    (base : Nat) (e : TypeId) (ht : P.underlying t = some (.slice e)) (hi : (P.info? e).map (fun i => (i.zero, i.size, i.bytes)) = some (some (.int .u64 0), 1, 8))
    (v : Value) (n : Nat) (l : List Int) (hs : a.eval s = v) (hown : w.ownsRow base e 1 v n (uz l))
    (ao : Option Addr) (m c : Nat) (r : List Int) (hx : a.eval x = .slice ao m c) (hr : URow w ao m c r) (hsm : n + m ≤ 1099511627776) (hbase : base ≤ w.heap.size)
    (h : ∀ v' w', w'.ownsRow base e 1 v' (n + m) (uz (l ++ r)) → w.grownBy w' v.ownBlock → wpList P ops Q rest (a.put o.dst v') w') : wpList P ops Q (o :: rest) a w :=
  wpList_plain hgd fun K hK => by
    have := stepU (P := P) (w := w) (ops := ops) (o := o) (a := a) (K := K) (Q := Q) (E := False) o.dst rfl hgd s x t ho base e ht hi v n l hs hown ao m c r hx hr hsm hbase (fun v' w' h1 h2 => hK _ _ (h v' w' h1 h2))
    have hw : Region.wanted o (yielded ops a.tmps) = true := by simp [Region.wanted, hgd]
    rw [if_pos hw] at this
    exact this
theorem urow_one {w : World} {g : Nat} {z : Int} {t : TypeId} (h : w.heap[g]? = some (.cells #[.int .u64 z] t (0, 0))) (hz : U64 z) : URow w (some ⟨g, 0, none⟩) 1 1 [z] :=
  ⟨rfl, Nat.le_refl _, by unfold maxLen; omega, fun e => (by cases e), fun y hy => by simp at hy; rw [hy]; exact hz, .inr ⟨g, 0, rfl, (Array.getElem?_eq_some_iff.1 h).1, fun i hi => by
    have : i = 0 := by simpa using hi
    subst this
    exact blk_cell h 0⟩⟩
theorem urow_own {w : World} {B : Nat} {e : TypeId} {v : Value} {l : List Int} (h : w.ownsRow B e 1 v l.length (uz l)) (hb : ∀ z ∈ l, U64 z) : ∃ ao cap, v = .slice ao l.length cap ∧ URow w ao l.length cap l := by
  rcases h.2 with ⟨rfl, h0⟩ | ⟨g, cap, cur, rfl, h2, h3, h4, h5, h6, h7⟩
  · have : l = [] := List.length_eq_zero_iff.1 h0
    subst this
    exact ⟨none, 0, rfl, rfl, Nat.le_refl _, by unfold maxLen; omega, fun _ => rfl, hb, .inl rfl⟩
  · refine ⟨some ⟨g, 0, none⟩, cap, rfl, rfl, h4, h5, fun e => (by cases e), hb, .inr ⟨g, 0, rfl, (Array.getElem?_eq_some_iff.1 h3).1, fun i hi => ?_⟩⟩
    rw [Nat.zero_add, blk_cell h3]
    have : cur[i]? = (uz l)[i]? := by rw [← h7, List.getElem?_take, if_pos (by omega)]; simp
    rw [this, uz_get hi]

/-- What Fill answers; the objects behind it. -/
def fillM (os : List Ob) (N kind n z : Int) : Int × Int :=
  if kind < 1 ∨ 22 < kind then (0, 70) else if n < 0 ∨ 4194304 < n ∨ isHd z = true then (0, 1) else allocM os N kind (List.replicate n.toNat z)
def fillO (os : List Ob) (N kind n z : Int) : List Ob := if (fillM os N kind n z).2 = 0 then os ++ [⟨kind, List.replicate n.toNat z⟩] else os
end Go.Proofs.Ythgkonjglappjab
