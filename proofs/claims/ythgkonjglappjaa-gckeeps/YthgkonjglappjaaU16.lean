/-
  Walk: stray.
-/
import Derived.Test.YthgkonjglappjaaU6
import Derived.Test.YthgkonjglappjaaX3
set_option linter.unusedVariables false
set_option linter.unusedSimpArgs false
set_option maxRecDepth 100000
namespace Go.Proofs.Ythgkonjglappjaa
open Go.RowKit

def fc (f : Fd) : List Value := [.bool f.is, .int .i64 f.to, .int .u64 f.w]
def fz (fs : List Fd) : List Value := fs.flatMap fc
theorem fz_append (a b : List Fd) : fz (a ++ b) = fz a ++ fz b := by unfold fz; rw [List.flatMap_append]
theorem fz_length (fs : List Fd) : (fz fs).length = fs.length * 3 := by
  induction fs with
  | nil => rfl
  | cons f l ih =>
    have : fz (f :: l) = fc f ++ fz l := rfl
    rw [this, List.length_append, ih, List.length_cons]; simp [fc]; omega
theorem fz_get {fs : List Fd} {i r : Nat} (hi : i < fs.length) (hr : r < 3) : (fz fs)[i * 3 + r]? = (fc (fs.getD i default))[r]? := by
  induction fs generalizing i with
  | nil => simp at hi
  | cons f l ih =>
    have e : fz (f :: l) = fc f ++ fz l := rfl
    rw [e]
    cases i with
    | zero => rw [List.getElem?_append_left (by simp [fc]; omega)]; simp
    | succ i =>
      rw [List.getElem?_append_right (by simp [fc]; omega)]
      have : (i + 1) * 3 + r - (fc f).length = i * 3 + r := by simp [fc]; omega
      rw [this, ih (by simpa using hi)]; rfl
theorem info_field : (Try.prog.info? 64).map (fun i => (i.zero, i.size, i.bytes)) = some (some (.agg #[.bool false, .int .i64 0, .int .u64 0]), 3, 24) := by kernel_rfl
/-- 'append(fields, more...)' in plain code. -/
theorem appF {P : Program} {w : World} {ops : Array Oper} {rest : List Oper} {o : Oper} {a : Act} {Q : Exit → Act → World → Prop} (hgd : o.guard = none) (s x : Operand) (t : TypeId) (ho : o.op = .call { callee := .builtin .append, args := #[s, x], argTypes := #[t, t] })
    (base : Nat) (e : TypeId) (ht : P.underlying t = some (.slice e)) (hi : (P.info? e).map (fun i => (i.zero, i.size, i.bytes)) = some (some (.agg #[.bool false, .int .i64 0, .int .u64 0]), 3, 24))
    (v : Value) (n : Nat) (l : List Fd) (hs : a.eval s = v) (hown : w.ownsRow base e 3 v n (fz l))
    (ao : Option Addr) (m c : Nat) (r : List Fd) (hx : a.eval x = .slice ao m c) (hr : FRow w ao m c r) (hsm : n + m ≤ 1000000) (hbase : base ≤ w.heap.size)
    (h : ∀ v' w', w'.ownsRow base e 3 v' (n + m) (fz (l ++ r)) → w.grownBy w' v.ownBlock → wpList P ops Q rest (a.put o.dst v') w') : wpList P ops Q (o :: rest) a w :=
  wpList_plain hgd fun K hK => by
    obtain ⟨i0, hi0, hz0, hz1, hz2⟩ : ∃ i0, P.info? e = some i0 ∧ i0.zero = some (.agg #[.bool false, .int .i64 0, .int .u64 0]) ∧ i0.size = 3 ∧ i0.bytes = 24 := by
      cases h : P.info? e with
      | none => rw [h] at hi; cases hi
      | some i => rw [h] at hi; simp at hi; exact ⟨i, rfl, hi.1, hi.2.1, hi.2.2⟩
    cases ao with
    | none =>
      have hc := hr.nil_ rfl
      subst hc
      have hm : m = 0 := by have := hr.fits; omega
      subst hm
      have hl2 : r = [] := List.length_eq_zero_iff.1 hr.len
      subst hl2
      have hrun := run_append_owned_none (P := P) (w := w) base t o.type e i0 3 ht hi0 v n (fz l) hown
      unfold Oper.wp
      simp [execOp, ho, resolve, invoke, builtin, hs, hx, hrun, Result.andThen]
      exact hK _ _ (h v w (by simpa using hown) ⟨rfl, rfl, rfl, Nat.le_refl _, fun _ _ _ => rfl⟩)
    | some ad =>
      refine wp_append_own w s x t ho base e i0 (.agg #[.bool false, .int .i64 0, .int .u64 0]) 3 24 ht hi0 hz0 hz1 hz2 rfl (by decide) v n (fz l) hs hown ad m c (fz r) hx (by rw [fz_length, hr.len]) ?_ ?_ (by unfold maxLen; omega) (by omega) hbase ?_
      · intro j u hj
        have hjl : j < r.length * 3 := by
          have := (List.getElem?_eq_some_iff.1 hj).1
          rwa [fz_length] at this
        obtain ⟨b, o', hao, _, hc⟩ := hr.some (by have := hr.len; omega)
        cases hao
        have hq := hc (j / 3) (by have := hr.len; omega)
        have hj2 := fz_get (fs := r) (i := j / 3) (r := j % 3) (by omega) (by omega)
        rw [show j / 3 * 3 + j % 3 = j by omega, hj] at hj2
        have key : w.cell? ⟨b, o' + j, none⟩ = some u := by
          rw [hj2]
          have h3 : j % 3 = 0 ∨ j % 3 = 1 ∨ j % 3 = 2 := by omega
          rcases h3 with e | e | e
          · rw [e, show o' + j = o' + j / 3 * 3 by omega]; exact hq.1
          · rw [e, show o' + j = o' + j / 3 * 3 + 1 by omega]; exact hq.2.1
          · rw [e, show o' + j = o' + j / 3 * 3 + 2 by omega]; exact hq.2.2
        unfold Addr.add
        by_cases hj0 : j = 0
        · subst hj0; simpa using key
        · rw [if_neg hj0]; exact key
      · intro u hu
        unfold fz at hu
        obtain ⟨z, _, hz⟩ := List.mem_flatMap.1 hu
        simp [fc] at hz
        rcases hz with rfl | rfl | rfl <;> rfl
      · intro v' w' h1 h2 _
        rw [← fz_append] at h1
        exact hK _ _ (h v' w' h1 h2)
theorem frow_own {w : World} {B : Nat} {e : TypeId} {v : Value} {l : List Fd} (h : w.ownsRow B e 3 v l.length (fz l)) (hb : ∀ f ∈ l, FOk f) : ∃ ao cap, v = .slice ao l.length cap ∧ FRow w ao l.length cap l := by
  rcases h.2 with ⟨h0, h1⟩ | ⟨g, cap, cur, h1, h2, h3, h4, h5, h6, h7⟩
  · have hl : l = [] := List.length_eq_zero_iff.1 h1
    subst hl
    exact ⟨none, 0, h0, rfl, Nat.le_refl _, by unfold maxLen; omega, fun _ => rfl, fun _ h => (by cases h), .inl rfl⟩
  · refine ⟨some ⟨g, 0, none⟩, cap, h1, rfl, h4, h5, fun e => (by cases e), hb, ?_⟩
    refine .inr ⟨g, 0, rfl, (Array.getElem?_eq_some_iff.1 h3).1, fun i hi => ?_⟩
    have key : ∀ j, j < 3 → w.cell? ⟨g, 0 + i * 3 + j, none⟩ = (fc (l.getD i default))[j]? := fun j hj => by
      rw [blk_cell h3, ← fz_get hi hj, ← h7, List.getElem?_take, if_pos (by omega), Nat.zero_add]; simp
    exact ⟨key 0 (by omega), key 1 (by omega), key 2 (by omega)⟩
end Go.Proofs.Ythgkonjglappjaa
