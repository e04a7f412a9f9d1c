/-
  Walk: made, whole.
-/
import Derived.Test.YthgkonjglappjabU6
import Derived.Test.YthgkonjglappjabV12
import Derived.Test.YthgkonjglappjabV9g
set_option linter.unusedVariables false
set_option linter.unusedSimpArgs false
set_option maxRecDepth 100000
namespace Go.Proofs.Ythgkonjglappjab
open Go.RowKit

/-- 'append(words, z)' of a row that the call owns. -/
theorem appW {P : Program} {w : World} {ops : Array Oper} {rest : List Oper} {o : Oper} {a : Act} {Q : Exit → Act → World → Prop} (hgd : o.guard = none) (s x : Operand) (t : TypeId) (ho : o.op = .call { callee := .builtin .append, args := #[s, x], argTypes := #[t, t] })
    (base : Nat) (e : TypeId) (ht : P.underlying t = some (.slice e)) (hi : (P.info? e).map (fun i => (i.zero, i.size, i.bytes)) = some (some (.int .u64 0), 1, 8))
    (v : Value) (n : Nat) (l : List Int) (hs : a.eval s = v) (hown : w.ownsRow base e 1 v n (uz l))
    (ad : Addr) (c : Nat) (d : Int) (hx : a.eval x = .slice (some ad) 1 c) (hd : w.cell? ad = some (.int .u64 d)) (hsm : n ≤ 1000000) (hbase : base ≤ w.heap.size)
    (h : ∀ g cap w', w'.ownsRow base e 1 (.slice (some ⟨g, 0, none⟩) (n + 1) cap) (n + 1) (uz (l ++ [d])) → w.grownBy w' v.ownBlock → (v.ownBlock = some g ∨ g = w.heap.size) → g < w'.heap.size → wpList P ops Q rest (a.put o.dst (.slice (some ⟨g, 0, none⟩) (n + 1) cap)) w') :
    wpList P ops Q (o :: rest) a w := by
  obtain ⟨i0, hi0, hz0, hz1, hz2⟩ : ∃ i0, P.info? e = some i0 ∧ i0.zero = some (.int .u64 0) ∧ i0.size = 1 ∧ i0.bytes = 8 := by
    cases h : P.info? e with
    | none => rw [h] at hi; cases hi
    | some i => rw [h] at hi; simp at hi; exact ⟨i, rfl, hi.1, hi.2.1, hi.2.2⟩
  refine wpList_append_lies w hgd s x t ho base e i0 (.int .u64 0) 1 8 ht hi0 hz0 hz1 hz2 rfl (by decide) v n (uz l) hs hown ad 1 c [.int .u64 d] hx rfl ?_ ?_ (by decide) (by unfold maxLen; omega) (by omega) hbase w.heap.size rfl ?_
  · intro j u hj
    match j, hj with
    | 0, hj => simp at hj; subst hj; simpa [Addr.add] using hd
  · intro u hu; simp at hu; subst hu; rfl
  · intro g cap w' h1 h2 h3 h4
    refine h g cap w' ?_ h2 h3 h4
    rw [uz_append]; exact h1

section
variable {B ga g : Nat} {v : Value} {os os' : List Ob} {l : List Int} {F F' : Nat → Prop} {vL vL' : Value} {ls ls' : List (Ob × Sl)} {vA : Value} {w w1 w2 : World}
end
theorem fill_is {os : List Ob} {kind n : Int} (hk : 1 ≤ kind ∧ kind ≤ 22) (hn : 0 ≤ n ∧ n ≤ 4000) (hr : (usedL os : Int) + (1 + n) ≤ 4000) : fillM os 4000 kind n 2 = (wordR 2 (usedL os : Nat) 0, 0) ∧ fillO os 4000 kind n 2 = os ++ [⟨kind, List.replicate n.toNat 2⟩] := by
  have h2 : isHd 2 = false := by decide
  have e : fillM os 4000 kind n 2 = (wordR 2 (usedL os : Nat) 0, 0) := by
    unfold fillM
    rw [if_neg (by omega), if_neg (by rw [h2]; simp; omega)]
    unfold allocM
    rw [if_neg (by omega), if_neg (by simp [h2]), if_neg (by rw [List.length_replicate]; omega)]
  refine ⟨e, ?_⟩
  unfold fillO
  rw [e]; rfl
theorem blank_take {xs : List Oj} {q : Nat} (h : q < xs.length) : blankL (xs.take (q + 1)) = blankL (xs.take q) ++ [blankO (xs.getD q default)] := by
  unfold blankL
  rw [List.take_succ_eq_append_getElem h, List.map_append, List.getD_eq_getElem?_getD, List.getElem?_eq_getElem h]; rfl
theorem ats_take {xs : List Oj} {q : Nat} (h : q < xs.length) : (atsL xs).take (q + 1) = (atsL xs).take q ++ [wordR 2 (usedL (blankL (xs.take q)) : Nat) 0] := by
  rw [List.take_succ_eq_append_getElem (by rw [atsL_len]; exact h)]
  congr 2
  have := atsL_get h
  rw [List.getD_eq_getElem?_getD, List.getElem?_eq_getElem (by rw [atsL_len]; exact h)] at this
  rw [Option.getD_some] at this
  rw [this]
  unfold atO blankL
  rw [List.map_take]
end Go.Proofs.Ythgkonjglappjab

set_option linter.unusedVariables false
set_option linter.unusedSimpArgs false
set_option maxRecDepth 100000
namespace Go.Proofs.Ythgkonjglappjab
open Go.RowKit

theorem cell_same {w w' : World} {b o : Nat} (h : w'.heap[b]? = w.heap[b]?) : w'.cell? ⟨b, o, none⟩ = w.cell? ⟨b, o, none⟩ := by
  unfold World.cell?; simp only [h]
theorem results_tmp4 {fn : Func} {t u v x : Tmp} (h : fn.results = #[.tmp t, .tmp u, .tmp v, .tmp x]) (tmps : Array Value) (P : Program) (w : World) :
    (results fn tmps).run P w = .ok (.tuple #[tmps.getD t undef, tmps.getD u undef, tmps.getD v undef, tmps.getD x undef]) w := by
  simp [results, h]
end Go.Proofs.Ythgkonjglappjab
