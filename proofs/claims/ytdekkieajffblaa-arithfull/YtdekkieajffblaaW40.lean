/-
  Walks, of the document's answer: digit.
-/
import Derived.Test.YtdekkieajffblaaV3
import Derived.Deep.AppendLies
import Derived.Test.YtdekkieajffblaaG4
import Derived.Test.YtdekkieajffblaaX1
import Derived.Test.YtdekkieajffblaaW20
import Derived.Test.YtdekkieajffblaaW15
import Derived.Test.YtdekkieajffblaaW7
import Derived.Laws.Bits128
set_option linter.unusedVariables false
set_option linter.unusedSimpArgs false
set_option maxRecDepth 100000
namespace Go.Proofs.Ytdekkieajffblaa
open Go.RowKit

/-- Words that are read. -/
structure URow (w : World) (ao : Option Addr) (n cap : Nat) (l : List Int) : Prop where
  len : l.length = n
  fits : n ≤ cap
  most : cap ≤ maxLen
  nil_ : ao = none → cap = 0
  bd : ∀ z ∈ l, U64 z
  rd : l = [] ∨ ∃ b o, ao = some ⟨b, o, none⟩ ∧ b < w.heap.size ∧ ∀ i, i < l.length → w.cell? ⟨b, o + i, none⟩ = some (.int .u64 (l.getD i 0))
theorem URow.some {w : World} {ao : Option Addr} {n cap : Nat} {l : List Int} (h : URow w ao n cap l) (hl : 0 < n) :
    ∃ b o, ao = Option.some ⟨b, o, none⟩ ∧ b < w.heap.size ∧ ∀ i, i < n → w.cell? ⟨b, o + i, none⟩ = Option.some (.int .u64 (l.getD i 0)) := by
  rcases h.rd with e | h2
  · have := h.len; simp [e] at this; omega
  · rw [h.len] at h2; exact h2
theorem URow.keep {w w' : World} {ao : Option Addr} {n cap : Nat} {l : List Int} (h : URow w ao n cap l) (hs : w.heap.size ≤ w'.heap.size) (hb : l ≠ [] → ∀ a, ao = Option.some a → w'.heap[a.block]? = w.heap[a.block]?) : URow w' ao n cap l := by
  refine ⟨h.len, h.fits, h.most, h.nil_, h.bd, ?_⟩
  rcases h.rd with e | ⟨b, o, e, h1, h2⟩
  · exact .inl e
  · exact .inr ⟨b, o, e, Nat.lt_of_lt_of_le h1 hs, fun i hi => (World.cell?_of_block (a := ⟨b, o + i, none⟩) (hb (fun e' => by rw [e'] at hi; simp at hi) ⟨b, o, none⟩ e)).trans (h2 i hi)⟩
theorem URow.on {w w' : World} {ao : Option Addr} {n cap : Nat} {l : List Int} (h : URow w ao n cap l) (hb : Below w.heap.size w w') : URow w' ao n cap l := by
  refine ⟨h.len, h.fits, h.most, h.nil_, h.bd, ?_⟩
  rcases h.rd with e | ⟨b, o, e, h1, h2⟩
  · exact .inl e
  · exact .inr ⟨b, o, e, Nat.lt_of_lt_of_le h1 hb.size, fun i hi => (hb.cell (p := ⟨b, o + i, none⟩) h1).trans (h2 i hi)⟩
theorem info_word : (Try.prog.info? 39).map (fun i => (i.zero, i.size, i.bytes)) = some (some (.int .u64 0), 1, 8) := by kernel_rfl
section
variable {P : Program} {w : World} {ops : Array Oper} {o : Oper} {a : Act} {K : Act → World → Prop} {Q : Exit → Act → World → Prop} {E : Prop}
/-- 'append(words, more...)' as a step, onto an empty row. -/
theorem stepU (dst : Option Nat) (hdst : o.dst = dst) (hgd : o.guard = none) (s x : Operand) (t : TypeId) (ho : o.op = .call { callee := .builtin .append, args := #[s, x], argTypes := #[t, t] })
    (base : Nat) (e : TypeId) (ht : P.underlying t = some (.slice e)) (hi : (P.info? e).map (fun i => (i.zero, i.size, i.bytes)) = some (some (.int .u64 0), 1, 8))
    (v : Value) (n : Nat) (l : List Int) (hs : a.eval s = v) (hown : w.ownsRow base e 1 v n (uz l))
    (ao : Option Addr) (m c : Nat) (r : List Int) (hx : a.eval x = .slice ao m c) (hr : URow w ao m c r) (hsm : n + m ≤ 1099511627776) (hbase : base ≤ w.heap.size)
    (h : ∀ v' w', w'.ownsRow base e 1 v' (n + m) (uz (l ++ r)) → w.grownBy w' v.ownBlock → K (a.put dst v') w') :
    if Region.wanted o (yielded ops a.tmps) = true then Oper.wp P o a w K Q else E := by
  subst hdst
  have hw : Region.wanted o (yielded ops a.tmps) = true := by simp [Region.wanted, hgd]
  rw [if_pos hw]
  obtain ⟨i0, hi0, hz0, hz1, hz2⟩ : ∃ i0, P.info? e = some i0 ∧ i0.zero = some (.int .u64 0) ∧ i0.size = 1 ∧ i0.bytes = 8 := by
    cases h : P.info? e with
    | none => rw [h] at hi; cases hi
    | some i => rw [h] at hi; simp at hi; exact ⟨i, rfl, hi.1, hi.2.1, hi.2.2⟩
  cases ao with
  | none =>
    have hc := hr.nil_ rfl
    subst hc
    have hm : m = 0 := by have := hr.fits; omega
    subst hm
    have hl2 : r = [] := List.length_eq_zero_iff.1 hr.len
    subst hl2
    have hrun := run_append_owned_none (P := P) (w := w) base t o.type e i0 1 ht hi0 v n (uz l) hown
    unfold Oper.wp
    simp [execOp, ho, resolve, invoke, builtin, hs, hx, hrun, Result.andThen]
    exact h v w (by simpa using hown) ⟨rfl, rfl, rfl, Nat.le_refl _, fun _ _ _ => rfl⟩
  | some ad =>
    refine wp_append_own w s x t ho base e i0 (.int .u64 0) 1 8 ht hi0 hz0 hz1 hz2 rfl (by decide) v n (uz l) hs hown ad m c (uz r) hx (by rw [uz_length, hr.len]; omega) ?_ ?_ (by unfold maxLen; omega) (by omega) hbase ?_
    · intro j u hj
      have hjl : j < r.length := by
        have := (List.getElem?_eq_some_iff.1 hj).1
        rwa [uz_length] at this
      rw [uz_get hjl] at hj
      cases hj
      obtain ⟨b, o', hao, _, hc⟩ := hr.some (by have := hr.len; omega)
      cases hao
      have := hc j (by have := hr.len; omega)
      unfold Addr.add
      by_cases hj0 : j = 0
      · subst hj0; simpa using this
      · rw [if_neg hj0]; exact this
    · intro u hu
      unfold uz at hu
      obtain ⟨z, _, rfl⟩ := List.mem_map.1 hu
      rfl
    · intro v' w' h1 h2 _
      rw [← uz_append] at h1
      exact h v' w' h1 h2
/-- 'append(objects, x)' as a step. -/
theorem stepO (dst : Option Nat) (hdst : o.dst = dst) (hgd : o.guard = none) (s x : Operand) (t : TypeId) (ho : o.op = .call { callee := .builtin .append, args := #[s, x], argTypes := #[t, t] })
    (base : Nat) (e : TypeId) (ht : P.underlying t = some (.slice e)) (hi : (P.info? e).map (fun i => (i.zero, i.size, i.bytes)) = some (some (.agg #[.int .i64 0, .int .i64 0, .slice none 0 0]), 3, 40))
    (v : Value) (n : Nat) (xs : List Value) (hs : a.eval s = v) (hown : w.ownsRow base e 3 v n xs)
    (g0 c : Nat) (at_ : Nat) (d : Ob × Sl) (hx : a.eval x = .slice (some ⟨g0, 0, none⟩) 1 c) (hd : ∀ j u, (oc at_ d)[j]? = some u → w.cell? ⟨g0, j, none⟩ = some u) (hsm : n ≤ 1099511627776) (hbase : base ≤ w.heap.size)
    (h : ∀ g cap w', w'.ownsRow base e 3 (.slice (some ⟨g, 0, none⟩) (n + 1) cap) (n + 1) (xs ++ oc at_ d) → w.grownBy w' v.ownBlock → (v.ownBlock = some g ∨ g = w.heap.size) → g < w'.heap.size → K (a.put dst (.slice (some ⟨g, 0, none⟩) (n + 1) cap)) w') :
    if Region.wanted o (yielded ops a.tmps) = true then Oper.wp P o a w K Q else E := by
  subst hdst
  have hw : Region.wanted o (yielded ops a.tmps) = true := by simp [Region.wanted, hgd]
  rw [if_pos hw]
  obtain ⟨i0, hi0, hz0, hz1, hz2⟩ : ∃ i0, P.info? e = some i0 ∧ i0.zero = some (.agg #[.int .i64 0, .int .i64 0, .slice none 0 0]) ∧ i0.size = 3 ∧ i0.bytes = 40 := by
    cases h : P.info? e with
    | none => rw [h] at hi; cases hi
    | some i => rw [h] at hi; simp at hi; exact ⟨i, rfl, hi.1, hi.2.1, hi.2.2⟩
  refine wp_append_lies w s x t ho base e i0 _ 3 40 ht hi0 hz0 hz1 hz2 rfl (by decide) v n xs hs hown ⟨g0, 0, none⟩ 1 c (oc at_ d) hx rfl ?_ ?_ (by decide) (by unfold maxLen; omega) (by omega) hbase w.heap.size rfl h
  · intro j u hj
    have := hd j u hj
    unfold Addr.add
    by_cases hj0 : j = 0
    · subst hj0; simpa using this
    · rw [if_neg hj0]; simpa using this
  · intro u hu; simp [oc] at hu; rcases hu with rfl | rfl | rfl <;> rfl
end
def La (s : Nat × Bool) : Array Bool := #[true, true, true, true, s.2, true, true, decide (1 ≤ s.1), true, decide (2 ≤ s.1), decide (3 ≤ s.1), decide (4 ≤ s.1), false, false, false, false]
def Ma (s : Nat × Bool) : Nat := (4 - s.1) + (if s.2 then 0 else 1)
theorem uown_on {w w' : World} {base : Nat} {e : TypeId} {k : Nat} {v : Value} {n : Nat} {xs : List Value} (h : w.ownsRow base e k v n xs) (hb : Below w.heap.size w w') : w'.ownsRow base e k v n xs := own_at h (fun b e => hb.block b (h.lt b e).2)
section
variable {W wx wy : World} {vL : Value} {am : Nat} {kd : Int} {fl : List Int} {k : Nat} {al : Bool} {t39 t42 t44 t45 t46 : Value}
end
theorem own_weak {w : World} {base B : Nat} {e : TypeId} {k : Nat} {v : Value} {n : Nat} {xs : List Value} (h : w.ownsRow base e k v n xs) (hb : B ≤ base) : w.ownsRow B e k v n xs := by
  refine ⟨h.1, ?_⟩
  rcases h.2 with h0 | ⟨g, cap, cur, h1, h2, h3⟩
  · exact .inl h0
  · exact .inr ⟨g, cap, cur, h1, Nat.le_trans hb h2, h3⟩
def isHd (z : Int) : Bool := decide ((ofR z).1 = 8)
/-- What Alloc answers; the objects behind it. -/
def allocM (os : List Ob) (N kind : Int) (fl : List Int) : Int × Int :=
  if kind < 1 ∨ 22 < kind then (0, 70) else if fl.any isHd then (0, 1) else if N - (usedL os : Nat) < 1 + (fl.length : Nat) then (0, 3) else (wordR 2 (usedL os : Nat) 0, 0)
def allocO (os : List Ob) (N kind : Int) (fl : List Int) : List Ob := if (allocM os N kind fl).2 = 0 then os ++ [⟨kind, fl⟩] else os
theorem any_take {fl : List Int} {q : Nat} (h : (fl.take q).any isHd = false) (hq : q < fl.length) (hz : isHd (fl.getD q 0) = false) : (fl.take (q + 1)).any isHd = false := by
  rw [List.take_succ_eq_append_getElem hq, List.any_append, h]
  rw [List.getD_eq_getElem?_getD, List.getElem?_eq_getElem hq] at hz
  simp only [Option.getD_some] at hz
  simp [hz]
theorem any_at {fl : List Int} {q : Nat} (hq : q < fl.length) (hz : isHd (fl.getD q 0) = true) : fl.any isHd = true := by
  rw [List.getD_eq_getElem?_getD, List.getElem?_eq_getElem hq] at hz
  exact List.any_eq_true.2 ⟨fl[q], List.getElem_mem hq, hz⟩
end Go.Proofs.Ytdekkieajffblaa

set_option linter.unusedVariables false
set_option linter.unusedSimpArgs false
set_option maxRecDepth 100000
namespace Go.Proofs.Ytdekkieajffblaa
open Go.RowKit

/-- Rows of numbers that are the call's own. -/
def iz (l : List Int) : List Value := l.map (Value.int .i64)
theorem iz_length (l : List Int) : (iz l).length = l.length := by simp [iz]
theorem iz_append (l r : List Int) : iz (l ++ r) = iz l ++ iz r := by simp [iz]
theorem info_iz : (Try.prog.info? 3).map (fun i => (i.zero, i.size, i.bytes)) = some (some (.int .i64 0), 1, 8) := by kernel_rfl
/-- 'append(numbers, x)'. -/
theorem appi {P : Program} {w : World} {ops : Array Oper} {rest : List Oper} {o : Oper} {a : Act} {Q : Exit → Act → World → Prop} (hgd : o.guard = none) (s x : Operand) (t : TypeId) (ho : o.op = .call { callee := .builtin .append, args := #[s, x], argTypes := #[t, t] })
    (base : Nat) (e : TypeId) (ht : P.underlying t = some (.slice e)) (hi : (P.info? e).map (fun i => (i.zero, i.size, i.bytes)) = some (some (.int .i64 0), 1, 8))
    (v : Value) (n : Nat) (l : List Int) (hs : a.eval s = v) (hown : w.ownsRow base e 1 v n (iz l))
    (ad : Addr) (c : Nat) (d : Int) (hx : a.eval x = .slice (some ad) 1 c) (hd : w.cell? ad = some (.int .i64 d)) (hsm : n ≤ 10000000) (hbase : base ≤ w.heap.size)
    (h : ∀ g cap w', w'.ownsRow base e 1 (.slice (some ⟨g, 0, none⟩) (n + 1) cap) (n + 1) (iz (l ++ [d])) → w.grownBy w' v.ownBlock → (v.ownBlock = some g ∨ g = w.heap.size) → g < w'.heap.size → wpList P ops Q rest (a.put o.dst (.slice (some ⟨g, 0, none⟩) (n + 1) cap)) w') :
    wpList P ops Q (o :: rest) a w := by
  obtain ⟨i0, hi0, hz0, hz1, hz2⟩ : ∃ i0, P.info? e = some i0 ∧ i0.zero = some (.int .i64 0) ∧ i0.size = 1 ∧ i0.bytes = 8 := by
    cases h : P.info? e with
    | none => rw [h] at hi; cases hi
    | some i => rw [h] at hi; simp at hi; exact ⟨i, rfl, hi.1, hi.2.1, hi.2.2⟩
  refine wpList_append_lies w hgd s x t ho base e i0 (.int .i64 0) 1 8 ht hi0 hz0 hz1 hz2 rfl (by decide) v n (iz l) hs hown ad 1 c [.int .i64 d] hx rfl ?_ ?_ (by decide) (by unfold maxLen; omega) (by omega) hbase w.heap.size rfl ?_
  · intro j u hj
    match j, hj with
    | 0, hj => simp at hj; subst hj; simpa [Addr.add] using hd
  · intro u hu; simp at hu; subst hu; rfl
  · intro g cap w' h1 h2 h3 h4
    refine h g cap w' ?_ h2 h3 h4
    rw [iz_append]; exact h1
end Go.Proofs.Ytdekkieajffblaa

set_option linter.unusedVariables false
set_option linter.unusedSimpArgs false
set_option maxRecDepth 100000
namespace Go.Proofs.Ytdekkieajffblaa
open Go.RowKit

/-- The letters of a text, from a place on. -/
def ltF (s : ByteArray) : Nat → Nat → List Int
  | 0, _ => []
  | f + 1, i => if i < s.size then ((runeD s i).1 : Int) :: ltF s f (i + max 1 (runeD s i).2) else []
def ltrs (s : ByteArray) : List Int := ltF s s.size 0
theorem ltF_len (s : ByteArray) : ∀ f i, (ltF s f i).length ≤ f
  | 0, _ => Nat.le_refl _
  | f + 1, i => by
    unfold ltF
    split
    · have := ltF_len s f (i + max 1 (runeD s i).2); simp; omega
    · simp
theorem ltrs_len (s : ByteArray) : (ltrs s).length ≤ s.size := ltF_len s _ _
end Go.Proofs.Ytdekkieajffblaa

set_option linter.unusedVariables false
set_option linter.unusedSimpArgs false
namespace Go.Proofs.Ytdekkieajffblaa
open Go.RowKit

theorem and_255n (t : Nat) (h : t < 9223372036854775808) : bits .and .i64 (t : Int) 255 = ((t % 256 : Nat) : Int) := by
  have h1 : (BitVec.ofInt 64 (t : Int)).toNat = t := by
    rw [BitVec.ofInt_natCast, BitVec.toNat_ofNat]; exact Nat.mod_eq_of_lt (by omega)
  show IntKind.i64.wrap ((BitVec.ofInt 64 (t : Int) &&& BitVec.ofInt 64 255).toNat : Int) = _
  rw [BitVec.toNat_and, h1]
  have h2 : (BitVec.ofInt 64 255).toNat = 2 ^ 8 - 1 := by decide
  rw [h2, Nat.and_two_pow_sub_one_eq_mod, IntKind.wrap_i64]
  omega

/-- What a byte says as a digit, as the document has it; -1: nothing. -/
def dgi (c : Nat) : Int := if dgt c = 36 then -1 else (dgt c : Int)

theorem cutS_sign {l : List Nat} {c : Nat} {r : List Nat} (h : l = c :: r) (hc : c = 43 ∨ c = 45) : cutS l = (decide (c = 45), r) := by
  subst h; simp [cutS, hc]
theorem cutS_plain {l : List Nat} {c : Nat} {r : List Nat} (h : l = c :: r) (hc : ¬ (c = 43 ∨ c = 45)) : cutS l = (false, c :: r) := by
  subst h; simp [cutS, hc]
theorem digitsB_of {rx : Nat} {l : List Nat} (h0 : 0 < l.length) (h : ∀ j, j < l.length → dgt (l.getD j 0) < rx) : digitsB (rx : Int) l = true := by
  unfold digitsB
  rw [Bool.and_eq_true]
  refine ⟨?_, by simp; intro e; rw [e] at h0; simp at h0⟩
  rw [List.all_eq_true]
  intro x hx
  obtain ⟨j, hj, rfl⟩ := List.mem_iff_getElem.1 hx
  have := h j hj
  rw [List.getD_eq_getElem?_getD, List.getElem?_eq_getElem hj] at this
  simpa using this
theorem digitsB_not {rx : Nat} {l : List Nat} {j : Nat} (hj : j < l.length) (h : rx ≤ dgt (l.getD j 0)) : digitsB (rx : Int) l = false := by
  unfold digitsB
  rw [Bool.and_eq_false_iff]
  left
  rw [List.all_eq_false]
  exact ⟨l.getD j 0, getD_mem hj, by simp; rw [← List.getD_eq_getElem?_getD]; omega⟩
theorem digitsB_nil {rx : Int} : digitsB rx [] = false := by simp [digitsB]
theorem getD_drop' (l : List Nat) (a j : Nat) : (l.drop a).getD j 0 = l.getD (a + j) 0 := by
  rw [List.getD_eq_getElem?_getD, List.getElem?_drop, ← List.getD_eq_getElem?_getD]

end Go.Proofs.Ytdekkieajffblaa
