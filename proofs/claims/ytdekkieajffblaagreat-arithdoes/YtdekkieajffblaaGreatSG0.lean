/-
  What words say, of which kind they are (definitions).
-/
import Derived.Test.YtdekkieajffblaaGreatV4
import Derived.Deep.AppendLies
import Derived.Test.YtdekkieajffblaaGreatX0
import Derived.Test.YtdekkieajffblaaGreatX1
import Derived.Test.YtdekkieajffblaaGreatW20
import Derived.Test.YtdekkieajffblaaGreatW15
import Derived.Test.YtdekkieajffblaaGreatW7
import Derived.Laws.Bits128
import Derived.Test.YtdekkieajffblaaGreatG0
set_option linter.unusedVariables false
set_option linter.unusedSimpArgs false
set_option maxRecDepth 100000
namespace Go.Proofs.YtdekkieajffblaaGreat
open Go.RowKit

/-- Rows of numbers that are the call's own. -/
def iz (l : List Int) : List Value := l.map (Value.int .i64)
theorem iz_length (l : List Int) : (iz l).length = l.length := by simp [iz]
theorem iz_append (l r : List Int) : iz (l ++ r) = iz l ++ iz r := by simp [iz]
theorem info_iz : (Tryz.prog.info? 3).map (fun i => (i.zero, i.size, i.bytes)) = some (some (.int .i64 0), 1, 8) := by kernel_rfl
/-- 'append(numbers, x)'. -/
theorem appi {P : Program} {w : World} {ops : Array Oper} {rest : List Oper} {o : Oper} {a : Act} {Q : Exit → Act → World → Prop} (hgd : o.guard = none) (s x : Operand) (t : TypeId) (ho : o.op = .call { callee := .builtin .append, args := #[s, x], argTypes := #[t, t] })
    (base : Nat) (e : TypeId) (ht : P.underlying t = some (.slice e)) (hi : (P.info? e).map (fun i => (i.zero, i.size, i.bytes)) = some (some (.int .i64 0), 1, 8))
    (v : Value) (n : Nat) (l : List Int) (hs : a.eval s = v) (hown : w.ownsRow base e 1 v n (iz l))
    (ad : Addr) (c : Nat) (d : Int) (hx : a.eval x = .slice (some ad) 1 c) (hd : w.cell? ad = some (.int .i64 d)) (hsm : n ≤ 10000000) (hbase : base ≤ w.heap.size)
    (h : ∀ g cap w', w'.ownsRow base e 1 (.slice (some ⟨g, 0, none⟩) (n + 1) cap) (n + 1) (iz (l ++ [d])) → w.grownBy w' v.ownBlock → (v.ownBlock = some g ∨ g = w.heap.size) → g < w'.heap.size → wpList P ops Q rest (a.put o.dst (.slice (some ⟨g, 0, none⟩) (n + 1) cap)) w') :
    wpList P ops Q (o :: rest) a w := by
  obtain ⟨i0, hi0, hz0, hz1, hz2⟩ : ∃ i0, P.info? e = some i0 ∧ i0.zero = some (.int .i64 0) ∧ i0.size = 1 ∧ i0.bytes = 8 := by
    cases h : P.info? e with
    | none => rw [h] at hi; cases hi
    | some i => rw [h] at hi; simp at hi; exact ⟨i, rfl, hi.1, hi.2.1, hi.2.2⟩
  refine wpList_append_lies w hgd s x t ho base e i0 (.int .i64 0) 1 8 ht hi0 hz0 hz1 hz2 rfl (by decide) v n (iz l) hs hown ad 1 c [.int .i64 d] hx rfl ?_ ?_ (by decide) (by unfold maxLen; omega) (by omega) hbase w.heap.size rfl ?_
  · intro j u hj
    match j, hj with
    | 0, hj => simp at hj; subst hj; simpa [Addr.add] using hd
  · intro u hu; simp at hu; subst hu; rfl
  · intro g cap w' h1 h2 h3 h4
    refine h g cap w' ?_ h2 h3 h4
    rw [iz_append]; exact h1
end Go.Proofs.YtdekkieajffblaaGreat

set_option linter.unusedVariables false
set_option linter.unusedSimpArgs false
set_option maxRecDepth 100000
namespace Go.Proofs.YtdekkieajffblaaGreat
open Go.RowKit

theorem sword_any (k n : Int) (hk : Z64 k) (hn : Z64 n) (w : World) : Calls Tryz.prog 29 #[.int .i64 k, .int .i64 n] w fun e w' => e = .returned (.int .u64 (wordR k n 0)) ∧ Below w.heap.size w w' := by
  have C := hid (rword_any k n 0 hk hn (by unfold Z64; omega) w)
  unfold SVal at C
  obtain ⟨x, hx⟩ : ∃ x, x = wordR k n 0 := ⟨_, rfl⟩
  obtain ⟨b, hb⟩ : ∃ x, x = rightB k n 0 := ⟨_, rfl⟩
  rw [← hx, ← hb] at C
  rw [← hx]
  clear hx hb
  go_enter Tryz.func29, Tryz.ntmps29
  go_wp2_with (go_at_call 48; (with_reducible refine C.out.mono ?_); rintro e W1 ⟨rfl, b1⟩)
  go_ret
  exact ⟨rfl, b1⟩

/-- The letters of a text, from a place on. -/
def ltF (s : ByteArray) : Nat → Nat → List Int
  | 0, _ => []
  | f + 1, i => if i < s.size then ((runeD s i).1 : Int) :: ltF s f (i + max 1 (runeD s i).2) else []
def ltrs (s : ByteArray) : List Int := ltF s s.size 0
theorem ltF_len (s : ByteArray) : ∀ f i, (ltF s f i).length ≤ f
  | 0, _ => Nat.le_refl _
  | f + 1, i => by
    unfold ltF
    split
    · have := ltF_len s f (i + max 1 (runeD s i).2); simp; omega
    · simp
theorem ltrs_len (s : ByteArray) : (ltrs s).length ≤ s.size := ltF_len s _ _
end Go.Proofs.YtdekkieajffblaaGreat

set_option linter.unusedVariables false
set_option linter.unusedSimpArgs false
namespace Go.Proofs.YtdekkieajffblaaGreat
open Go.RowKit

theorem and_255n (t : Nat) (h : t < 9223372036854775808) : bits .and .i64 (t : Int) 255 = ((t % 256 : Nat) : Int) := by
  have h1 : (BitVec.ofInt 64 (t : Int)).toNat = t := by
    rw [BitVec.ofInt_natCast, BitVec.toNat_ofNat]; exact Nat.mod_eq_of_lt (by omega)
  show IntKind.i64.wrap ((BitVec.ofInt 64 (t : Int) &&& BitVec.ofInt 64 255).toNat : Int) = _
  rw [BitVec.toNat_and, h1]
  have h2 : (BitVec.ofInt 64 255).toNat = 2 ^ 8 - 1 := by decide
  rw [h2, Nat.and_two_pow_sub_one_eq_mod, IntKind.wrap_i64]
  omega

/-- What a byte says as a digit, as the document has it; -1: nothing. -/
def dgi (c : Nat) : Int := if dgt c = 36 then -1 else (dgt c : Int)

theorem cutS_sign {l : List Nat} {c : Nat} {r : List Nat} (h : l = c :: r) (hc : c = 43 ∨ c = 45) : cutS l = (decide (c = 45), r) := by
  subst h; simp [cutS, hc]
theorem cutS_plain {l : List Nat} {c : Nat} {r : List Nat} (h : l = c :: r) (hc : ¬ (c = 43 ∨ c = 45)) : cutS l = (false, c :: r) := by
  subst h; simp [cutS, hc]
theorem digitsB_of {rx : Nat} {l : List Nat} (h0 : 0 < l.length) (h : ∀ j, j < l.length → dgt (l.getD j 0) < rx) : digitsB (rx : Int) l = true := by
  unfold digitsB
  rw [Bool.and_eq_true]
  refine ⟨?_, by simp; intro e; rw [e] at h0; simp at h0⟩
  rw [List.all_eq_true]
  intro x hx
  obtain ⟨j, hj, rfl⟩ := List.mem_iff_getElem.1 hx
  have := h j hj
  rw [List.getD_eq_getElem?_getD, List.getElem?_eq_getElem hj] at this
  simpa using this
theorem digitsB_not {rx : Nat} {l : List Nat} {j : Nat} (hj : j < l.length) (h : rx ≤ dgt (l.getD j 0)) : digitsB (rx : Int) l = false := by
  unfold digitsB
  rw [Bool.and_eq_false_iff]
  left
  rw [List.all_eq_false]
  exact ⟨l.getD j 0, getD_mem hj, by simp; rw [← List.getD_eq_getElem?_getD]; omega⟩
theorem digitsB_nil {rx : Int} : digitsB rx [] = false := by simp [digitsB]
theorem getD_drop' (l : List Nat) (a j : Nat) : (l.drop a).getD j 0 = l.getD (a + j) 0 := by
  rw [List.getD_eq_getElem?_getD, List.getElem?_drop, ← List.getD_eq_getElem?_getD]

end Go.Proofs.YtdekkieajffblaaGreat

set_option linter.unusedVariables false
set_option linter.unusedSimpArgs false
namespace Go.Proofs.YtdekkieajffblaaGreat
open Go.RowKit

/-- What is at a place of the inner loop: q done, the rest as it was. -/
structure Mul1 (r q : List Nat) (rx d kk cc : Nat) : Prop where
  len : q.length = kk
  most : kk ≤ r.length + 1
  dg : Dg 256 q
  small : cc ≤ 36
  val_ : val 256 q + 256 ^ kk * cc = val 256 (r.take kk) * rx + d
  end_ : kk = r.length + 1 → cc = 0 ∧ Tr q
theorem Mul1.start (r : List Nat) {rx d : Nat} (hd : d ≤ 36) : Mul1 r [] rx d 0 d := ⟨rfl, by omega, Dg.nil _, hd, by simp [val], fun h => by omega⟩
theorem Mul1.step {r q : List Nat} {rx d kk cc x : Nat} (h : Mul1 r q rx d kk cc) (hk : kk < r.length) (hx : x = r.getD kk 0) (hxb : x < 256) (hr : rx ≤ 36) : Mul1 r (q ++ [(x * rx + cc) % 256]) rx d (kk + 1) ((x * rx + cc) / 256) := by
  have hxr : x * rx ≤ 255 * 36 := Nat.mul_le_mul (by omega) hr
  have hs := h.small
  refine ⟨by simp [h.len], by omega, h.dg.append (Dg.one (Nat.mod_lt _ (by decide))), by omega, ?_, fun e => by omega⟩
  rw [val_snoc, h.len, val_take_succ 256 r kk hk, ← hx, Nat.pow_succ]
  exact mulStep h.val_
theorem Mul1.more {r q : List Nat} {rx d kk cc : Nat} (h : Mul1 r q rx d kk cc) (hk : kk = r.length) (hc : cc ≠ 0) : Mul1 r (q ++ [cc]) rx d (kk + 1) 0 := by
  have hs := h.small
  refine ⟨by simp [h.len], by omega, h.dg.append (Dg.one (by omega)), by omega, ?_, fun _ => ⟨rfl, tr_snoc hc⟩⟩
  have := h.val_
  rw [val_snoc, h.len, List.take_of_length_le (by omega)]
  rw [List.take_of_length_le (by omega)] at this
  simpa using this
theorem Mul1.done {r q : List Nat} {rx d kk : Nat} (h : Mul1 r q rx d kk 0) (hk : r.length ≤ kk) (tr : Tr r) (hr : 1 ≤ rx) : val 256 q = val 256 r * rx + d ∧ Tr q ∧ q.length ≤ r.length + 1 ∧ q ++ r.drop kk = q := by
  have hv := h.val_
  rw [List.take_of_length_le hk] at hv
  simp at hv
  refine ⟨hv, ?_, by rw [h.len]; exact h.most, by rw [List.drop_of_length_le hk, List.append_nil]⟩
  by_cases e : kk = r.length + 1
  · exact (h.end_ e).2
  · have : kk = r.length := by have := h.most; omega
    refine tr_of_ge (B := 256) (by decide) (by rw [h.len, this]) tr h.dg ?_
    have h2 : val 256 r * 1 ≤ val 256 r * rx := Nat.mul_le_mul_left _ hr
    omega
theorem Ans.form0 {w : World} {x : Value} {en : Int} {neg : Bool} {v : Nat} (h : Ans w x en neg v) : ∃ s ao n cap l, x = .agg #[.bool s, .slice ao n cap] ∧ Row .u32 B32 w ao n cap l ∧ (∀ w', Row .u32 B32 w' ao n cap l → Ans w' x en neg v) := by
  rcases h with ⟨h1, h2, l, ⟨ao, n, cap, rfl, R⟩, h4, h5⟩ | ⟨h1, h2, rfl⟩
  · exact ⟨_, ao, n, cap, l, rfl, R, fun w' R' => .inl ⟨h1, h2, l, ⟨ao, n, cap, rfl, R'⟩, h4, h5⟩⟩
  · exact ⟨false, none, 0, 0, [], rfl, Row.nil _ _ _ _, fun w' _ => .inr ⟨h1, h2, rfl⟩⟩
theorem getD_mid {q t : List Nat} {x kk : Nat} (h : q.length = kk) : (q ++ x :: t).getD kk 0 = x := by
  subst h; simp
theorem pow_160 : (256 : Nat) ^ 160 = B32 ^ 40 := by
  rw [show (160 : Nat) = 4 * 40 from rfl, Nat.pow_mul]; rfl
theorem big_len {r : List Nat} (h : r.length = 161) (tr : Tr r) : Big (val 256 r) := by
  unfold Big
  rw [← pow_160]
  have := tr.pos (B := 256) (by decide) (by intro e; rw [e] at h; simp at h)
  rw [h] at this
  exact this

end Go.Proofs.YtdekkieajffblaaGreat

set_option linter.unusedVariables false
set_option linter.unusedSimpArgs false
namespace Go.Proofs.YtdekkieajffblaaGreat
open Go.RowKit

def digs : Nat → Nat → List Nat
  | 0, _ => []
  | f + 1, v => if v = 0 then [] else (v % 10) :: digs f (v / 10)
theorem digs_ok : ∀ f v, v ≤ f → Dg 10 (digs f v) ∧ Tr (digs f v) ∧ val 10 (digs f v) = v ∧ (v ≠ 0 → digs f v ≠ [])
  | 0, v, h => by
    obtain rfl : v = 0 := by omega
    exact ⟨Dg.nil _, Tr.nil, rfl, fun h => absurd rfl h⟩
  | f + 1, v, h => by
    by_cases hv : v = 0
    · subst hv; simp [digs, val]; exact ⟨Dg.nil _, Tr.nil⟩
    · obtain ⟨h1, h2, h3, h4⟩ := digs_ok f (v / 10) (by omega)
      have e : digs (f + 1) v = (v % 10) :: digs f (v / 10) := by simp [digs, hv]
      rw [e]
      refine ⟨fun x hx => ?_, .inr ?_, ?_, fun _ => by simp⟩
      · rcases List.mem_cons.1 hx with rfl | hx
        · omega
        · exact h1 x hx
      · by_cases h0 : v / 10 = 0
        · have : digs f (v / 10) = [] := by rw [h0]; cases f <;> simp [digs]
          rw [this]; simp; omega
        · have hne := h4 h0
          have := h2.resolve_left hne
          obtain ⟨n, hn⟩ : ∃ n, (digs f (v / 10)).length = n + 1 := ⟨(digs f (v / 10)).length - 1, by have := List.length_pos_iff.2 hne; omega⟩
          rw [List.length_cons, hn]
          rw [hn] at this
          simpa using this
      · rw [val_cons, h3]; omega
/-- How an integer is printed in radix 10. -/
def printL (neg : Bool) (v : Nat) : List Nat := if digs v v = [] then [48] else (if neg then [45] else []) ++ ((digs v v).map chr).reverse
theorem Printed.is {neg : Bool} {v : Nat} {s : ByteArray} {en : Int} (h : Printed neg v 10 s en) : bs s = printL neg v ∧ en = 0 := by
  rcases h with ⟨a, _⟩ | ⟨_, he, D, d1, d2, d3, d4⟩
  · exact absurd ⟨by omega, by omega⟩ a
  · obtain ⟨k1, k2, k3, _⟩ := digs_ok v v (Nat.le_refl _)
    have hD : D = digs v v := digits_unique (B := 10) (by omega) d1 k1 d2 k2 (by rw [k3]; exact d3)
    subst hD
    exact ⟨d4, he⟩
/-- Is a text an integer's, as it is printed? -/
def printedB (t : ByteArray) : Bool := digitsB 10 (cutS (bs t)).2 && decide (hv 10 (cutS (bs t)).2 < B32 ^ 40) && decide (bs t = printL ((cutS (bs t)).1 && decide (hv 10 (cutS (bs t)).2 ≠ 0)) (hv 10 (cutS (bs t)).2))

/-- What is known of an integer that was read. -/
theorem ans_int {w : World} {x : Value} {en : Int} {neg : Bool} {v : Nat} (h : Ans w x en neg v) : (¬ Big v ∧ en = 0 ∧ ∃ ao n cap l, x = .agg #[.bool (neg && decide (v ≠ 0)), .slice ao n cap] ∧ Row .u32 B32 w ao n cap l ∧ goodB (neg && decide (v ≠ 0)) l = true ∧ val B32 l = v ∧ n ≤ 40) ∨ (Big v ∧ en = 10) := by
  rcases h with ⟨h1, h2, l, ⟨ao, n, cap, h3, R⟩, h4, h5⟩ | ⟨h1, h2, _⟩
  · refine .inl ⟨h1, h2, ao, n, cap, l, ?_, R, ?_, h5, ?_⟩
    · rw [h3]
      have e0 : (neg && decide (l ≠ [])) = (neg && decide (v ≠ 0)) := ?_
      · rw [e0]
      rw [Bool.eq_iff_iff]
      have := h4.zero_iff (B := B32) (by decide)
      rw [h5] at this
      simp only [Bool.and_eq_true, decide_eq_true_eq, ne_eq]
      have e2 : l.length = 0 ↔ l = [] := List.length_eq_zero_iff
      rw [this, e2]
    · have hl := (small_len R.dg h4).2 (by rw [h5]; exact h1)
      refine goodB_mk h4 hl fun h0 => ?_
      have := (h4.zero_iff (B := B32) (by decide)).2 h0
      rw [h5] at this
      simp [this]
    · rw [← R.len]; exact (small_len R.dg h4).2 (by rw [h5]; exact h1)
  · exact .inr ⟨h1, h2⟩

theorem Ans.form' {w : World} {x : Value} {en : Int} {neg : Bool} {v : Nat} (h : Ans w x en neg v) : ∃ s ao n cap l, x = .agg #[.bool s, .slice ao n cap] ∧ Row .u32 B32 w ao n cap l ∧ True := by
  rcases h with ⟨_, _, l, ⟨ao, n, cap, h3, R⟩, _⟩ | ⟨_, _, h⟩
  · exact ⟨_, ao, n, cap, l, h3, R, trivial⟩
  · exact ⟨false, none, 0, 0, [], h, Row.nil _ _ _ _, trivial⟩
theorem str_eq (s t : ByteArray) : (s.toList == t.toList) = decide (s = t) := by
  rw [Bool.eq_iff_iff, beq_iff_eq, decide_eq_true_eq]
  constructor
  · intro h
    rw [Lib.toList_data, Lib.toList_data] at h
    obtain ⟨a⟩ := s
    obtain ⟨b⟩ := t
    exact congrArg ByteArray.mk (Array.toList_inj.1 h)
  · rintro rfl; rfl

end Go.Proofs.YtdekkieajffblaaGreat

set_option linter.unusedVariables false
set_option linter.unusedSimpArgs false
namespace Go.Proofs.YtdekkieajffblaaGreat
open Go.RowKit

/-- Is an integer in Fix's bounds? -/
def fixB (z : Int) : Bool := decide (-1152921504606846976 ≤ z) && decide (z < 1152921504606846976)
def nK (x : Int) : Int := (ofR x).1
def nN (x : Int) : Int := (ofR x).2.1
def limbB (x : Int) : Bool := decide (nK x = 1) && (decide (0 ≤ nN x) && decide (nN x < 4294967296))
def numNeg (l : List Int) : Bool := decide (nN (l.getD 0 0) = 1)
def numMag (l : List Int) : List Nat := (l.drop 1).map (fun y => (nN y).toNat)
/-- Are fields an integer's, which is not in Fix's bounds? -/
def bigB (l : List Int) : Bool := decide (0 < l.length) && (l.all limbB && (decide (nN (l.getD 0 0) ≤ 1) && (goodB (numNeg l) (numMag l) && !fixB (sgn (numNeg l) (val B32 (numMag l))))))
def byB (x : Int) : Bool := decide (nK x = 1) && (decide (0 ≤ nN x) && decide (nN x ≤ 255))
def lrB (x : Int) : Bool := decide (nK x = 4)
def byT (l : List Int) : List Nat := l.map (fun x => (nN x).toNat)
def lrT (l : List Int) : List Nat := l.flatMap (fun x => bs (Utf8.encode (nN x)))
def voidN : Nd := ⟨11, 0, ByteArray.empty, []⟩
end Go.Proofs.YtdekkieajffblaaGreat
