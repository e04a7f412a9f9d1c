/-
  A region whose operations come up in whatever order, walked by its states.
-/
import Derived.Test.YthgkonjglappjabProg
import Derived.Test.YthgkonjglappjabX0
import Derived.BigQuiet
import Derived.Deep.QuietTactic
import Derived.Deep.AppendLies
import Derived.Laws.AppendOwnNone
import Derived.Lib.SliceRun
import Derived.Deep.RegionHeld3
import Derived.Lib.Strings
import Derived.Deep.LoopGhost
import Derived.Deep.RegionLaw
set_option linter.unusedVariables false
set_option linter.unusedSimpArgs false
namespace Go.Proofs.Ythgkonjglappjab
open Go.RowKit

theorem ret_bool {a b : Bool} (h : a = b) : Ending.returned (.bool a) = .returned (.bool b) := by rw [h]

end Go.Proofs.Ythgkonjglappjab

set_option linter.unusedVariables false
set_option linter.unusedSimpArgs false
namespace Go.Proofs.Ythgkonjglappjab
open Go.RowKit

theorem cmpN_len {a b : List Nat} (ha : Dg B32 a) (hb : Dg B32 b) (ta : Tr a) (tb : Tr b) (h : a.length ≠ b.length) : cmpN a.length b.length = cmpN (val B32 a) (val B32 b) := by
  have h0 : 0 < B32 := by decide
  rcases Nat.lt_or_ge a.length b.length with h' | h'
  · have := lt_of_length h0 ha tb h'
    simp [cmpN, h', this]
  · have := lt_of_length h0 hb ta (by omega : b.length < a.length)
    unfold cmpN
    rw [if_neg (by omega), if_neg (by omega), if_neg (by omega), if_neg (by omega)]
theorem cmpN_digit {B : Nat} {a b : List Nat} {k : Nat} (ha : Dg B a) (hb : Dg B b) (hka : k < a.length) (hkb : k < b.length) (ht : a.drop (k + 1) = b.drop (k + 1)) (h : a.getD k 0 ≠ b.getD k 0) : cmpN (a.getD k 0) (b.getD k 0) = cmpN (val B a) (val B b) := by
  rcases Nat.lt_or_ge (a.getD k 0) (b.getD k 0) with h' | h'
  · have := lt_of_digit ha hka hkb ht h'
    unfold cmpN
    rw [if_pos h', if_pos this]
  · have := lt_of_digit hb hkb hka ht.symm (by omega)
    unfold cmpN
    rw [if_neg (by omega), if_neg (by omega), if_neg (by omega), if_neg (by omega)]
theorem ret_i64 {a b : Int} (h : a = b) : Ending.returned (.int .i64 a) = .returned (.int .i64 b) := by rw [h]

end Go.Proofs.Ythgkonjglappjab

set_option linter.unusedVariables false
set_option linter.unusedSimpArgs false
namespace Go.Proofs.Ythgkonjglappjab
open Go.RowKit

/-- Numbers as cells. -/
def cs (k : IntKind) (l : List Nat) : List Value := l.map fun (x : Nat) => Value.int k (x : Int)
theorem cs_length (k : IntKind) (l : List Nat) : (cs k l).length = l.length := by simp [cs]
theorem cs_append (k : IntKind) (l r : List Nat) : cs k (l ++ r) = cs k l ++ cs k r := by simp [cs]
theorem cs_get {k : IntKind} {l : List Nat} {j : Nat} {u : Value} (h : (cs k l)[j]? = some u) : j < l.length ∧ u = .int k (l.getD j 0 : Nat) := by
  unfold cs at h
  rw [List.getElem?_map] at h
  by_cases hj : j < l.length
  · rw [List.getElem?_eq_getElem hj] at h
    refine ⟨hj, ?_⟩
    rw [List.getD_eq_getElem?_getD, List.getElem?_eq_getElem hj]
    simp at h
    exact h.symm
  · rw [List.getElem?_eq_none (by omega)] at h; simp at h
theorem cs_get_of {k : IntKind} {l : List Nat} {j : Nat} (hj : j < l.length) : (cs k l)[j]? = some (.int k (l.getD j 0 : Nat)) := by
  unfold cs
  rw [List.getElem?_map, List.getD_eq_getElem?_getD, List.getElem?_eq_getElem hj]; rfl
theorem cs_one (k : IntKind) (l : List Nat) : ∀ u ∈ cs k l, u.oneCell' = true := by
  intro u hu
  unfold cs at hu
  obtain ⟨x, _, rfl⟩ := List.mem_map.1 hu
  rfl

/-- What owns numbers is a row, and may be written. -/
theorem own_of {w : World} {base : Nat} {e : TypeId} {v : Value} {n : Nat} {k : IntKind} {l : List Nat} {B : Nat} (h : w.ownsRow base e 1 v n (cs k l)) (hd : Dg B l) :
    ∃ ao cap, v = .slice ao n cap ∧ Own k e B base w ao n cap l := by
  have hn : l.length = n := by have := h.1; rw [cs_length] at this; omega
  rcases h.2 with ⟨rfl, h0⟩ | ⟨g, cap, cur, rfl, hb, hg, hle, hm, hsz, htk⟩
  · subst h0
    have : l = [] := List.length_eq_zero_iff.1 hn
    subst this
    exact ⟨none, 0, rfl, Row.nil _ _ _ _, .inl rfl⟩
  · have hwin : Win k e w g 0 n cur l := by
      refine ⟨hg, by omega, hn, fun i hi => ?_⟩
      have h1 : (cs k l)[i]? = some (.int k (l.getD i 0 : Nat)) := cs_get_of (by omega)
      rw [← htk, List.getElem?_take, if_pos (by omega)] at h1
      rw [Nat.zero_add, ← Array.getElem?_toList]; exact h1
    exact ⟨some ⟨g, 0, none⟩, cap, rfl, ⟨hn, hle, hm, fun h => (by cases h), hd, hwin.rd⟩, .inr ⟨g, cur, rfl, hb, hwin⟩⟩

theorem Own.nil (k : IntKind) (e : TypeId) (B base : Nat) (w : World) (ao : Option Addr) : Own k e B base w ao 0 0 [] := ⟨Row.nil _ _ _ _, .inl rfl⟩
theorem Own.base {k : IntKind} {e : TypeId} {B base base' : Nat} {w : World} {ao : Option Addr} {n cap : Nat} {l : List Nat} (h : Own k e B base w ao n cap l) (hb : base' ≤ base) : Own k e B base' w ao n cap l :=
  ⟨h.row, h.own.imp id fun ⟨g, cur, h1, h2, h3⟩ => ⟨g, cur, h1, Nat.le_trans hb h2, h3⟩⟩
theorem Win.below {k : IntKind} {e : TypeId} {w w' : World} {g o n : Nat} {cur : Array Value} {l : List Nat} (h : Win k e w g o n cur l) (hb : Below w.heap.size w w') : Win k e w' g o n cur l :=
  ⟨(hb.block g h.lt).trans h.blk, h.fits, h.len, h.at_⟩
theorem Win.on {k : IntKind} {e : TypeId} {w w' : World} {g o n B : Nat} {cur : Array Value} {l : List Nat} (h : Win k e w g o n cur l) (hb : Below B w w') (hg : g < B) : Win k e w' g o n cur l :=
  ⟨(hb.block g hg).trans h.blk, h.fits, h.len, h.at_⟩
theorem Win.take {k : IntKind} {e : TypeId} {w : World} {g o n m : Nat} {cur : Array Value} {l : List Nat} (h : Win k e w g o n cur l) (hm : m ≤ n) : Win k e w g o m cur (l.take m) :=
  ⟨h.blk, by have := h.fits; omega, by rw [List.length_take, h.len, Nat.min_eq_left hm], fun i hi => by rw [getD_take hi]; exact h.at_ i (by omega)⟩
theorem Own.below {k : IntKind} {e : TypeId} {B base : Nat} {w w' : World} {ao : Option Addr} {n cap : Nat} {l : List Nat} (h : Own k e B base w ao n cap l) (hb : Below w.heap.size w w') : Own k e B base w' ao n cap l :=
  ⟨h.row.below hb, h.own.imp id fun ⟨g, cur, h1, h2, h3⟩ => ⟨g, cur, h1, h2, h3.below hb⟩⟩

/-- A store elsewhere. -/
theorem Own.setFar {k : IntKind} {e : TypeId} {B base : Nat} {w : World} {ao : Option Addr} {n cap : Nat} {l : List Nat} (h : Own k e B base w ao n cap l) {p : Addr} (hp : p.block < base) (v : Value) : Own k e B base (w.setCell p v) ao n cap l := by
  rcases h.own with h0 | ⟨g, cur, h1, h2, h3⟩
  · have hl : l = [] := List.length_eq_zero_iff.1 (by rw [h.row.len, h0])
    exact ⟨⟨h.row.len, h.row.fits, h.row.most, h.row.nil_, h.row.dg, .inl hl⟩, .inl h0⟩
  · have hw : Win k e (w.setCell p v) g 0 n cur l := ⟨(Below.heap_setCell w p v g (by omega)).trans h3.blk, h3.fits, h3.len, h3.at_⟩
    subst h1
    exact ⟨⟨h.row.len, h.row.fits, h.row.most, h.row.nil_, h.row.dg, hw.rd⟩, .inr ⟨g, cur, rfl, h2, hw⟩⟩
theorem owns_win {w : World} {base : Nat} {e : TypeId} {v : Value} {n : Nat} {k : IntKind} {l : List Nat} (h : w.ownsRow base e 1 v n (cs k l)) (hn : 0 < n) :
    ∃ g cap cur, v = .slice (some ⟨g, 0, none⟩) n cap ∧ base ≤ g ∧ n ≤ cap ∧ cap ≤ maxLen ∧ cur.size = cap ∧ Win k e w g 0 n cur l := by
  have hl : l.length = n := by have := h.1; rw [cs_length] at this; omega
  rcases h.2 with ⟨_, h0⟩ | ⟨g, cap, cur, rfl, hb, hg, hle, hm, hsz, htk⟩
  · omega
  · refine ⟨g, cap, cur, rfl, hb, hle, hm, by omega, hg, by omega, hl, fun i hi => ?_⟩
    have h1 : (cs k l)[i]? = some (.int k (l.getD i 0 : Nat)) := cs_get_of (by omega)
    rw [← htk, List.getElem?_take, if_pos (by omega)] at h1
    rw [Nat.zero_add, ← Array.getElem?_toList]; exact h1
theorem owns_of_win {w : World} {base : Nat} {e : TypeId} {n g cap : Nat} {k : IntKind} {l : List Nat} {cur : Array Value} (hb : base ≤ g) (h1 : n ≤ cap) (h2 : cap ≤ maxLen) (h3 : cur.size = cap) (hw : Win k e w g 0 n cur l) :
    w.ownsRow base e 1 (.slice (some ⟨g, 0, none⟩) n cap) n (cs k l) := by
  refine ⟨by rw [cs_length, hw.len]; omega, .inr ⟨g, cap, cur, rfl, hb, hw.blk, h1, h2, by omega, ?_⟩⟩
  apply List.ext_getElem?
  intro i
  rw [List.getElem?_take]
  by_cases hi : i < n
  · rw [if_pos (by omega), Array.getElem?_toList, cs_get_of (by rw [hw.len]; exact hi)]
    have := hw.at_ i hi
    rwa [Nat.zero_add] at this
  · rw [if_neg (by omega), List.getElem?_eq_none (by rw [cs_length, hw.len]; omega)]
theorem owns_onto {w w' : World} {base : Nat} {e : TypeId} {n g cap : Nat} {k : IntKind} {l : List Nat} {cur : Array Value} (hb : base ≤ g) (h1 : n ≤ cap) (h2 : cap ≤ maxLen) (h3 : cur.size = cap) (hO : Onto k e g 0 n w w' cur l) :
    w'.ownsRow base e 1 (.slice (some ⟨g, 0, none⟩) n cap) n (cs k l) := by
  obtain ⟨c, hw, hc, _⟩ := hO.row
  exact owns_of_win hb h1 h2 (by omega) hw
/-- What is owned elsewhere. -/
theorem owns_far {w w' : World} {base : Nat} {e e' : TypeId} {v : Value} {n m g o : Nat} {k : IntKind} {xs : List Value} {l : List Nat} {cur : Array Value} (h : w.ownsRow base e 1 v n xs) (hg : g < base) (hO : Onto k e' g o m w w' cur l) : w'.ownsRow base e 1 v n xs := by
  refine ⟨h.1, ?_⟩
  rcases h.2 with h0 | ⟨g', cap, cur', h1, h2, h3, h4⟩
  · exact .inl h0
  · exact .inr ⟨g', cap, cur', h1, h2, (hO.block g' (by omega)).trans h3, h4⟩
theorem own0 (w : World) (k : IntKind) (e : TypeId) : (w.alloc (.cells #[] e)).ownsRow w.heap.size e 1 (.slice (some ⟨w.heap.size, 0, none⟩) 0 0) 0 (cs k []) :=
  World.ownsRow_made (base := w.heap.size) (e := e) (size := 1) w #[] 0 (Nat.le_refl _) (Nat.zero_le _) rfl
/-- Behind an append onto what the call owns nothing old has turned. -/
theorem bel_of {w w' : World} {base : Nat} {e : TypeId} {v : Value} {n : Nat} {xs : List Value} (hown : w.ownsRow base e 1 v n xs) (hbase : base ≤ w.heap.size) (hg : w.grownBy w' v.ownBlock) : Below base w w' :=
  (Below.refl base w).grown hg hbase (fun k hk => (hown.lt k hk).1)
theorem Bb {w w1 w2 : World} {B : Nat} (hb : Below w.heap.size w w1) (h2 : Below B w1 w2) (hB : w.heap.size ≤ B) : Below w.heap.size w w2 := hb.trans (h2.mono hB)

theorem own_step {w : World} {base : Nat} {e : TypeId} {v : Value} {n n' j : Nat} {k : IntKind} {l r : List Nat} (h : w.ownsRow base e 1 v n (cs k (l ++ r.take j ++ [r.getD j 0]))) (hn : n = n') (hj : j < r.length) : w.ownsRow base e 1 v n' (cs k (l ++ r.take (j + 1))) := by
  rw [take_snoc r j hj, ← List.append_assoc, ← hn]; exact h
theorem cell_new (w : World) (v : Value) (e : TypeId) : (w.alloc (.cells #[v] e)).cell? ⟨w.heap.size, 0, none⟩ = some v := by simp

variable {P : Program} {w : World} {ops : Array Oper} {rest : List Oper} {o : Oper} {a : Act} {Q : Exit → Act → World → Prop}

/-- 'out = append(out, x)'. -/
theorem app1 (hgd : o.guard = none) (s x : Operand) (t : TypeId) (ho : o.op = .call { callee := .builtin .append, args := #[s, x], argTypes := #[t, t] })
    (base : Nat) (e : TypeId) (k : IntKind) (bytes : Nat) (hby : bytes ≤ 8) (ht : P.underlying t = some (.slice e)) (hi : (P.info? e).map (fun i => (i.zero, i.size, i.bytes)) = some (some (.int k 0), 1, bytes))
    (v : Value) (n : Nat) (l : List Nat) (hs : a.eval s = v) (hown : w.ownsRow base e 1 v n (cs k l))
    (ad : Addr) (c : Nat) (d : Nat) (hx : a.eval x = .slice (some ad) 1 c) (hd : w.cell? ad = some (.int k d)) (hsm : n ≤ 1000000) (hbase : base ≤ w.heap.size)
    (h : ∀ g cap w', w'.ownsRow base e 1 (.slice (some ⟨g, 0, none⟩) (n + 1) cap) (n + 1) (cs k (l ++ [d])) → Below base w w' → wpList P ops Q rest (a.put o.dst (.slice (some ⟨g, 0, none⟩) (n + 1) cap)) w') :
    wpList P ops Q (o :: rest) a w := by
  obtain ⟨i0, hi0, hz0, hz1, hz2⟩ := info_parts hi
  refine wpList_append_lies w hgd s x t ho base e i0 (.int k 0) 1 bytes ht hi0 hz0 hz1 hz2 rfl (by decide) v n (cs k l) hs hown ad 1 c [.int k d] hx rfl ?_ ?_ (by decide) (by unfold maxLen; omega) ?_ hbase w.heap.size rfl ?_
  · intro j u hj
    match j, hj with
    | 0, hj => simp at hj; subst hj; simpa [Addr.add] using hd
  · intro u hu; simp at hu; subst hu; rfl
  · have : (n + 1) * bytes ≤ 1000001 * 8 := Nat.mul_le_mul (by omega) hby
    omega
  · intro g cap w' h1 h2 h3 h4
    refine h g cap w' ?_ (bel_of hown hbase h2)
    rw [cs_append]; exact h1

/-- 'append(own, src...)', src whatever row. -/
theorem appRow (hgd : o.guard = none) (s x : Operand) (t : TypeId) (ho : o.op = .call { callee := .builtin .append, args := #[s, x], argTypes := #[t, t] })
    (base : Nat) (e : TypeId) (k : IntKind) (bytes : Nat) (hby : bytes ≤ 8) (ht : P.underlying t = some (.slice e)) (hi : (P.info? e).map (fun i => (i.zero, i.size, i.bytes)) = some (some (.int k 0), 1, bytes))
    (v : Value) (n : Nat) (l : List Nat) (hs : a.eval s = v) (hown : w.ownsRow base e 1 v n (cs k l))
    (B : Nat) (ao : Option Addr) (m c : Nat) (r : List Nat) (hx : a.eval x = .slice ao m c) (hr : Row k B w ao m c r) (hsm : n + m ≤ 1000000) (hbase : base ≤ w.heap.size)
    (h : ∀ v' w', w'.ownsRow base e 1 v' (n + m) (cs k (l ++ r)) → Below base w w' → wpList P ops Q rest (a.put o.dst v') w') :
    wpList P ops Q (o :: rest) a w := by
  obtain ⟨i0, hi0, hz0, hz1, hz2⟩ := info_parts hi
  cases ao with
  | none =>
    have hc := hr.nil_ rfl
    subst hc
    have hm : m = 0 := by have := hr.fits; omega
    subst hm
    have hl : r = [] := List.length_eq_zero_iff.1 hr.len
    subst hl
    refine wpList_append_own_none hgd s x t ho base e i0 1 ht hi0 v n (cs k l) hs hown hx ?_
    refine h v w (by simpa using hown) (Below.refl _ _)
  | some ad =>
    refine wpList_append_own w hgd s x t ho base e i0 (.int k 0) 1 bytes ht hi0 hz0 hz1 hz2 rfl (by decide) v n (cs k l) hs hown ad m c (cs k r) hx (by rw [cs_length, hr.len]; omega) ?_ (cs_one k r) (by unfold maxLen; omega) ?_ hbase ?_
    · intro j u hj
      obtain ⟨h1, rfl⟩ := cs_get hj
      obtain ⟨b, o', hao, _, hc⟩ := hr.rd.some (by omega)
      cases hao
      have := hc j h1
      unfold Addr.add
      by_cases hj0 : j = 0
      · subst hj0; simpa using this
      · rw [if_neg hj0]; exact this
    · have : (n + m) * bytes ≤ 1000000 * 8 := Nat.mul_le_mul hsm hby
      omega
    · intro v' w' h1 h2 _
      refine h v' w' ?_ (bel_of hown hbase h2)
      rw [cs_append]; exact h1

end Go.Proofs.Ythgkonjglappjab

set_option linter.unusedVariables false
set_option linter.unusedSimpArgs false
namespace Go.Proofs.Ythgkonjglappjab
open Go.RowKit

theorem info_u32 : (Try.prog.info? 75).map (fun i => (i.zero, i.size, i.bytes)) = some (some (.int .u32 0), 1, 4) := by kernel_rfl
theorem info_u8 : (Try.prog.info? 5).map (fun i => (i.zero, i.size, i.bytes)) = some (some (.int .u8 0), 1, 1) := by kernel_rfl

end Go.Proofs.Ythgkonjglappjab

set_option linter.unusedVariables false
set_option linter.unusedSimpArgs false
namespace Go.Proofs.Ythgkonjglappjab
open Go.RowKit

theorem cmpN_len8 {B : Nat} (h0 : 0 < B) {a b : List Nat} (ha : Dg B a) (hb : Dg B b) (ta : Tr a) (tb : Tr b) (h : a.length ≠ b.length) : cmpN (val B a) (val B b) = if a.length < b.length then -1 else 1 := by
  rcases Nat.lt_or_ge a.length b.length with h' | h'
  · have := lt_of_length h0 ha tb h'
    simp [cmpN, h', this]
  · have := lt_of_length h0 hb ta (by omega : b.length < a.length)
    unfold cmpN
    rw [if_neg (by omega), if_neg (by omega), if_neg (by omega)]

/-- The four bytes of a limb. -/
def b4 (d : Nat) : List Nat := [d % 256, d / 256 % 256, d / 65536 % 256, d / 16777216 % 256]
def bytesOf (l : List Nat) : List Nat := l.flatMap b4
theorem b4_val (d : Nat) (h : d < B32) : val 256 (b4 d) = d := by
  unfold B32 at h
  simp only [b4, val]; omega
theorem b4_dg (d : Nat) : Dg 256 (b4 d) := by
  intro x hx
  simp only [b4, List.mem_cons, List.not_mem_nil, or_false] at hx
  omega
theorem bytesOf_dg (l : List Nat) : Dg 256 (bytesOf l) := by
  intro x hx
  obtain ⟨d, _, hd⟩ := List.mem_flatMap.1 hx
  exact b4_dg d x hd
theorem bytesOf_val (l : List Nat) (h : Dg B32 l) : val 256 (bytesOf l) = val B32 l := by
  induction l with
  | nil => rfl
  | cons d l ih =>
    have h1 := ih (fun x hx => h x (by simp [hx]))
    have h2 : d < B32 := h d (by simp)
    show val 256 (b4 d ++ bytesOf l) = _
    have e : 256 ^ (b4 d).length = B32 := by simp [b4, B32]
    rw [val_append, h1, b4_val d h2, val_cons, e]
theorem bytesOf_length (l : List Nat) : (bytesOf l).length = 4 * l.length := by
  induction l with
  | nil => rfl
  | cons d l ih => show (b4 d ++ bytesOf l).length = _; rw [List.length_append, ih]; simp [b4]; omega
theorem bytesOf_snoc (l : List Nat) (k : Nat) (h : k < l.length) : bytesOf (l.take (k + 1)) = bytesOf (l.take k) ++ b4 (l.getD k 0) := by
  rw [take_snoc l k h]; simp [bytesOf]

/-- What of a limb a byte is. -/
theorem b4_getD (d : Nat) : (b4 d).getD 0 0 = d % 256 ∧ (b4 d).getD 1 0 = d / 256 % 256 ∧ (b4 d).getD 2 0 = d / 65536 % 256 ∧ (b4 d).getD 3 0 = d / 16777216 % 256 := ⟨rfl, rfl, rfl, rfl⟩

end Go.Proofs.Ythgkonjglappjab

set_option linter.unusedVariables false
set_option linter.unusedSimpArgs false
namespace Go.Proofs.Ythgkonjglappjab
open Go.RowKit

/-- How two integers stand. -/
def cmpR (neg neg' : Bool) (x y : Nat) : Int := if neg = neg' then (if neg then - cmpN x y else cmpN x y) else (if neg then -1 else 1)
theorem cmpR_ne {neg neg' : Bool} (x y : Nat) (h : neg ≠ neg') : cmpR neg neg' x y = if neg then -1 else 1 := by simp [cmpR, h]
theorem cmpR_eq (neg : Bool) (x y : Nat) : cmpR neg neg x y = if neg then - cmpN x y else cmpN x y := by simp [cmpR]
theorem cmpN_bd (x y : Nat) : -1 ≤ cmpN x y ∧ cmpN x y ≤ 1 := by unfold cmpN; split <;> (try split) <;> omega

/-- Two boxes of a call lie as they were made, and nothing older has turned. -/
def Two (W : World) (p q : Nat) (neg neg' : Bool) (ao ao' : Option Addr) (n cap n' cap' : Nat) (wx : World) : Prop :=
  wx.cell? ⟨p, 0, none⟩ = some (.bool neg) ∧ wx.cell? ⟨p, 1, none⟩ = some (.slice ao n cap) ∧ wx.cell? ⟨q, 0, none⟩ = some (.bool neg') ∧ wx.cell? ⟨q, 1, none⟩ = some (.slice ao' n' cap') ∧ Below W.heap.size W wx
theorem cell_lt {w : World} {b i : Nat} {v : Value} (h : w.cell? ⟨b, i, none⟩ = some v) : b < w.heap.size := World.block_lt_of_cell? w ⟨b, i, none⟩ h
theorem two_on {W wx wy : World} {p q : Nat} {neg neg' : Bool} {ao ao' : Option Addr} {n cap n' cap' : Nat}
    (h : wx.cell? ⟨p, 0, none⟩ = some (.bool neg) ∧ wx.cell? ⟨p, 1, none⟩ = some (.slice ao n cap) ∧ wx.cell? ⟨q, 0, none⟩ = some (.bool neg') ∧ wx.cell? ⟨q, 1, none⟩ = some (.slice ao' n' cap') ∧ Below W.heap.size W wx) (hb : Below wx.heap.size wx wy) :
    wy.cell? ⟨p, 0, none⟩ = some (.bool neg) ∧ wy.cell? ⟨p, 1, none⟩ = some (.slice ao n cap) ∧ wy.cell? ⟨q, 0, none⟩ = some (.bool neg') ∧ wy.cell? ⟨q, 1, none⟩ = some (.slice ao' n' cap') ∧ Below W.heap.size W wy := by
  obtain ⟨h1, h2, h3, h4, h5⟩ := h
  exact ⟨(hb.cell (p := ⟨p, 0, none⟩) (cell_lt h1)).trans h1, (hb.cell (p := ⟨p, 1, none⟩) (cell_lt h1)).trans h2, (hb.cell (p := ⟨q, 0, none⟩) (cell_lt h3)).trans h3, (hb.cell (p := ⟨q, 1, none⟩) (cell_lt h3)).trans h4, Bt h5 hb⟩
theorem two_start (w : World) (neg neg' : Bool) (ao ao' : Option Addr) (n cap n' cap' : Nat) (t : TypeId) :
    ∀ W, W = ((w.alloc (.cells #[.bool neg, .slice ao n cap] t)).alloc (.cells #[.bool neg', .slice ao' n' cap'] t)) →
    W.cell? ⟨w.heap.size, 0, none⟩ = some (.bool neg) ∧ W.cell? ⟨w.heap.size, 1, none⟩ = some (.slice ao n cap) ∧ W.cell? ⟨w.heap.size + 1, 0, none⟩ = some (.bool neg') ∧ W.cell? ⟨w.heap.size + 1, 1, none⟩ = some (.slice ao' n' cap') ∧ Below W.heap.size W W := by
  intro W hW
  subst hW
  refine ⟨?_, ?_, ?_, ?_, Below.refl _ _⟩ <;> simp
theorem two_bel {W wx : World} {p q : Nat} {neg neg' : Bool} {ao ao' : Option Addr} {n cap n' cap' : Nat}
    (h : wx.cell? ⟨p, 0, none⟩ = some (.bool neg) ∧ wx.cell? ⟨p, 1, none⟩ = some (.slice ao n cap) ∧ wx.cell? ⟨q, 0, none⟩ = some (.bool neg') ∧ wx.cell? ⟨q, 1, none⟩ = some (.slice ao' n' cap') ∧ Below W.heap.size W wx) : Below W.heap.size W wx := h.2.2.2.2
theorem two_drew {W wx : World} {p q : Nat} {neg neg' : Bool} {ao ao' : Option Addr} {n cap n' cap' : Nat}
    (h : wx.cell? ⟨p, 0, none⟩ = some (.bool neg) ∧ wx.cell? ⟨p, 1, none⟩ = some (.slice ao n cap) ∧ wx.cell? ⟨q, 0, none⟩ = some (.bool neg') ∧ wx.cell? ⟨q, 1, none⟩ = some (.slice ao' n' cap') ∧ Below W.heap.size W wx) :
    wx.drew.cell? ⟨p, 0, none⟩ = some (.bool neg) ∧ wx.drew.cell? ⟨p, 1, none⟩ = some (.slice ao n cap) ∧ wx.drew.cell? ⟨q, 0, none⟩ = some (.bool neg') ∧ wx.drew.cell? ⟨q, 1, none⟩ = some (.slice ao' n' cap') ∧ Below W.heap.size W wx.drew :=
  two_on h (Bd wx 1)

def allGood (N : Nat → Bool) (D : Nat → List Nat) (k : Nat) : Bool := (List.range k).all fun i => goodB (N i) (D i)
theorem allGood_succ (N : Nat → Bool) (D : Nat → List Nat) (k : Nat) : allGood N D (k + 1) = (allGood N D k && goodB (N k) (D k)) := by
  simp [allGood, List.range_succ]
theorem allGood_false {N : Nat → Bool} {D : Nat → List Nat} {k i : Nat} (hi : i < k) (h : goodB (N i) (D i) = false) : allGood N D k = false := by
  unfold allGood
  rw [List.all_eq_false]
  exact ⟨i, by simpa using hi, by simp [h]⟩

/-- The statements' own 'same': are two good ones the same? -/
def sameB (neg neg' : Bool) (l l' : List Nat) : Bool := goodB neg l && goodB neg' l' && (neg == neg') && (val B32 l == val B32 l')

theorem cmpR_zero (neg : Bool) (x y : Nat) : (cmpR neg neg x y == 0) = (x == y) := by
  rw [cmpR_eq]
  unfold cmpN
  by_cases h1 : x < y
  · have h2 : (x == y) = false := by simp; omega
    cases neg <;> simp [h1, h2]
  · by_cases h2 : x = y
    · subst h2; cases neg <;> simp
    · have h3 : (x == y) = false := by simp; exact h2
      cases neg <;> simp [h1, h2, h3]

end Go.Proofs.Ythgkonjglappjab

set_option linter.unusedVariables false
set_option linter.unusedSimpArgs false
namespace Go.Proofs.Ythgkonjglappjab
open Go.RowKit

theorem blk_on {w w2 : World} {o : Obj} {p : Nat} {c : Array Value} {t : TypeId} (h : w.heap[p]? = some (.cells c t (0, 0))) (hb : Below (p + 1) (w.alloc o) w2) : w2.heap[p]? = some (.cells c t (0, 0)) :=
  (hb.block p (by omega)).trans ((Below.heap_alloc w o p (Array.getElem?_eq_some_iff.1 h).1).trans h)

end Go.Proofs.Ythgkonjglappjab

set_option linter.unusedVariables false
set_option linter.unusedSimpArgs false
namespace Go.Proofs.Ythgkonjglappjab
open Go.RowKit

def b8 (d : Nat) : List Nat := [d % 256, d / 256 % 256, d / 65536 % 256, d / 16777216 % 256, d / 4294967296 % 256, d / 1099511627776 % 256, d / 281474976710656 % 256, d / 72057594037927936 % 256]
theorem b8_val (d : Nat) (h : d < 18446744073709551616) : val 256 (b8 d) = d := by
  simp only [b8, val]; omega
theorem b8_dg (d : Nat) : Dg 256 (b8 d) := by
  intro x hx
  simp only [b8, List.mem_cons, List.not_mem_nil, or_false] at hx
  omega
theorem not_big_64 (d : Nat) (h : d < 18446744073709551616) : ¬ Big d := by
  unfold Big
  have h1 : B32 ^ 2 ≤ B32 ^ 40 := Nat.pow_le_pow_right (by decide) (by decide)
  have h2 : B32 ^ 2 = 18446744073709551616 := by decide
  omega

end Go.Proofs.Ythgkonjglappjab

set_option linter.unusedVariables false
set_option linter.unusedSimpArgs false
namespace Go.Proofs.Ythgkonjglappjab
open Go.RowKit

theorem or_join (hi lo : Nat) (h1 : hi < 4294967296) (h2 : lo < 4294967296) : bits .or .u64 ((hi : Int) * 4294967296) (lo : Int) = ((hi * 4294967296 + lo : Nat) : Int) := by
  rw [show ((hi : Int) * 4294967296) = ((hi * 4294967296 : Nat) : Int) by omega, u64_or_nat _ _ (by omega) (by omega), nat_join 32 _ _ (by omega) (by omega)]
theorem div_fits (z v : Nat) (h : z / v < 4294967296) : IntKind.u64.wrap ((z : Int).tdiv v) % 4294967296 = ((z / v : Nat) : Int) := by
  rw [← Int.ofNat_tdiv, IntKind.wrap_u64]; generalize z / v = q at *; omega
theorem mod_fits (z v : Nat) (h : z % v < 4294967296) : (z : Int).tmod v % 4294967296 = ((z % v : Nat) : Int) := by
  rw [← Int.ofNat_tmod]; generalize z % v = q at *; omega
theorem ret_two {a b c d : Value} (h1 : a = c) (h2 : b = d) : Ending.returned (.tuple #[a, b]) = .returned (.tuple #[c, d]) := by rw [h1, h2]

/-- One step of a division by a small number, from the top. -/
theorem divStep {B r v q : Nat} (hv : 0 < v) (m : Nat) (L : List Nat) (hm : m < L.length) (h1 : val B (L.drop (m + 1)) = q * v + r) (hr : r < v) :
    val B (L.drop m) = ((r * B + L.getD m 0) / v + B * q) * v + (r * B + L.getD m 0) % v := by
  rw [val_drop_succ B L m hm, h1]
  have := Nat.div_add_mod (r * B + L.getD m 0) v
  rw [Nat.add_mul, Nat.mul_add, Nat.mul_assoc B q v, Nat.mul_comm B r]
  rw [Nat.mul_comm v] at this
  omega

theorem set_take_append {l q : List Nat} {m x : Nat} (hm : m < l.length) : (l.take (m + 1) ++ q).set m x = l.take m ++ (x :: q) := by
  rw [take_snoc l m hm, List.append_assoc, List.set_append, if_neg (by rw [List.length_take]; omega), List.length_take, Nat.min_eq_left (by omega)]
  simp

end Go.Proofs.Ythgkonjglappjab

set_option linter.unusedVariables false
set_option linter.unusedSimpArgs false
namespace Go.Proofs.Ythgkonjglappjab
open Go.RowKit

/-- What a division of rows answers. -/
def DivPost (w : World) (l l' : List Nat) (e : Ending) (w' : World) : Prop :=
  ∃ aq nq cq ar nr cr q r, e = .returned (.tuple #[.slice aq nq cq, .slice ar nr cr]) ∧ Row .u32 B32 w' aq nq cq q ∧ Row .u32 B32 w' ar nr cr r ∧ val B32 q = val B32 l / val B32 l' ∧ val B32 r = val B32 l % val B32 l' ∧ nq ≤ 100 ∧ nr ≤ 100 ∧ Below w.heap.size w w'

theorem Onto.row_ {k : IntKind} {e : TypeId} {g n : Nat} {w w' : World} {cur : Array Value} {l : List Nat} {B cap : Nat} (h : Onto k e g 0 n w w' cur l) (hd : Dg B l) (h1 : n ≤ cap) (h2 : cap ≤ maxLen) : Row k B w' (some ⟨g, 0, none⟩) n cap l := by
  obtain ⟨c, hw⟩ := h.win
  exact ⟨hw.len, h1, h2, fun h => (by cases h), hd, hw.rd⟩

theorem keep2 {wx wy : World} {p q : Nat} {u v : Value} (h : wx.cell? ⟨p, 0, none⟩ = some u ∧ wx.cell? ⟨q, 0, none⟩ = some v) (hb : Below wx.heap.size wx wy) : wy.cell? ⟨p, 0, none⟩ = some u ∧ wy.cell? ⟨q, 0, none⟩ = some v :=
  ⟨(hb.cell (p := ⟨p, 0, none⟩) (cell_lt h.1)).trans h.1, (hb.cell (p := ⟨q, 0, none⟩) (cell_lt h.2)).trans h.2⟩

theorem keep2s {wx : World} {p q s : Nat} {u v u' v' : Value} (h : wx.cell? ⟨p, 0, none⟩ = some u ∧ wx.cell? ⟨q, 0, none⟩ = some v) (hp : p ≠ s) (hq : q ≠ s) :
    ((wx.setCell ⟨s, 0, none⟩ u').setCell ⟨s, 1, none⟩ v').cell? ⟨p, 0, none⟩ = some u ∧ ((wx.setCell ⟨s, 0, none⟩ u').setCell ⟨s, 1, none⟩ v').cell? ⟨q, 0, none⟩ = some v :=
  ⟨(World.cell?_of_block (w := wx) (a := ⟨p, 0, none⟩) ((Below.heap_setCell _ _ _ _ hp).trans (Below.heap_setCell _ _ _ _ hp))).trans h.1, (World.cell?_of_block (w := wx) (a := ⟨q, 0, none⟩) ((Below.heap_setCell _ _ _ _ hq).trans (Below.heap_setCell _ _ _ _ hq))).trans h.2⟩

/-- What Div answers of good ones, the divisor not nought. -/
def DivAns (w : World) (neg neg' : Bool) (x y : Nat) (e : Ending) (w' : World) : Prop :=
  ∃ xq xr lq lr, e = .returned (.tuple #[xq, xr, .int .i64 0]) ∧ IntIs w' xq ((neg != neg') && decide (lq ≠ [])) lq ∧ Tr lq ∧ val B32 lq = x / y ∧ IntIs w' xr (neg && decide (lr ≠ [])) lr ∧ Tr lr ∧ val B32 lr = x % y ∧ Below w.heap.size w w'

end Go.Proofs.Ythgkonjglappjab

set_option linter.unusedVariables false
set_option linter.unusedSimpArgs false
namespace Go.Proofs.Ythgkonjglappjab
open Go.RowKit

/-- What a byte says as a digit; 36: nothing. -/
def dgt (c : Nat) : Nat := if 48 ≤ c ∧ c ≤ 57 then c - 48 else if 97 ≤ c ∧ c ≤ 122 then c - 87 else if 65 ≤ c ∧ c ≤ 90 then c - 55 else 36
theorem dgt_le (c : Nat) : dgt c ≤ 36 := by unfold dgt; split <;> (try split) <;> (try split) <;> omega

/-- One step of a product with a small number. -/
theorem mulStep {B f vq P vt d x cc : Nat} (h : vq + P * cc = vt * f + d) : vq + P * ((x * f + cc) % B) + P * B * ((x * f + cc) / B) = (vt + P * x) * f + d := by
  have h1 := Nat.div_add_mod (x * f + cc) B
  have h2 : P * ((x * f + cc) % B) + P * B * ((x * f + cc) / B) = P * (x * f + cc) := by
    rw [Nat.mul_assoc, ← Nat.mul_add, Nat.add_comm ((x * f + cc) % B), h1]
  rw [Nat.add_assoc, h2, Nat.mul_add, Nat.add_mul, Nat.mul_assoc P x f]
  omega
theorem set_append_drop {q l : List Nat} {m x : Nat} (hq : q.length = m) (hm : m < l.length) : (q ++ l.drop m).set m x = q ++ [x] ++ l.drop (m + 1) := by
  rw [drop_cons l m hm, List.set_append, if_neg (by omega), hq, Nat.sub_self]
  simp

end Go.Proofs.Ythgkonjglappjab

set_option linter.unusedVariables false
set_option linter.unusedSimpArgs false
namespace Go.Proofs.Ythgkonjglappjab
open Go.RowKit

/-- A text's bytes as numbers. -/
def bs (s : ByteArray) : List Nat := s.data.toList.map UInt8.toNat
theorem bs_length (s : ByteArray) : (bs s).length = s.size := by unfold bs; rw [List.length_map]; rfl
theorem bs_get (s : ByteArray) (k : Nat) (h : k < s.size) : (bs s).getD k 0 = (s[k]'h).toNat := by
  unfold bs
  rw [List.getD_eq_getElem?_getD, List.getElem?_map, List.getElem?_eq_getElem (show k < s.data.toList.length from h)]
  rfl
theorem bs_lt (s : ByteArray) : Dg 256 (bs s) := by
  intro x hx
  obtain ⟨c, _, rfl⟩ := List.mem_map.1 hx
  exact c.toNat_lt
theorem bs_extract (s : ByteArray) (a : Nat) : bs (s.extract a s.size) = (bs s).drop a := by
  unfold bs
  rw [Lib.extract_data, List.take_of_length_le (by rw [List.length_drop]; exact Nat.le_refl _), List.map_drop]
theorem empty_iff (s : ByteArray) : s.toList.isEmpty = decide (s.size = 0) := by
  rw [Lib.toList_data]
  by_cases h : s.size = 0
  · have : s.data.toList = [] := List.length_eq_zero_iff.1 h
    rw [this]; simp [h]
  · have : s.data.toList ≠ [] := fun e => h (by show s.data.toList.length = 0; rw [e]; rfl)
    simp only [h, decide_false]
    cases hl : s.data.toList with
    | nil => exact absurd hl this
    | cons => rfl

/-- A sign cut off. -/
def cutS : List Nat → Bool × List Nat
  | [] => (false, [])
  | c :: r => if c = 43 ∨ c = 45 then (decide (c = 45), r) else (false, c :: r)
theorem cutS_len (l : List Nat) : (cutS l).2.length ≤ l.length := by
  cases l with
  | nil => simp [cutS]
  | cons c r => by_cases h : c = 43 ∨ c = 45 <;> simp [cutS, h]

end Go.Proofs.Ythgkonjglappjab

set_option linter.unusedVariables false
set_option linter.unusedSimpArgs false
namespace Go.Proofs.Ythgkonjglappjab
open Go.RowKit

/-- The number that digits say, the highest first. -/
def hv (radix : Nat) (l : List Nat) : Nat := l.foldl (fun a c => a * radix + dgt c) 0
theorem hv_snoc (radix : Nat) (l : List Nat) (c : Nat) : hv radix (l ++ [c]) = hv radix l * radix + dgt c := by simp [hv]
theorem hv_take_succ (radix : Nat) (l : List Nat) (k : Nat) (h : k < l.length) : hv radix (l.take (k + 1)) = hv radix (l.take k) * radix + dgt (l.getD k 0) := by
  rw [take_snoc l k h, hv_snoc]
theorem hv_mono (radix : Nat) (hr : 1 ≤ radix) (l : List Nat) : ∀ k j, k + j ≤ l.length → hv radix (l.take k) ≤ hv radix (l.take (k + j))
  | k, 0, _ => Nat.le_refl _
  | k, j + 1, h => by
    have ih := hv_mono radix hr l k j (by omega)
    rw [← Nat.add_assoc, hv_take_succ radix l (k + j) (by omega)]
    have : hv radix (l.take (k + j)) * 1 ≤ hv radix (l.take (k + j)) * radix := Nat.mul_le_mul_left _ hr
    omega
/-- Behind a product without a carry there is no nought at the end. -/
theorem tr_of_ge {B : Nat} {l l' : List Nat} (hB : 1 < B) (hl : l.length = l'.length) (ht : Tr l) (hd : Dg B l') (h : val B l ≤ val B l') : Tr l' := by
  by_cases h0 : l' = []
  · exact .inl h0
  · refine .inr fun hz => ?_
    have hn : 0 < l'.length := List.length_pos_iff.2 h0
    have h1 := ht.pos (B := B) (by omega) (by intro e; rw [e] at hl; simp at hl; omega)
    have e1 : val B l' = val B (l'.take (l'.length - 1)) := by
      have h2 := val_take_zero B l' (l'.length - 1) (by omega) hz
      rw [show l'.length - 1 + 1 = l'.length by omega, List.take_of_length_le (Nat.le_refl _)] at h2
      exact h2
    have h3 := val_lt (hd.take (l'.length - 1))
    rw [List.length_take, Nat.min_eq_left (by omega), ← e1, ← hl] at h3
    omega
theorem tr_snoc {l : List Nat} {c : Nat} (h : c ≠ 0) : Tr (l ++ [c]) := .inr (by rw [getD_append_at (by simp)]; exact h)
theorem big_of {l : List Nat} {c v : Nat} (hl : l.length = 40) (hc : c ≠ 0) (h : val B32 l + B32 ^ 40 * c = v) : Big v := by
  unfold Big
  have : B32 ^ 40 * 1 ≤ B32 ^ 40 * c := Nat.mul_le_mul_left _ (by omega)
  omega

/-- What rowOf answers. -/
def RowPost (w : World) (v : Nat) (e : Ending) (w' : World) : Prop :=
  ((¬ Big v ∧ ∃ ao n cap r, e = .returned (.tuple #[.slice ao n cap, .bool true]) ∧ Row .u32 B32 w' ao n cap r ∧ Tr r ∧ val B32 r = v ∧ n ≤ 40) ∨ (Big v ∧ e = .returned (.tuple #[.slice none 0 0, .bool false]))) ∧ Below w.heap.size w w'

end Go.Proofs.Ythgkonjglappjab

set_option linter.unusedVariables false
set_option linter.unusedSimpArgs false
namespace Go.Proofs.Ythgkonjglappjab
open Go.RowKit

def zeroInt : Value := .agg #[.bool false, .slice none 0 0]
/-- Is a text, its sign cut off, one digit or more of that radix? -/
def digitsB (radix : Int) (l : List Nat) : Bool := l.all (fun c => decide ((dgt c : Int) < radix)) && decide (l ≠ [])
/-- What Parse answers. -/
def ParsePost (w : World) (s : List Nat) (radix : Int) (e : Ending) (w' : World) : Prop :=
  ∃ x en, e = .returned (.tuple #[x, .int .i64 en]) ∧ Below w.heap.size w w' ∧
    ((¬ (2 ≤ radix ∧ radix ≤ 36) ∧ x = .agg #[.bool false, .slice none 0 0] ∧ en = 1) ∨
     ((2 ≤ radix ∧ radix ≤ 36) ∧ digitsB radix (cutS s).2 = false ∧ x = .agg #[.bool false, .slice none 0 0] ∧ en = 12) ∨
     ((2 ≤ radix ∧ radix ≤ 36) ∧ digitsB radix (cutS s).2 = true ∧ Ans w' x en (cutS s).1 (hv radix.toNat (cutS s).2)))

end Go.Proofs.Ythgkonjglappjab

set_option linter.unusedVariables false
set_option linter.unusedSimpArgs false
namespace Go.Proofs.Ythgkonjglappjab
open Go.RowKit

/-- A row whose outer k places on each side are turned round. -/
def Turned (n k : Nat) (l L : List Nat) : Prop := ∀ x, x < n → L.getD x 0 = if x < k ∨ n ≤ x + k then l.getD (n - 1 - x) 0 else l.getD x 0
theorem turned_start (n : Nat) (l : List Nat) : Turned n 0 l l := by
  intro x hx
  rw [if_neg (by omega)]
theorem turned_step {n k j : Nat} {l L : List Nat} (hn : k + j + 1 = n) (hkj : k < j) (hL : L.length = n) (h : Turned n k l L) : Turned n (k + 1) l ((L.set k (l.getD j 0)).set j (l.getD k 0)) := by
  intro x hx
  rw [getD_set (by simp; omega), getD_set (by omega)]
  by_cases h1 : x = j
  · subst h1
    rw [if_pos rfl, if_pos (by omega), show n - 1 - x = k by omega]
  · rw [if_neg h1]
    by_cases h2 : x = k
    · subst h2
      rw [if_pos rfl, if_pos (by omega), show n - 1 - x = j by omega]
    · rw [if_neg h2, h x hx]
      by_cases h3 : x < k ∨ n ≤ x + k
      · rw [if_pos h3, if_pos (by omega)]
      · rw [if_neg h3, if_neg (by omega)]
theorem turned_end {n k j : Nat} {l L : List Nat} (hn : k + j + 1 = n) (hkj : j ≤ k) (hl : l.length = n) (hL : L.length = n) (h : Turned n k l L) : L = l.reverse := by
  apply List.ext_getElem (by simp [hl, hL])
  intro i h1 h2
  have hi : i < n := by omega
  have := h i hi
  rw [List.getD_eq_getElem?_getD, List.getElem?_eq_getElem h1] at this
  rw [List.getElem_reverse]
  simp only [Option.getD_some] at this
  rw [this]
  by_cases h3 : i < k ∨ n ≤ i + k
  · rw [if_pos h3, List.getD_eq_getElem?_getD, List.getElem?_eq_getElem (by omega)]
    simp only [Option.getD_some, hl]
  · rw [if_neg h3, List.getD_eq_getElem?_getD, List.getElem?_eq_getElem (by omega)]
    simp only [Option.getD_some, hl]
    congr 1
    omega

/-- A digit's letter. -/
def chr (d : Nat) : Nat := if d < 10 then 48 + d else 87 + d
theorem chr_lt {d : Nat} (h : d < 36) : chr d < 256 := by unfold chr; split <;> omega
def digitText : ByteArray := ⟨#[48, 49, 50, 51, 52, 53, 54, 55, 56, 57, 97, 98, 99, 100, 101, 102, 103, 104, 105, 106, 107, 108, 109, 110, 111, 112, 113, 114, 115, 116, 117, 118, 119, 120, 121, 122]⟩

theorem dt_get (d : Nat) (h : d < 36) : (digitText[d]'h).toNat = chr d := by
  have : ∀ d : Fin 36, (digitText[d.1]'d.2).toNat = chr d.1 := by decide
  exact this ⟨d, h⟩
theorem pow_bound {l : List Nat} (h : Dg B32 l) (hl : l.length ≤ 40) : ∃ N, N ≤ 1280 ∧ val B32 l < 2 ^ N := by
  refine ⟨32 * l.length, by omega, ?_⟩
  have := val_lt h
  rw [show B32 = 2 ^ 32 from rfl, ← Nat.pow_mul] at this
  exact this

theorem half_lt {v radix gk : Nat} (hr : 2 ≤ radix) (hv : v ≠ 0) (h : v < 2 ^ gk) : 1 ≤ gk ∧ v / radix < 2 ^ (gk - 1) := by
  cases gk with
  | zero => simp at h; omega
  | succ k =>
    refine ⟨by omega, ?_⟩
    rw [Nat.add_sub_cancel, Nat.div_lt_iff_lt_mul (by omega)]
    rw [Nat.pow_succ] at h
    have : 2 ^ k * 2 ≤ 2 ^ k * radix := Nat.mul_le_mul_left _ hr
    omega
theorem print_val {radix vD P v V : Nat} (h : vD + P * v = V) : vD + P * (v % radix) + P * radix * (v / radix) = V := by
  rw [Nat.add_assoc, Nat.mul_assoc, ← Nat.mul_add, Nat.add_comm (v % radix), Nat.div_add_mod]; exact h

/-- What Print answers of a good one that is not nought. -/
def PrintPost (w : World) (neg : Bool) (v : Nat) (radix : Nat) (e : Ending) (w' : World) : Prop :=
  ∃ s D, e = .returned (.tuple #[.string s, .int .i64 0]) ∧ Dg radix D ∧ Tr D ∧ val radix D = v ∧ bs s = (if neg then [45] else []) ++ (D.map chr).reverse ∧ Below w.heap.size w w'

end Go.Proofs.Ythgkonjglappjab

set_option linter.unusedVariables false
set_option linter.unusedSimpArgs false
namespace Go.Proofs.Ythgkonjglappjab
open Go.RowKit

/-- A sign and a size as a number. -/
def sgn (neg : Bool) (v : Nat) : Int := if neg then - (v : Int) else v
/-- The value x is the good integer z. -/
def IsInt (w : World) (x : Value) (z : Int) : Prop := ∃ s l, IntIs w x s l ∧ goodB s l = true ∧ z = sgn s (val B32 l)
theorem IsInt.below {w w' : World} {x : Value} {z : Int} (h : IsInt w x z) (hb : Below w.heap.size w w') : IsInt w' x z := by
  obtain ⟨s, l, h1, h2, h3⟩ := h
  exact ⟨s, l, h1.below hb, h2, h3⟩
theorem good_of {neg : Bool} {l : List Nat} (ht : Tr l) (hl : l.length ≤ 40) : goodB (neg && decide (l ≠ [])) l = true := by
  refine goodB_mk ht hl fun h => ?_
  rw [List.length_eq_zero_iff.1 h]; simp
theorem sgn_of {neg : Bool} {l : List Nat} (ht : Tr l) : sgn (neg && decide (l ≠ [])) (val B32 l) = sgn neg (val B32 l) := by
  by_cases h : l = []
  · subst h; cases neg <;> simp [sgn, val]
  · simp [h]
theorem is_mk {w : World} {x : Value} {neg : Bool} {l : List Nat} (hI : IntIs w x (neg && decide (l ≠ [])) l) (ht : Tr l) (hb : ¬ Big (val B32 l)) : IsInt w x (sgn neg (val B32 l)) := by
  obtain ⟨ao, n, cap, rfl, R⟩ := hI
  exact ⟨_, l, ⟨ao, n, cap, rfl, R⟩, good_of ht ((small_len R.dg ht).2 hb), (sgn_of ht).symm⟩
theorem IsInt.open_ {w : World} {x : Value} {z : Int} (h : IsInt w x z) : ∃ s ao n cap l, x = .agg #[.bool s, .slice ao n cap] ∧ Row .u32 B32 w ao n cap l ∧ goodB s l = true ∧ z = sgn s (val B32 l) := by
  obtain ⟨s, l, ⟨ao, n, cap, h1, h2⟩, h3, h4⟩ := h
  exact ⟨s, ao, n, cap, l, h1, h2, h3, h4⟩
theorem good_small {s : Bool} {w : World} {ao : Option Addr} {n cap : Nat} {l : List Nat} (R : Row .u32 B32 w ao n cap l) (g : goodB s l = true) : ¬ Big (val B32 l) := (small_len R.dg (goodB_tr g)).1 (goodB_len g)

theorem sgn_inj {s s' : Bool} {l l' : List Nat} (hg : goodB s l = true) (hg' : goodB s' l' = true) : (sgn s (val B32 l) = sgn s' (val B32 l')) ↔ (s = s' ∧ val B32 l = val B32 l') := by
  have h1 : s = true → val B32 l ≠ 0 := fun hs => (goodB_tr hg).ne_zero (by decide) (fun e => by have := goodB_neg hg (by simp [e]); rw [hs] at this; cases this)
  have h2 : s' = true → val B32 l' ≠ 0 := fun hs => (goodB_tr hg').ne_zero (by decide) (fun e => by have := goodB_neg hg' (by simp [e]); rw [hs] at this; cases this)
  constructor
  · intro h
    cases s <;> cases s' <;> simp [sgn] at * <;> omega
  · rintro ⟨rfl, h⟩
    rw [h]
theorem sameB_of {s s' : Bool} {l l' : List Nat} (hg : goodB s l = true) (hg' : goodB s' l' = true) : sameB s s' l l' = decide (sgn s (val B32 l) = sgn s' (val B32 l')) := by
  unfold sameB
  rw [hg, hg']
  rw [Bool.eq_iff_iff]
  simp only [Bool.and_eq_true, Bool.true_and, beq_iff_eq, decide_eq_true_eq]
  rw [sgn_inj hg hg']

theorem sgn_div (s s' : Bool) (v u : Nat) : sgn (s != s') (v / u) = (sgn s v).tdiv (sgn s' u) := by
  unfold sgn
  cases s <;> cases s' <;> simp [Int.neg_tdiv, Int.tdiv_neg, ← Int.ofNat_tdiv]
theorem sgn_mod (s s' : Bool) (v u : Nat) : sgn s (v % u) = (sgn s v).tmod (sgn s' u) := by
  unfold sgn
  cases s <;> cases s' <;> simp [Int.neg_tmod, Int.tmod_neg, ← Int.ofNat_tmod]

theorem not_big_le {u v : Nat} (h : u ≤ v) (hv : ¬ Big v) : ¬ Big u := by unfold Big at *; omega

end Go.Proofs.Ythgkonjglappjab

set_option linter.unusedVariables false
set_option linter.unusedSimpArgs false
namespace Go.Proofs.Ythgkonjglappjab
open Go.RowKit

theorem zero_is (w : World) : IsInt w (.agg #[.bool false, .slice none 0 0]) 0 := ⟨false, [], ⟨none, 0, 0, rfl, Row.nil _ _ _ _⟩, rfl, rfl⟩

theorem map_toNat_inj : ∀ {a b : List UInt8}, a.map UInt8.toNat = b.map UInt8.toNat → a = b
  | [], [], _ => rfl
  | [], _ :: _, h => by simp at h
  | _ :: _, [], h => by simp at h
  | x :: a, y :: b, h => by
    simp only [List.map_cons, List.cons.injEq] at h
    rw [UInt8.toNat_inj.1 h.1, map_toNat_inj h.2]
theorem bs_inj {s : ByteArray} {l : List UInt8} (h : bs s = l.map UInt8.toNat) : s.toList = l := by
  rw [Lib.toList_data]
  exact map_toNat_inj h

theorem six_on {W wx wy : World} {p q r : Nat} {a0 a1 b0 b1 c0 c1 : Value}
    (h : wx.cell? ⟨p, 0, none⟩ = some a0 ∧ wx.cell? ⟨p, 1, none⟩ = some a1 ∧ wx.cell? ⟨q, 0, none⟩ = some b0 ∧ wx.cell? ⟨q, 1, none⟩ = some b1 ∧ wx.cell? ⟨r, 0, none⟩ = some c0 ∧ wx.cell? ⟨r, 1, none⟩ = some c1 ∧ Below W.heap.size W wx) (hb : Below wx.heap.size wx wy) :
    wy.cell? ⟨p, 0, none⟩ = some a0 ∧ wy.cell? ⟨p, 1, none⟩ = some a1 ∧ wy.cell? ⟨q, 0, none⟩ = some b0 ∧ wy.cell? ⟨q, 1, none⟩ = some b1 ∧ wy.cell? ⟨r, 0, none⟩ = some c0 ∧ wy.cell? ⟨r, 1, none⟩ = some c1 ∧ Below W.heap.size W wy := by
  obtain ⟨h1, h2, h3, h4, h5, h6, h7⟩ := h
  exact ⟨(hb.cell (p := ⟨p, 0, none⟩) (cell_lt h1)).trans h1, (hb.cell (p := ⟨p, 1, none⟩) (cell_lt h1)).trans h2, (hb.cell (p := ⟨q, 0, none⟩) (cell_lt h3)).trans h3, (hb.cell (p := ⟨q, 1, none⟩) (cell_lt h3)).trans h4, (hb.cell (p := ⟨r, 0, none⟩) (cell_lt h5)).trans h5, (hb.cell (p := ⟨r, 1, none⟩) (cell_lt h5)).trans h6, Bt h7 hb⟩
theorem six_bel {W wx : World} {p q r : Nat} {a0 a1 b0 b1 c0 c1 : Value}
    (h : wx.cell? ⟨p, 0, none⟩ = some a0 ∧ wx.cell? ⟨p, 1, none⟩ = some a1 ∧ wx.cell? ⟨q, 0, none⟩ = some b0 ∧ wx.cell? ⟨q, 1, none⟩ = some b1 ∧ wx.cell? ⟨r, 0, none⟩ = some c0 ∧ wx.cell? ⟨r, 1, none⟩ = some c1 ∧ Below W.heap.size W wx) : Below W.heap.size W wx := h.2.2.2.2.2.2

end Go.Proofs.Ythgkonjglappjab

set_option linter.unusedVariables false
set_option linter.unusedSimpArgs false
namespace Go.Proofs.Ythgkonjglappjab
open Go.RowKit

theorem keepb {wx wy : World} {p : Nat} {u v : Value} (h : wx.cell? ⟨p, 0, none⟩ = some u ∧ wx.cell? ⟨p, 1, none⟩ = some v) (hb : Below wx.heap.size wx wy) : wy.cell? ⟨p, 0, none⟩ = some u ∧ wy.cell? ⟨p, 1, none⟩ = some v :=
  ⟨(hb.cell (p := ⟨p, 0, none⟩) (cell_lt h.1)).trans h.1, (hb.cell (p := ⟨p, 1, none⟩) (cell_lt h.1)).trans h.2⟩
theorem keepbs {wx : World} {p s : Nat} {u v u' v' : Value} (h : wx.cell? ⟨p, 0, none⟩ = some u ∧ wx.cell? ⟨p, 1, none⟩ = some v) (hp : p ≠ s) :
    ((wx.setCell ⟨s, 0, none⟩ u').setCell ⟨s, 1, none⟩ v').cell? ⟨p, 0, none⟩ = some u ∧ ((wx.setCell ⟨s, 0, none⟩ u').setCell ⟨s, 1, none⟩ v').cell? ⟨p, 1, none⟩ = some v :=
  ⟨(World.cell?_of_block (w := wx) (a := ⟨p, 0, none⟩) ((Below.heap_setCell _ _ _ _ hp).trans (Below.heap_setCell _ _ _ _ hp))).trans h.1, (World.cell?_of_block (w := wx) (a := ⟨p, 1, none⟩) ((Below.heap_setCell _ _ _ _ hp).trans (Below.heap_setCell _ _ _ _ hp))).trans h.2⟩

/-- What a turned sign is. -/
theorem sgn_neg (s : Bool) (v : Nat) : sgn (!s) v = - sgn s v := by cases s <;> simp [sgn]

end Go.Proofs.Ythgkonjglappjab

set_option linter.unusedVariables false
set_option linter.unusedSimpArgs false
namespace Go.Proofs.Ythgkonjglappjab
open Go.RowKit

section
variable {P : Program} {w : World} {ops : Array Oper} {o : Oper} {a : Act} {K : Act → World → Prop} {Q : Exit → Act → World → Prop} {E : Prop}

/-- 'append(own, src...)' as a step of a region that draws its order. -/
theorem stepRow (hgd : o.guard = none) (s x : Operand) (t : TypeId) (ho : o.op = .call { callee := .builtin .append, args := #[s, x], argTypes := #[t, t] })
    (base : Nat) (e : TypeId) (k : IntKind) (bytes : Nat) (hby : bytes ≤ 8) (ht : P.underlying t = some (.slice e)) (hi : (P.info? e).map (fun i => (i.zero, i.size, i.bytes)) = some (some (.int k 0), 1, bytes))
    (v : Value) (n : Nat) (l : List Nat) (hs : a.eval s = v) (hown : w.ownsRow base e 1 v n (cs k l))
    (B : Nat) (ao : Option Addr) (m c : Nat) (r : List Nat) (hx : a.eval x = .slice ao m c) (hr : Row k B w ao m c r) (hl : Dg B l) (hsm : n + m ≤ 1000000) (hbase : base ≤ w.heap.size)
    (h : ∀ ao' cap' w', Own k e B base w' ao' (n + m) cap' (l ++ r) → Below base w w' → K (a.put o.dst (.slice ao' (n + m) cap')) w') :
    if Region.wanted o (yielded ops a.tmps) = true then Oper.wp P o a w K Q else E := by
  have hw : Region.wanted o (yielded ops a.tmps) = true := by simp [Region.wanted, hgd]
  rw [if_pos hw]
  obtain ⟨i0, hi0, hz0, hz1, hz2⟩ := info_parts hi
  cases ao with
  | none =>
    have hc := hr.nil_ rfl
    subst hc
    have hm : m = 0 := by have := hr.fits; omega
    subst hm
    have hl2 : r = [] := List.length_eq_zero_iff.1 hr.len
    subst hl2
    have hrun := run_append_owned_none (P := P) (w := w) base t o.type e i0 1 ht hi0 v n (cs k l) hown
    obtain ⟨ao', cap', hv, hO⟩ := own_of hown hl
    subst hv
    unfold Oper.wp
    simp [execOp, ho, resolve, invoke, builtin, hs, hx, hrun, Result.andThen]
    exact h ao' cap' w (by simpa using hO) (Below.refl _ _)
  | some ad =>
    refine wp_append_own w s x t ho base e i0 (.int k 0) 1 bytes ht hi0 hz0 hz1 hz2 rfl (by decide) v n (cs k l) hs hown ad m c (cs k r) hx (by rw [cs_length, hr.len]; omega) ?_ (cs_one k r) (by unfold maxLen; omega) ?_ hbase ?_
    · intro j u hj
      obtain ⟨h1, rfl⟩ := cs_get hj
      obtain ⟨b, o', hao, _, hc⟩ := hr.rd.some (by omega)
      cases hao
      have := hc j h1
      unfold Addr.add
      by_cases hj0 : j = 0
      · subst hj0; simpa using this
      · rw [if_neg hj0]; exact this
    · have : (n + m) * bytes ≤ 1000000 * 8 := Nat.mul_le_mul hsm hby
      omega
    · intro v' w' h1 h2 _
      rw [← cs_append] at h1
      obtain ⟨ao', cap', hv, hO⟩ := own_of h1 (hl.append hr.dg)
      subst hv
      exact h ao' cap' w' hO (bel_of hown hbase h2)
theorem stepRowAt (d : Option Nat) (hd : o.dst = d) (hgd : o.guard = none) (s x : Operand) (t : TypeId) (ho : o.op = .call { callee := .builtin .append, args := #[s, x], argTypes := #[t, t] })
    (base : Nat) (e : TypeId) (k : IntKind) (bytes : Nat) (hby : bytes ≤ 8) (ht : P.underlying t = some (.slice e)) (hi : (P.info? e).map (fun i => (i.zero, i.size, i.bytes)) = some (some (.int k 0), 1, bytes))
    (v : Value) (n : Nat) (l : List Nat) (hs : a.eval s = v) (hown : w.ownsRow base e 1 v n (cs k l))
    (B : Nat) (ao : Option Addr) (m c : Nat) (r : List Nat) (hx : a.eval x = .slice ao m c) (hr : Row k B w ao m c r) (hl : Dg B l) (hsm : n + m ≤ 1000000) (hbase : base ≤ w.heap.size)
    (h : ∀ ao' cap' w', Own k e B base w' ao' (n + m) cap' (l ++ r) → Below base w w' → K (a.put d (.slice ao' (n + m) cap')) w') :
    if Region.wanted o (yielded ops a.tmps) = true then Oper.wp P o a w K Q else E := by
  subst hd
  exact stepRow hgd s x t ho base e k bytes hby ht hi v n l hs hown B ao m c r hx hr hl hsm hbase h
end

section
variable {P : Program} {ops : Array Oper} {Q : Exit → Act → World → Prop} {md : Region.Mode} {S : World → Prop}
/-- 'wpAnyH_take' with the slot named. -/
theorem htake (i : Nat) (d : Option Nat) (v : Value) {oi : Oper} {fuel : Nat} {listed : Array Bool} {a : Act} {w : World} (hi : ops[i]? = some oi) (hd : oi.dst = d)
    (hs : Region.noSelect ops = true) (hf : Region.free md ops listed i = true) (hr : (Region.ready md ops listed).contains i = true)
    (hQ : ∀ c a w, Q (.panic c) (a.put d v) w → Q (.panic c) a w) (hy : YieldsIf P ops S oi v a) (hS : S w)
    (h : wpAnyH P md ops Q S fuel (listed.setIfInBounds i true) (a.put d v) w) : wpAnyH P md ops Q S (fuel + 1) listed a w := by
  subst hd
  exact wpAnyH_take hi hs hf hr hQ hy hS h
/-- The one operation that may come up. -/
theorem hone (i : Nat) (o : Oper) {fuel : Nat} {listed : Array Bool} {a : Act} {w : World} (ho : ops[i]? = some o) (hr : Region.ready md ops listed = [i])
    (h : ∀ K' : Act → World → Prop, Shut (∀ a w, S w → (S w → wpAnyH P md ops Q S fuel (listed.setIfInBounds i true) a w) → K' a w) → if Region.wanted o (yielded ops a.tmps) = true then Oper.wp P o a w K' Q else K' (a.put o.dst undef) w) :
    wpAnyH P md ops Q S (fuel + 1) listed a w := wpAnyH_ready hr (by simp) (AllReadyH.cons ho h AllReadyH.nil)
end


end Go.Proofs.Ythgkonjglappjab

set_option linter.unusedVariables false
set_option linter.unusedSimpArgs false
namespace Go.Proofs.Ythgkonjglappjab
open Go.RowKit

section
variable {P : Program} {ops : Array Oper} {Q : Exit → Act → World → Prop} {md : Region.Mode} {S : World → Prop} {σ : Type} {L : σ → Array Bool} {m : σ → Nat} {Inv : σ → Act → World → Prop}

/-- Whichever of 'rs' comes up in state s, a state behind it is reached. -/
def Steps (P : Program) (ops : Array Oper) (Q : Exit → Act → World → Prop) (S : World → Prop) (L : σ → Array Bool) (m : σ → Nat) (Inv : σ → Act → World → Prop) (s : σ) (a : Act) (w : World) (rs : List Nat) : Prop :=
  ∀ i ∈ rs, wpOp P ops Q i (fun a' w' => S w' ∧ ∃ s', L s' = (L s).setIfInBounds i true ∧ m s = m s' + 1 ∧ Inv s' a' w') a w
theorem Steps.nil {s : σ} {a : Act} {w : World} : Steps P ops Q S L m Inv s a w [] := fun _ h => by cases h
theorem Steps.cons {s : σ} {a : Act} {w : World} {i : Nat} {o : Oper} {rs : List Nat} (s' : σ) (ho : ops[i]? = some o) (hL : L s' = (L s).setIfInBounds i true) (hm : m s = m s' + 1)
    (h : ∀ K' : Act → World → Prop, Shut (∀ a w, S w → Inv s' a w → K' a w) → if Region.wanted o (yielded ops a.tmps) = true then Oper.wp P o a w K' Q else K' (a.put o.dst undef) w)
    (hs : Steps P ops Q S L m Inv s a w rs) : Steps P ops Q S L m Inv s a w (i :: rs) := fun j hj => by
  rcases List.mem_cons.1 hj with rfl | hj
  · exact wpOp_step ho (fun K' hK => h K' (fun a w hS hW => hK a w ⟨hS, s', hL, hm, hW⟩))
  · exact hs j hj
theorem wpAnyH_inv (L : σ → Array Bool) (m : σ → Nat) (Inv : σ → Act → World → Prop) (base : Nat)
    (h : ∀ s a w, Inv s a w → (m s = 0 ∧ wpAnyH P md ops Q S base (L s) a w) ∨ (∃ rs, 0 < m s ∧ Region.ready md ops (L s) = rs ∧ rs ≠ [] ∧ Steps P ops Q S L m Inv s a w rs)) :
    ∀ n s a w, m s = n → Inv s a w → wpAnyH P md ops Q S (base + n) (L s) a w
  | 0, s, a, w, hn, hI => by
    rcases h s a w hI with ⟨_, h1⟩ | ⟨rs, h1, _⟩
    · exact h1
    · omega
  | n + 1, s, a, w, hn, hI => by
    rcases h s a w hI with ⟨h0, _⟩ | ⟨rs, _, h1, h2, h3⟩
    · omega
    · refine wpAnyH_all h1 h2 (fun i hi => wpOp_mono (fun a' w' => ?_) (h3 i hi))
      rintro ⟨hS, s', hL, hm, hI'⟩
      refine ⟨hS, ?_⟩
      rw [← hL]
      exact wpAnyH_inv L m Inv base h n s' a' w' (by omega) hI'
theorem wpAnyH_from (L : σ → Array Bool) (m : σ → Nat) (Inv : Act → σ → Act → World → Prop) (base n : Nat) (s : σ) {a0 : Act} {w : World} (hn : m s = n) (h0 : Inv a0 s a0 w)
    (h : ∀ s a w, Inv a0 s a w → (m s = 0 ∧ wpAnyH P md ops Q S base (L s) a w) ∨ (∃ rs, 0 < m s ∧ Region.ready md ops (L s) = rs ∧ rs ≠ [] ∧ Steps P ops Q S L m (Inv a0) s a w rs)) :
    wpAnyH P md ops Q S (base + n) (L s) a0 w := wpAnyH_inv L m (Inv a0) base h n s a0 w hn h0
end

end Go.Proofs.Ythgkonjglappjab
