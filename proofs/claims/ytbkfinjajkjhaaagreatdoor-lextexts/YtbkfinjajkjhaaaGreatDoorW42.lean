import Derived.Test.YtbkfinjajkjhaaaGreatDoorW14
import Derived.Test.YtbkfinjajkjhaaaGreatDoorW13
import Derived.Test.YtbkfinjajkjhaaaGreatDoorW3
import Derived.Laws.Bits128
set_option linter.unusedVariables false
set_option linter.unusedSimpArgs false
namespace Go.Proofs.YtbkfinjajkjhaaaGreatDoor
def blkB (c : Nat) : Bool := c == 32 || c == 9 || c == 10 || c == 13
def dlmB (c : Nat) : Bool := blkB c || (c == 40 || (c == 41 || (c == 34 || c == 59)))
def wordN : List Nat -> Nat
 | [] => 0
 | c :: r => if dlmB c then 0 else wordN r + 1
def lineN : List Nat -> Nat
 | [] => 0
 | c :: r => if c = 10 then 0 else lineN r + 1
def hasB (r t : List Nat) : Bool := decide (r.take t.length = t)
def remA : Nat -> List Nat -> Nat -> Nat -> Option Nat
 | 0, _, _, _ => none
 | n + 1, r, d, k => if r = [] then none
  else if hasB r [35, 124] then remA n (r.drop 2) (d + 1) (k + 2)
  else if hasB r [124, 35] then (if d = 1 then some (k + 2) else remA n (r.drop 2) (d - 1) (k + 2))
  else remA n (r.drop 1) d (k + 1)
def remN (r : List Nat) : Option Nat := remA r.length r 0 0
def skA : Nat -> List Nat -> Nat -> Nat × Bool
 | 0, _, k => (k, true)
 | n + 1, r, k => if r = [] then (k, true)
  else if blkB (r.getD 0 0) then skA n (r.drop 1) (k + 1)
  else if r.getD 0 0 = 59 then skA n (r.drop (lineN r)) (k + lineN r)
  else if hasB r [35, 124] then (match remN r with | none => (k, false) | some e => skA n (r.drop e) (k + e))
  else (k, true)
theorem dropN_cons {l : List Nat} {k : Nat} (h : k < l.length) : l.drop k = l.getD k 0 :: l.drop (k + 1) := by
 rw [List.drop_eq_getElem_cons h, List.getD_eq_getElem?_getD, List.getElem?_eq_getElem h]; rfl
theorem wordN_le : ∀ r : List Nat, wordN r <= r.length
 | [] => by simp [wordN]
 | c :: r => by unfold wordN; split <;> simp; exact wordN_le r
theorem wordN_stop {l : List Nat} {k : Nat} (h : k < l.length) (hd : dlmB (l.getD k 0) = true) : wordN (l.drop k) = 0 := by
 rw [dropN_cons h]; unfold wordN; rw [if_pos hd]
theorem wordN_go {l : List Nat} {k : Nat} (h : k < l.length) (hd : dlmB (l.getD k 0) = false) : wordN (l.drop k) = wordN (l.drop (k + 1)) + 1 := by
 rw [dropN_cons h]; conv => lhs; unfold wordN
 rw [if_neg (by rw [hd]; simp)]
theorem lineN_le : ∀ r : List Nat, lineN r <= r.length
 | [] => by simp [lineN]
 | c :: r => by unfold lineN; split <;> simp; exact lineN_le r
theorem hasB_len {r t : List Nat} (h : hasB r t = true) : t.length <= r.length := by
 unfold hasB at h
 have h' := congrArg List.length (of_decide_eq_true h)
 rw [List.length_take] at h'
 omega
theorem remA_fuel : ∀ (n m : Nat) (r : List Nat) (d k : Nat), r.length <= n -> r.length <= m -> remA n r d k = remA m r d k
 | 0, 0, _, _, _, _, _ => rfl
 | 0, m + 1, r, d, k, h, _ => by
  have : r = [] := List.length_eq_zero_iff.1 (by omega)
  unfold remA; rw [if_pos this]
 | n + 1, 0, r, d, k, _, h => by
  have : r = [] := List.length_eq_zero_iff.1 (by omega)
  unfold remA; rw [if_pos this]
 | n + 1, m + 1, r, d, k, h, h' => by
  by_cases e : r = []
  ·unfold remA; rw [if_pos e, if_pos e]
  ·have hl : 0 < r.length := List.length_pos_iff.2 e
   unfold remA
   rw [if_neg e, if_neg e, remA_fuel n m (r.drop 2) (d + 1) (k + 2) (by rw [List.length_drop]; omega) (by rw [List.length_drop]; omega), remA_fuel n m (r.drop 2) (d - 1) (k + 2) (by rw [List.length_drop]; omega) (by rw [List.length_drop]; omega), remA_fuel n m (r.drop 1) d (k + 1) (by rw [List.length_drop]; omega) (by rw [List.length_drop]; omega)]
def remL (l : List Nat) (k d : Nat) : Option Nat := remA (l.length - k) (l.drop k) d k
theorem remL_end {l : List Nat} {k d : Nat} (h : ¬ k < l.length) : remL l k d = none := by
 unfold remL; rw [show l.length - k = 0 by omega]; rfl
theorem remL_go {l : List Nat} {k d : Nat} (h : k < l.length) : remL l k d = if hasB (l.drop k) [35, 124] then remL l (k + 2) (d + 1) else if hasB (l.drop k) [124, 35] then (if d = 1 then some (k + 2) else remL l (k + 2) (d - 1)) else remL l (k + 1) d := by
 unfold remL
 obtain ⟨m, hm⟩ : ∃ m, l.length - k = m + 1 := ⟨l.length - k - 1, by omega⟩
 have e : l.drop k ≠ [] := by intro e; have := congrArg List.length e; rw [List.length_drop] at this; simp at this; omega
 rw [hm]
 conv => lhs; unfold remA
 rw [if_neg e, List.drop_drop, List.drop_drop]
 rw [remA_fuel m (l.length - (k + 2)) _ (d + 1) _ (by rw [List.length_drop]; omega) (by rw [List.length_drop]; omega), remA_fuel m (l.length - (k + 2)) _ (d - 1) _ (by rw [List.length_drop]; omega) (by rw [List.length_drop]; omega), remA_fuel m (l.length - (k + 1)) _ d _ (by rw [List.length_drop]; omega) (by rw [List.length_drop]; omega)]
theorem remA_shift : ∀ (n : Nat) (r : List Nat) (d k q : Nat), remA n r d (k + q) = (remA n r d k).map (· + q)
 | 0, _, _, _, _ => rfl
 | n + 1, r, d, k, q => by
  unfold remA
  rw [show k + q + 2 = k + 2 + q by omega, show k + q + 1 = k + 1 + q by omega, remA_shift n _ (d + 1), remA_shift n _ (d - 1), remA_shift n _ d]
  split
  ·rfl
  ·split
   ·rfl
   ·split
    ·split <;> rfl
    ·rfl
theorem remL_remN {l : List Nat} {k : Nat} (h : k <= l.length) : remL l k 0 = (remN (l.drop k)).map (· + k) := by
 unfold remL remN
 rw [List.length_drop]
 have := remA_shift (l.length - k) (l.drop k) 0 0 k
 rw [Nat.zero_add] at this
 exact this
end Go.Proofs.YtbkfinjajkjhaaaGreatDoor
set_option maxRecDepth 100000
namespace Go.Proofs.YtbkfinjajkjhaaaGreatDoor
open Go.RowKit
theorem bs_ext_at (s : ByteArray) (a b : Nat) : bs (s.extract a b) = ((bs s).drop a).take (b - a) := by
 unfold bs
 rw [ByteArray.data_extract, Array.toList_extract, List.extract_eq_take_drop, List.map_take, List.map_drop]
end Go.Proofs.YtbkfinjajkjhaaaGreatDoor
namespace Go.Proofs.YtbkfinjajkjhaaaGreatDoor
open Go.RowKit
theorem lineN_pos {r : List Nat} (h : r ≠ []) (h0 : r.getD 0 0 = 59) : 1 <= lineN r := by
 cases r with
 | nil => exact absurd rfl h
 | cons c r => simp at h0; subst h0; simp [lineN]
theorem remA_pos : ∀ (n : Nat) (r : List Nat) (d k e : Nat), remA n r d k = some e -> k + 2 <= e /\ e <= k + r.length
 | 0, _, _, _, _, h => by cases h
 | n + 1, r, d, k, e, h => by
  unfold remA at h
  split at h
  ·cases h
  ·rename_i hr
   have hl : 0 < r.length := List.length_pos_iff.2 hr
   split at h
   ·rename_i hh
    have h1 := hasB_len hh
    have := remA_pos n _ _ _ _ h
    rw [List.length_drop] at this
    simp at h1
    omega
   ·split at h
    ·rename_i hh
     have h1 := hasB_len hh
     simp at h1
     split at h
     ·cases h; omega
     ·have := remA_pos n _ _ _ _ h
      rw [List.length_drop] at this
      omega
    ·have := remA_pos n _ _ _ _ h
     rw [List.length_drop] at this
     omega
theorem remN_pos {r : List Nat} {e : Nat} (h : remN r = some e) : 2 <= e /\ e <= r.length := by
 have := remA_pos _ _ _ _ _ h; omega
theorem skA_fuel : ∀ (n m : Nat) (r : List Nat) (k : Nat), r.length <= n -> r.length <= m -> skA n r k = skA m r k
 | 0, 0, _, _, _, _ => rfl
 | 0, m + 1, r, k, h, _ => by
  have : r = [] := List.length_eq_zero_iff.1 (by omega)
  unfold skA; rw [if_pos this]
 | n + 1, 0, r, k, _, h => by
  have : r = [] := List.length_eq_zero_iff.1 (by omega)
  unfold skA; rw [if_pos this]
 | n + 1, m + 1, r, k, h, h' => by
  by_cases e : r = []
  ·unfold skA; rw [if_pos e, if_pos e]
  ·have hl : 0 < r.length := List.length_pos_iff.2 e
   unfold skA
   rw [if_neg e, if_neg e, skA_fuel n m (r.drop 1) (k + 1) (by rw [List.length_drop]; omega) (by rw [List.length_drop]; omega)]
   by_cases e1 : r.getD 0 0 = 59
   ·have := lineN_pos e e1
    rw [skA_fuel n m (r.drop (lineN r)) (k + lineN r) (by rw [List.length_drop]; omega) (by rw [List.length_drop]; omega)]
    simp only [if_pos e1]
   ·simp only [if_neg e1]
    cases hr : remN r with
    | none => rfl
    | some q =>
     have := remN_pos hr
     simp only
     rw [skA_fuel n m (r.drop q) (k + q) (by rw [List.length_drop]; omega) (by rw [List.length_drop]; omega)]
def skL (l : List Nat) (k : Nat) : Nat × Bool := skA (l.length - k) (l.drop k) k
theorem skL_end {l : List Nat} {k : Nat} (h : ¬ k < l.length) : skL l k = (k, true) := by
 unfold skL; rw [show l.length - k = 0 by omega]; rfl
theorem skL_go {l : List Nat} {k : Nat} (h : k < l.length) : skL l k = if blkB (l.getD k 0) then skL l (k + 1) else if l.getD k 0 = 59 then skL l (k + lineN (l.drop k)) else if hasB (l.drop k) [35, 124] then (match remL l k 0 with | none => (k, false) | some e => skL l e) else (k, true) := by
 unfold skL
 obtain ⟨m, hm⟩ : ∃ m, l.length - k = m + 1 := ⟨l.length - k - 1, by omega⟩
 have e : l.drop k ≠ [] := by intro e; have := congrArg List.length e; rw [List.length_drop] at this; simp at this; omega
 have hg : (l.drop k).getD 0 0 = l.getD k 0 := by rw [dropN_cons h]; rfl
 rw [hm]
 conv => lhs; unfold skA
 rw [if_neg e, hg, List.drop_drop, List.drop_drop, skA_fuel m (l.length - (k + 1)) _ (k + 1) (by rw [List.length_drop]; omega) (by rw [List.length_drop]; omega)]
 by_cases e1 : l.getD k 0 = 59
 ·have := lineN_pos e (by rw [hg]; exact e1)
  rw [skA_fuel m (l.length - (k + lineN (l.drop k))) _ (k + lineN (l.drop k)) (by rw [List.length_drop]; omega) (by rw [List.length_drop]; omega)]
  simp only [if_pos e1]
 ·simp only [if_neg e1]
  rw [remL_remN (by omega)]
  cases hr : remN (l.drop k) with
  | none => rfl
  | some q =>
   have := remN_pos hr
   rw [List.length_drop] at this
   simp only [Option.map_some]
   rw [List.drop_drop, skA_fuel m (l.length - (q + k)) _ (k + q) (by rw [List.length_drop]; omega) (by rw [List.length_drop]; omega), Nat.add_comm k q]
end Go.Proofs.YtbkfinjajkjhaaaGreatDoor
namespace Go.Proofs.YtbkfinjajkjhaaaGreatDoor
open Go.RowKit
end Go.Proofs.YtbkfinjajkjhaaaGreatDoor
namespace Go.Proofs.YtbkfinjajkjhaaaGreatDoor
open Go.RowKit
def sgn (neg : Bool) (v : Nat) : Int := if neg then - (v : Int) else v
def IsInt (w : World) (x : Value) (z : Int) : Prop := ∃ s l, IntIs w x s l /\ goodB s l = true /\ z = sgn s (val B32 l)
theorem IsInt.below {w w' : World} {x : Value} {z : Int} (h : IsInt w x z) (hb : Below w.heap.size w w') : IsInt w' x z := by
 obtain ⟨s, l, h1, h2, h3⟩ := h
 exact ⟨s, l, h1.below hb, h2, h3⟩
theorem good_of {neg : Bool} {l : List Nat} (ht : Tr l) (hl : l.length <= 40) : goodB (neg && decide (l ≠ [])) l = true := by
 refine goodB_mk ht hl fun h => ?_
 rw [List.length_eq_zero_iff.1 h]; simp
theorem sgn_of {neg : Bool} {l : List Nat} (ht : Tr l) : sgn (neg && decide (l ≠ [])) (val B32 l) = sgn neg (val B32 l) := by
 by_cases h : l = []
 ·subst h; cases neg <;> simp [sgn, val]
 ·simp [h]
theorem is_mk {w : World} {x : Value} {neg : Bool} {l : List Nat} (hI : IntIs w x (neg && decide (l ≠ [])) l) (ht : Tr l) (hb : ¬ Big (val B32 l)) : IsInt w x (sgn neg (val B32 l)) := by
 obtain ⟨ao, n, cap, rfl, R⟩ := hI
 exact ⟨_, l, ⟨ao, n, cap, rfl, R⟩, good_of ht ((small_len R.dg ht).2 hb), (sgn_of ht).symm⟩
theorem IsInt.open_ {w : World} {x : Value} {z : Int} (h : IsInt w x z) : ∃ s ao n cap l, x = .agg #[.bool s, .slice ao n cap] /\ Row .u32 B32 w ao n cap l /\ goodB s l = true /\ z = sgn s (val B32 l) := by
 obtain ⟨s, l, ⟨ao, n, cap, h1, h2⟩, h3, h4⟩ := h
 exact ⟨s, ao, n, cap, l, h1, h2, h3, h4⟩
end Go.Proofs.YtbkfinjajkjhaaaGreatDoor
namespace Go.Proofs.YtbkfinjajkjhaaaGreatDoor
open Go.RowKit
theorem zero_is (w : World) : IsInt w (.agg #[.bool false, .slice none 0 0]) 0 := ⟨false, [], ⟨none, 0, 0, rfl, Row.nil _ _ _ _⟩, rfl, rfl⟩
theorem map_toNat_inj : ∀ {a b : List UInt8}, a.map UInt8.toNat = b.map UInt8.toNat -> a = b
 | [], [], _ => rfl
 | [], _ :: _, h => by simp at h
 | _ :: _, [], h => by simp at h
 | x :: a, y :: b, h => by
  simp only [List.map_cons, List.cons.injEq] at h
  rw [UInt8.toNat_inj.1 h.1, map_toNat_inj h.2]
end Go.Proofs.YtbkfinjajkjhaaaGreatDoor
namespace Go.Proofs.YtbkfinjajkjhaaaGreatDoor
open Go.RowKit
theorem bs_append (s t : ByteArray) : bs (s ++ t) = bs s ++ bs t := by
 unfold bs; simp
end Go.Proofs.YtbkfinjajkjhaaaGreatDoor
