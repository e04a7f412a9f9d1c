/-
  Walks, of the document's answer: Utf.
-/
import Derived.Test.YtdekkieajffblaaG0
import Derived.Lib.ValidLaws
import Derived.Lib.RuneCount
import Derived.Laws.BitsAllLaws
set_option linter.unusedVariables false
set_option linter.unusedSimpArgs false
namespace Go.Proofs.Ytdekkieajffblaa
open Go.RowKit

/-- Is a number a letter's? -/
def letB (n : Int) : Bool := decide (0 ≤ n) && decide (n ≤ 1114111) && (decide (n < 55296) || decide (57343 < n))
theorem letB_valid (n : Int) : letB n = Utf8.valid n := by
  unfold letB Utf8.valid
  rw [Bool.eq_iff_iff]
  simp only [Bool.and_eq_true, Bool.or_eq_true, decide_eq_true_eq]
  omega

/-- The letter at a place and its bytes; nothing: 0, 0. -/
def runeD (s : ByteArray) (i : Nat) : Nat × Nat := if Utf8.decode s i = (65533, 1) then (0, 0) else Utf8.decode s i

theorem and192 : ∀ x : Fin 256, bits .and .u8 ((x.1 : Nat) : Int) 192 = ((x.1 / 64 * 64 : Nat) : Int) := by decide +kernel
theorem and63 : ∀ x : Fin 256, bits .and .u8 ((x.1 : Nat) : Int) 63 = ((x.1 % 64 : Nat) : Int) := by decide +kernel
theorem and31 : ∀ x : Fin 256, bits .and .i64 ((x.1 : Nat) : Int) 31 = ((x.1 % 32 : Nat) : Int) := by decide +kernel
theorem and15 : ∀ x : Fin 256, bits .and .i64 ((x.1 : Nat) : Int) 15 = ((x.1 % 16 : Nat) : Int) := by decide +kernel
theorem and7' : ∀ x : Fin 256, bits .and .i64 ((x.1 : Nat) : Int) 7 = ((x.1 % 8 : Nat) : Int) := by decide +kernel
theorem i64_or_nat (a b : Nat) (ha : a < 9223372036854775808) (hb : b < 9223372036854775808) : bits .or .i64 (a : Int) (b : Int) = ((a ||| b : Nat) : Int) := by
  have hx : a ||| b < 2 ^ 63 := Nat.or_lt_two_pow (by omega) (by omega)
  have h1 : (BitVec.ofInt 64 (a : Int)).toNat = a := by
    rw [BitVec.ofInt_natCast, BitVec.toNat_ofNat]; exact Nat.mod_eq_of_lt (by omega)
  have h2 : (BitVec.ofInt 64 (b : Int)).toNat = b := by
    rw [BitVec.ofInt_natCast, BitVec.toNat_ofNat]; exact Nat.mod_eq_of_lt (by omega)
  show IntKind.i64.wrap ((BitVec.ofInt 64 (a : Int) ||| BitVec.ofInt 64 (b : Int)).toNat : Int) = _
  rw [BitVec.toNat_or, h1, h2, IntKind.wrap_i64]
  omega
theorem i64_or_join (a b : Nat) (ha : a < 1048576) (hb : b < 64) : bits .or .i64 ((a : Int) * 64) (b : Int) = ((a * 64 + b : Nat) : Int) := by
  rw [show ((a : Int) * 64) = ((a * 64 : Nat) : Int) by omega, i64_or_nat _ _ (by omega) (by omega), nat_join 6 _ _ (by omega) (by omega)]

/-- The byte at place i. -/
def byteAt (s : ByteArray) (i : Nat) : Nat := (s.get! i).toNat
theorem byteAt_get {s : ByteArray} {i : Nat} (h : i < s.size) : (s[i]'h).toNat = byteAt s i := by
  unfold byteAt
  congr 1
  obtain ⟨d⟩ := s
  show d[i]'h = d[i]!
  rw [getElem!_pos d i h]
theorem byteAt_lt (s : ByteArray) (i : Nat) : byteAt s i < 256 := UInt8.toNat_lt _
/-- What lies behind the lead byte, taken up. -/
def cvs (s : ByteArray) (i c0 : Nat) : Nat → Nat
  | 0 => c0
  | j + 1 => cvs s i c0 j * 64 + byteAt s (i + (j + 1)) % 64
theorem cvs_lt (s : ByteArray) (i c0 : Nat) (h : c0 < 32) : ∀ j, cvs s i c0 j < 32 * 64 ^ j
  | 0 => by simpa [cvs] using h
  | j + 1 => by
    have := cvs_lt s i c0 h j
    unfold cvs
    rw [Nat.pow_succ]; omega
def conts (s : ByteArray) (i j : Nat) : Prop := ∀ q, q < j → i + (q + 1) < s.size ∧ byteAt s (i + (q + 1)) / 64 = 2

theorem decode_eq (s : ByteArray) (i : Nat) : Utf8.decode s i =
    (if byteAt s i < 128 then (byteAt s i, 1)
    else if byteAt s i / 32 == 6 && (decide (i + 1 < s.size) && byteAt s (i + 1) / 64 == 2) then
      (if byteAt s i % 32 * 64 + byteAt s (i + 1) % 64 ≥ 128 then (byteAt s i % 32 * 64 + byteAt s (i + 1) % 64, 2) else (65533, 1))
    else if byteAt s i / 16 == 14 && (decide (i + 1 < s.size) && byteAt s (i + 1) / 64 == 2) && (decide (i + 2 < s.size) && byteAt s (i + 2) / 64 == 2) then
      (if decide (byteAt s i % 16 * 4096 + byteAt s (i + 1) % 64 * 64 + byteAt s (i + 2) % 64 ≥ 2048) && Utf8.valid (byteAt s i % 16 * 4096 + byteAt s (i + 1) % 64 * 64 + byteAt s (i + 2) % 64 : Nat) then (byteAt s i % 16 * 4096 + byteAt s (i + 1) % 64 * 64 + byteAt s (i + 2) % 64, 3) else (65533, 1))
    else if byteAt s i / 8 == 30 && (decide (i + 1 < s.size) && byteAt s (i + 1) / 64 == 2) && (decide (i + 2 < s.size) && byteAt s (i + 2) / 64 == 2) && (decide (i + 3 < s.size) && byteAt s (i + 3) / 64 == 2) then
      (if decide (byteAt s i % 8 * 262144 + byteAt s (i + 1) % 64 * 4096 + byteAt s (i + 2) % 64 * 64 + byteAt s (i + 3) % 64 ≥ 65536) && Utf8.valid (byteAt s i % 8 * 262144 + byteAt s (i + 1) % 64 * 4096 + byteAt s (i + 2) % 64 * 64 + byteAt s (i + 3) % 64 : Nat) then (byteAt s i % 8 * 262144 + byteAt s (i + 1) % 64 * 4096 + byteAt s (i + 2) % 64 * 64 + byteAt s (i + 3) % 64, 4) else (65533, 1))
    else (65533, 1)) := by
  rfl

/-- The letter, class by class. -/
theorem runeD_1 {s : ByteArray} {i : Nat} (h : byteAt s i < 128) : runeD s i = (byteAt s i, 1) := by
  unfold runeD; rw [decode_eq, if_pos h, if_neg]; intro e; simp at e; omega
theorem runeD_bad {s : ByteArray} {i : Nat} (h : (128 ≤ byteAt s i ∧ byteAt s i < 192) ∨ 248 ≤ byteAt s i) : runeD s i = (0, 0) := by
  unfold runeD
  rw [if_pos]
  rw [decode_eq, if_neg (by omega), if_neg, if_neg, if_neg] <;> simp <;> omega
theorem runeD_2 {s : ByteArray} {i : Nat} (h1 : 192 ≤ byteAt s i) (h2 : byteAt s i < 224) : runeD s i = if i + 1 < s.size ∧ byteAt s (i + 1) / 64 = 2 ∧ 128 ≤ cvs s i (byteAt s i % 32) 1 then (cvs s i (byteAt s i % 32) 1, 2) else (0, 0) := by
  unfold runeD
  have e0 : byteAt s i / 32 = 6 := by omega
  have e1 : ¬ byteAt s i / 16 = 14 := by omega
  have e2 : ¬ byteAt s i / 8 = 30 := by omega
  have hlt : ¬ byteAt s i < 128 := by omega
  rw [decode_eq]
  simp only [cvs, hlt, e0, e1, e2, beq_iff_eq, Bool.and_eq_true, decide_eq_true_eq, true_and, false_and, if_false]
  by_cases ha : i + 1 < s.size <;> by_cases hb : byteAt s (i + 1) / 64 = 2 <;> by_cases hc : 128 ≤ byteAt s i % 32 * 64 + byteAt s (i + 1) % 64 <;> simp [ha, hb, hc]
theorem runeD_3 {s : ByteArray} {i : Nat} (h1 : 224 ≤ byteAt s i) (h2 : byteAt s i < 240) : runeD s i = if (i + 1 < s.size ∧ byteAt s (i + 1) / 64 = 2) ∧ (i + 2 < s.size ∧ byteAt s (i + 2) / 64 = 2) ∧ 2048 ≤ cvs s i (byteAt s i % 16) 2 ∧ letB (cvs s i (byteAt s i % 16) 2 : Nat) = true then (cvs s i (byteAt s i % 16) 2, 3) else (0, 0) := by
  unfold runeD
  have e0 : ¬ byteAt s i / 32 = 6 := by omega
  have e1 : byteAt s i / 16 = 14 := by omega
  have e2 : ¬ byteAt s i / 8 = 30 := by omega
  have ec : cvs s i (byteAt s i % 16) 2 = byteAt s i % 16 * 4096 + byteAt s (i + 1) % 64 * 64 + byteAt s (i + 2) % 64 := by
    show (byteAt s i % 16 * 64 + byteAt s (i + 1) % 64) * 64 + byteAt s (i + 2) % 64 = _
    omega
  have hlt : ¬ byteAt s i < 128 := by omega
  rw [decode_eq, ec, letB_valid]
  simp only [hlt, e0, e1, e2, beq_iff_eq, Bool.and_eq_true, decide_eq_true_eq, true_and, false_and, if_false]
  generalize byteAt s i % 16 * 4096 + byteAt s (i + 1) % 64 * 64 + byteAt s (i + 2) % 64 = c
  by_cases ha : i + 1 < s.size <;> by_cases hb : byteAt s (i + 1) / 64 = 2 <;> by_cases ha2 : i + 2 < s.size <;> by_cases hb2 : byteAt s (i + 2) / 64 = 2 <;> by_cases hc : 2048 ≤ c <;> cases hv : Utf8.valid (c : Nat) <;> simp [ha, hb, ha2, hb2, hc, hv]
theorem runeD_4 {s : ByteArray} {i : Nat} (h1 : 240 ≤ byteAt s i) (h2 : byteAt s i < 248) : runeD s i = if (i + 1 < s.size ∧ byteAt s (i + 1) / 64 = 2) ∧ (i + 2 < s.size ∧ byteAt s (i + 2) / 64 = 2) ∧ (i + 3 < s.size ∧ byteAt s (i + 3) / 64 = 2) ∧ 65536 ≤ cvs s i (byteAt s i % 8) 3 ∧ letB (cvs s i (byteAt s i % 8) 3 : Nat) = true then (cvs s i (byteAt s i % 8) 3, 4) else (0, 0) := by
  unfold runeD
  have e0 : ¬ byteAt s i / 32 = 6 := by omega
  have e1 : ¬ byteAt s i / 16 = 14 := by omega
  have e2 : byteAt s i / 8 = 30 := by omega
  have ec : cvs s i (byteAt s i % 8) 3 = byteAt s i % 8 * 262144 + byteAt s (i + 1) % 64 * 4096 + byteAt s (i + 2) % 64 * 64 + byteAt s (i + 3) % 64 := by
    show ((byteAt s i % 8 * 64 + byteAt s (i + 1) % 64) * 64 + byteAt s (i + 2) % 64) * 64 + byteAt s (i + 3) % 64 = _
    omega
  have hlt : ¬ byteAt s i < 128 := by omega
  rw [decode_eq, ec, letB_valid]
  simp only [hlt, e0, e1, e2, beq_iff_eq, Bool.and_eq_true, decide_eq_true_eq, true_and, false_and, if_false]
  generalize byteAt s i % 8 * 262144 + byteAt s (i + 1) % 64 * 4096 + byteAt s (i + 2) % 64 * 64 + byteAt s (i + 3) % 64 = c
  by_cases ha : i + 1 < s.size <;> by_cases hb : byteAt s (i + 1) / 64 = 2 <;> by_cases ha2 : i + 2 < s.size <;> by_cases hb2 : byteAt s (i + 2) / 64 = 2 <;> by_cases ha3 : i + 3 < s.size <;> by_cases hb3 : byteAt s (i + 3) / 64 = 2 <;> by_cases hc : 65536 ≤ c <;> cases hv : Utf8.valid (c : Nat) <;> simp [ha, hb, ha2, hb2, ha3, hb3, hc, hv]

end Go.Proofs.Ytdekkieajffblaa

set_option linter.unusedVariables false
set_option linter.unusedSimpArgs false
namespace Go.Proofs.Ytdekkieajffblaa
open Go.RowKit

def RunePost (s : ByteArray) (i : Nat) (w : World) (e : Ending) (w' : World) : Prop := e = .returned (.tuple #[.int .i64 ((runeD s i).1 : Nat), .int .i64 ((runeD s i).2 : Nat)]) ∧ ∃ k, w' = w.drewN k
theorem RunePost.mk {s : ByteArray} {i : Nat} {w w' : World} {a b : Nat} {x y : Int} (h : runeD s i = (a, b)) (hx : x = (a : Nat)) (hy : y = (b : Nat)) (hw : ∃ k, w' = w.drewN k) : RunePost s i w (.returned (.tuple #[.int .i64 x, .int .i64 y])) w' := by
  refine ⟨?_, hw⟩
  rw [h, hx, hy]

end Go.Proofs.Ytdekkieajffblaa

set_option linter.unusedVariables false
set_option linter.unusedSimpArgs false
namespace Go.Proofs.Ytdekkieajffblaa
open Go.RowKit

theorem decode_le (s : ByteArray) (i : Nat) : 1 ≤ (Utf8.decode s i).2 ∧ (Utf8.decode s i).2 ≤ 4 := by
  rw [decode_eq]
  repeat' split
  all_goals simp
/-- How many letters a text has; -1: it is no UTF-8. -/
def utfN (s : ByteArray) : Int := if Lib.validD s.data.toList then (Lib.runeCount s : Int) else -1

structure Uv (s : ByteArray) (p c fuel : Nat) : Prop where
  v : Lib.validD s.data.toList = Lib.validD (s.data.toList.drop p)
  c : c + Lib.runeCountFrom s fuel p = Lib.runeCount s
  f : s.size ≤ p + fuel
theorem Uv.bad {s : ByteArray} {p c fuel : Nat} (h : Uv s p c fuel) (hp : p < s.size) (hb : (runeD s p).2 = 0) : utfN s = -1 := by
  have hd : Utf8.decode s p = (65533, 1) := by
    unfold runeD at hb
    split at hb
    · assumption
    · have := (decode_le s p).1; omega
  unfold utfN
  rw [h.v, Lib.validD_step _ (by intro e; have := congrArg List.length e; simp at this; have h2 : s.data.size = s.size := rfl; omega), Lib.decodeL_drop, hd]
  simp
theorem Uv.next {s : ByteArray} {p c fuel : Nat} (h : Uv s p c (fuel + 1)) (hp : p < s.size) (hb : (runeD s p).2 ≠ 0) : Uv s (p + (runeD s p).2) (c + 1) fuel ∧ 1 ≤ (runeD s p).2 ∧ (runeD s p).2 ≤ 4 := by
  have hne : ¬ Utf8.decode s p = (65533, 1) := by
    intro e; unfold runeD at hb; rw [if_pos e] at hb; exact hb rfl
  have e : runeD s p = Utf8.decode s p := by unfold runeD; rw [if_neg hne]
  rw [e]
  have hl := decode_le s p
  refine ⟨⟨?_, ?_, ?_⟩, hl⟩
  · rw [h.v, Lib.validD_step _ (by intro e; have := congrArg List.length e; simp at this; have h2 : s.data.size = s.size := rfl; omega), Lib.decodeL_drop, if_neg, List.drop_drop]
    intro h2
    exact hne (Prod.ext h2.1 h2.2)
  · have := h.c
    unfold Lib.runeCountFrom at this
    rw [if_pos hp] at this
    omega
  · have := h.f; omega
theorem Uv.end_ {s : ByteArray} {p c fuel : Nat} (h : Uv s p c fuel) (hp : ¬ p < s.size) : utfN s = c := by
  unfold utfN
  rw [h.v, List.drop_eq_nil_of_le (by have h2 : s.data.size = s.size := rfl; simp; omega)]
  have := h.c
  rw [Lib.runeCountFrom_end s fuel p hp] at this
  rw [if_pos Lib.validD_nil]; omega

end Go.Proofs.Ytdekkieajffblaa
