/-
  Words as numbers: what is said, and the word that says it.
-/
import Derived.Test.YtdekkieajffblaaGreatG0
import Derived.Lib.ValidLaws
import Derived.Lib.RuneCount
import Derived.Laws.BitsAllLaws
import Derived.Test.YtdekkieajffblaaGreatW7
set_option linter.unusedVariables false
set_option linter.unusedSimpArgs false
namespace Go.Proofs.YtdekkieajffblaaGreat
open Go.RowKit

/-- Is a number a letter's? -/
def letB (n : Int) : Bool := decide (0 ≤ n) && decide (n ≤ 1114111) && (decide (n < 55296) || decide (57343 < n))
theorem letB_valid (n : Int) : letB n = Utf8.valid n := by
  unfold letB Utf8.valid
  rw [Bool.eq_iff_iff]
  simp only [Bool.and_eq_true, Bool.or_eq_true, decide_eq_true_eq]
  omega

theorem letter_any (n : Int) (w : World) : Calls Tryz.prog 95 #[.int .i64 n] w fun e w' => e = .returned (.bool (letB n)) ∧ w' = w := by
  unfold letB
  by_cases h1 : 0 ≤ n <;> by_cases h2 : n ≤ 1114111 <;> by_cases h3 : n < 55296 <;> by_cases h4 : 57343 < n <;>
  · go_enter Tryz.func95, Tryz.ntmps95
    go_wp2
    go_ret
    exact ⟨by simp [h1, h2, h3, h4], rfl⟩

/-- The letter at a place and its bytes; nothing: 0, 0. -/
def runeD (s : ByteArray) (i : Nat) : Nat × Nat := if Utf8.decode s i = (65533, 1) then (0, 0) else Utf8.decode s i

theorem and192 : ∀ x : Fin 256, bits .and .u8 ((x.1 : Nat) : Int) 192 = ((x.1 / 64 * 64 : Nat) : Int) := by decide +kernel
theorem and63 : ∀ x : Fin 256, bits .and .u8 ((x.1 : Nat) : Int) 63 = ((x.1 % 64 : Nat) : Int) := by decide +kernel
theorem and31 : ∀ x : Fin 256, bits .and .i64 ((x.1 : Nat) : Int) 31 = ((x.1 % 32 : Nat) : Int) := by decide +kernel
theorem and15 : ∀ x : Fin 256, bits .and .i64 ((x.1 : Nat) : Int) 15 = ((x.1 % 16 : Nat) : Int) := by decide +kernel
theorem and7' : ∀ x : Fin 256, bits .and .i64 ((x.1 : Nat) : Int) 7 = ((x.1 % 8 : Nat) : Int) := by decide +kernel
theorem i64_or_nat (a b : Nat) (ha : a < 9223372036854775808) (hb : b < 9223372036854775808) : bits .or .i64 (a : Int) (b : Int) = ((a ||| b : Nat) : Int) := by
  have hx : a ||| b < 2 ^ 63 := Nat.or_lt_two_pow (by omega) (by omega)
  have h1 : (BitVec.ofInt 64 (a : Int)).toNat = a := by
    rw [BitVec.ofInt_natCast, BitVec.toNat_ofNat]; exact Nat.mod_eq_of_lt (by omega)
  have h2 : (BitVec.ofInt 64 (b : Int)).toNat = b := by
    rw [BitVec.ofInt_natCast, BitVec.toNat_ofNat]; exact Nat.mod_eq_of_lt (by omega)
  show IntKind.i64.wrap ((BitVec.ofInt 64 (a : Int) ||| BitVec.ofInt 64 (b : Int)).toNat : Int) = _
  rw [BitVec.toNat_or, h1, h2, IntKind.wrap_i64]
  omega
theorem i64_or_join (a b : Nat) (ha : a < 1048576) (hb : b < 64) : bits .or .i64 ((a : Int) * 64) (b : Int) = ((a * 64 + b : Nat) : Int) := by
  rw [show ((a : Int) * 64) = ((a * 64 : Nat) : Int) by omega, i64_or_nat _ _ (by omega) (by omega), nat_join 6 _ _ (by omega) (by omega)]

/-- The byte at place i. -/
def byteAt (s : ByteArray) (i : Nat) : Nat := (s.get! i).toNat
theorem byteAt_get {s : ByteArray} {i : Nat} (h : i < s.size) : (s[i]'h).toNat = byteAt s i := by
  unfold byteAt
  congr 1
  obtain ⟨d⟩ := s
  show d[i]'h = d[i]!
  rw [getElem!_pos d i h]
theorem byteAt_lt (s : ByteArray) (i : Nat) : byteAt s i < 256 := UInt8.toNat_lt _
/-- What lies behind the lead byte, taken up. -/
def cvs (s : ByteArray) (i c0 : Nat) : Nat → Nat
  | 0 => c0
  | j + 1 => cvs s i c0 j * 64 + byteAt s (i + (j + 1)) % 64
theorem cvs_lt (s : ByteArray) (i c0 : Nat) (h : c0 < 32) : ∀ j, cvs s i c0 j < 32 * 64 ^ j
  | 0 => by simpa [cvs] using h
  | j + 1 => by
    have := cvs_lt s i c0 h j
    unfold cvs
    rw [Nat.pow_succ]; omega
def conts (s : ByteArray) (i j : Nat) : Prop := ∀ q, q < j → i + (q + 1) < s.size ∧ byteAt s (i + (q + 1)) / 64 = 2

theorem decode_eq (s : ByteArray) (i : Nat) : Utf8.decode s i =
    (if byteAt s i < 128 then (byteAt s i, 1)
    else if byteAt s i / 32 == 6 && (decide (i + 1 < s.size) && byteAt s (i + 1) / 64 == 2) then
      (if byteAt s i % 32 * 64 + byteAt s (i + 1) % 64 ≥ 128 then (byteAt s i % 32 * 64 + byteAt s (i + 1) % 64, 2) else (65533, 1))
    else if byteAt s i / 16 == 14 && (decide (i + 1 < s.size) && byteAt s (i + 1) / 64 == 2) && (decide (i + 2 < s.size) && byteAt s (i + 2) / 64 == 2) then
      (if decide (byteAt s i % 16 * 4096 + byteAt s (i + 1) % 64 * 64 + byteAt s (i + 2) % 64 ≥ 2048) && Utf8.valid (byteAt s i % 16 * 4096 + byteAt s (i + 1) % 64 * 64 + byteAt s (i + 2) % 64 : Nat) then (byteAt s i % 16 * 4096 + byteAt s (i + 1) % 64 * 64 + byteAt s (i + 2) % 64, 3) else (65533, 1))
    else if byteAt s i / 8 == 30 && (decide (i + 1 < s.size) && byteAt s (i + 1) / 64 == 2) && (decide (i + 2 < s.size) && byteAt s (i + 2) / 64 == 2) && (decide (i + 3 < s.size) && byteAt s (i + 3) / 64 == 2) then
      (if decide (byteAt s i % 8 * 262144 + byteAt s (i + 1) % 64 * 4096 + byteAt s (i + 2) % 64 * 64 + byteAt s (i + 3) % 64 ≥ 65536) && Utf8.valid (byteAt s i % 8 * 262144 + byteAt s (i + 1) % 64 * 4096 + byteAt s (i + 2) % 64 * 64 + byteAt s (i + 3) % 64 : Nat) then (byteAt s i % 8 * 262144 + byteAt s (i + 1) % 64 * 4096 + byteAt s (i + 2) % 64 * 64 + byteAt s (i + 3) % 64, 4) else (65533, 1))
    else (65533, 1)) := by
  rfl

/-- The letter, class by class. -/
theorem runeD_1 {s : ByteArray} {i : Nat} (h : byteAt s i < 128) : runeD s i = (byteAt s i, 1) := by
  unfold runeD; rw [decode_eq, if_pos h, if_neg]; intro e; simp at e; omega
theorem runeD_bad {s : ByteArray} {i : Nat} (h : (128 ≤ byteAt s i ∧ byteAt s i < 192) ∨ 248 ≤ byteAt s i) : runeD s i = (0, 0) := by
  unfold runeD
  rw [if_pos]
  rw [decode_eq, if_neg (by omega), if_neg, if_neg, if_neg] <;> simp <;> omega
theorem runeD_2 {s : ByteArray} {i : Nat} (h1 : 192 ≤ byteAt s i) (h2 : byteAt s i < 224) : runeD s i = if i + 1 < s.size ∧ byteAt s (i + 1) / 64 = 2 ∧ 128 ≤ cvs s i (byteAt s i % 32) 1 then (cvs s i (byteAt s i % 32) 1, 2) else (0, 0) := by
  unfold runeD
  have e0 : byteAt s i / 32 = 6 := by omega
  have e1 : ¬ byteAt s i / 16 = 14 := by omega
  have e2 : ¬ byteAt s i / 8 = 30 := by omega
  have hlt : ¬ byteAt s i < 128 := by omega
  rw [decode_eq]
  simp only [cvs, hlt, e0, e1, e2, beq_iff_eq, Bool.and_eq_true, decide_eq_true_eq, true_and, false_and, if_false]
  by_cases ha : i + 1 < s.size <;> by_cases hb : byteAt s (i + 1) / 64 = 2 <;> by_cases hc : 128 ≤ byteAt s i % 32 * 64 + byteAt s (i + 1) % 64 <;> simp [ha, hb, hc]
theorem runeD_3 {s : ByteArray} {i : Nat} (h1 : 224 ≤ byteAt s i) (h2 : byteAt s i < 240) : runeD s i = if (i + 1 < s.size ∧ byteAt s (i + 1) / 64 = 2) ∧ (i + 2 < s.size ∧ byteAt s (i + 2) / 64 = 2) ∧ 2048 ≤ cvs s i (byteAt s i % 16) 2 ∧ letB (cvs s i (byteAt s i % 16) 2 : Nat) = true then (cvs s i (byteAt s i % 16) 2, 3) else (0, 0) := by
  unfold runeD
  have e0 : ¬ byteAt s i / 32 = 6 := by omega
  have e1 : byteAt s i / 16 = 14 := by omega
  have e2 : ¬ byteAt s i / 8 = 30 := by omega
  have ec : cvs s i (byteAt s i % 16) 2 = byteAt s i % 16 * 4096 + byteAt s (i + 1) % 64 * 64 + byteAt s (i + 2) % 64 := by
    show (byteAt s i % 16 * 64 + byteAt s (i + 1) % 64) * 64 + byteAt s (i + 2) % 64 = _
    omega
  have hlt : ¬ byteAt s i < 128 := by omega
  rw [decode_eq, ec, letB_valid]
  simp only [hlt, e0, e1, e2, beq_iff_eq, Bool.and_eq_true, decide_eq_true_eq, true_and, false_and, if_false]
  generalize byteAt s i % 16 * 4096 + byteAt s (i + 1) % 64 * 64 + byteAt s (i + 2) % 64 = c
  by_cases ha : i + 1 < s.size <;> by_cases hb : byteAt s (i + 1) / 64 = 2 <;> by_cases ha2 : i + 2 < s.size <;> by_cases hb2 : byteAt s (i + 2) / 64 = 2 <;> by_cases hc : 2048 ≤ c <;> cases hv : Utf8.valid (c : Nat) <;> simp [ha, hb, ha2, hb2, hc, hv]
theorem runeD_4 {s : ByteArray} {i : Nat} (h1 : 240 ≤ byteAt s i) (h2 : byteAt s i < 248) : runeD s i = if (i + 1 < s.size ∧ byteAt s (i + 1) / 64 = 2) ∧ (i + 2 < s.size ∧ byteAt s (i + 2) / 64 = 2) ∧ (i + 3 < s.size ∧ byteAt s (i + 3) / 64 = 2) ∧ 65536 ≤ cvs s i (byteAt s i % 8) 3 ∧ letB (cvs s i (byteAt s i % 8) 3 : Nat) = true then (cvs s i (byteAt s i % 8) 3, 4) else (0, 0) := by
  unfold runeD
  have e0 : ¬ byteAt s i / 32 = 6 := by omega
  have e1 : ¬ byteAt s i / 16 = 14 := by omega
  have e2 : byteAt s i / 8 = 30 := by omega
  have ec : cvs s i (byteAt s i % 8) 3 = byteAt s i % 8 * 262144 + byteAt s (i + 1) % 64 * 4096 + byteAt s (i + 2) % 64 * 64 + byteAt s (i + 3) % 64 := by
    show ((byteAt s i % 8 * 64 + byteAt s (i + 1) % 64) * 64 + byteAt s (i + 2) % 64) * 64 + byteAt s (i + 3) % 64 = _
    omega
  have hlt : ¬ byteAt s i < 128 := by omega
  rw [decode_eq, ec, letB_valid]
  simp only [hlt, e0, e1, e2, beq_iff_eq, Bool.and_eq_true, decide_eq_true_eq, true_and, false_and, if_false]
  generalize byteAt s i % 8 * 262144 + byteAt s (i + 1) % 64 * 4096 + byteAt s (i + 2) % 64 * 64 + byteAt s (i + 3) % 64 = c
  by_cases ha : i + 1 < s.size <;> by_cases hb : byteAt s (i + 1) / 64 = 2 <;> by_cases ha2 : i + 2 < s.size <;> by_cases hb2 : byteAt s (i + 2) / 64 = 2 <;> by_cases ha3 : i + 3 < s.size <;> by_cases hb3 : byteAt s (i + 3) / 64 = 2 <;> by_cases hc : 65536 ≤ c <;> cases hv : Utf8.valid (c : Nat) <;> simp [ha, hb, ha2, hb2, ha3, hb3, hc, hv]

end Go.Proofs.YtdekkieajffblaaGreat

set_option linter.unusedVariables false
set_option linter.unusedSimpArgs false
namespace Go.Proofs.YtdekkieajffblaaGreat
open Go.RowKit

def RunePost (s : ByteArray) (i : Nat) (w : World) (e : Ending) (w' : World) : Prop := e = .returned (.tuple #[.int .i64 ((runeD s i).1 : Nat), .int .i64 ((runeD s i).2 : Nat)]) ∧ ∃ k, w' = w.drewN k
theorem RunePost.mk {s : ByteArray} {i : Nat} {w w' : World} {a b : Nat} {x y : Int} (h : runeD s i = (a, b)) (hx : x = (a : Nat)) (hy : y = (b : Nat)) (hw : ∃ k, w' = w.drewN k) : RunePost s i w (.returned (.tuple #[.int .i64 x, .int .i64 y])) w' := by
  refine ⟨?_, hw⟩
  rw [h, hx, hy]

end Go.Proofs.YtdekkieajffblaaGreat

set_option linter.unusedVariables false
set_option linter.unusedSimpArgs false
namespace Go.Proofs.YtdekkieajffblaaGreat
open Go.RowKit

theorem decode_le (s : ByteArray) (i : Nat) : 1 ≤ (Utf8.decode s i).2 ∧ (Utf8.decode s i).2 ≤ 4 := by
  rw [decode_eq]
  repeat' split
  all_goals simp
/-- How many letters a text has; -1: it is no UTF-8. -/
def utfN (s : ByteArray) : Int := if Lib.validD s.data.toList then (Lib.runeCount s : Int) else -1

structure Uv (s : ByteArray) (p c fuel : Nat) : Prop where
  v : Lib.validD s.data.toList = Lib.validD (s.data.toList.drop p)
  c : c + Lib.runeCountFrom s fuel p = Lib.runeCount s
  f : s.size ≤ p + fuel
theorem Uv.bad {s : ByteArray} {p c fuel : Nat} (h : Uv s p c fuel) (hp : p < s.size) (hb : (runeD s p).2 = 0) : utfN s = -1 := by
  have hd : Utf8.decode s p = (65533, 1) := by
    unfold runeD at hb
    split at hb
    · assumption
    · have := (decode_le s p).1; omega
  unfold utfN
  rw [h.v, Lib.validD_step _ (by intro e; have := congrArg List.length e; simp at this; have h2 : s.data.size = s.size := rfl; omega), Lib.decodeL_drop, hd]
  simp
theorem Uv.next {s : ByteArray} {p c fuel : Nat} (h : Uv s p c (fuel + 1)) (hp : p < s.size) (hb : (runeD s p).2 ≠ 0) : Uv s (p + (runeD s p).2) (c + 1) fuel ∧ 1 ≤ (runeD s p).2 ∧ (runeD s p).2 ≤ 4 := by
  have hne : ¬ Utf8.decode s p = (65533, 1) := by
    intro e; unfold runeD at hb; rw [if_pos e] at hb; exact hb rfl
  have e : runeD s p = Utf8.decode s p := by unfold runeD; rw [if_neg hne]
  rw [e]
  have hl := decode_le s p
  refine ⟨⟨?_, ?_, ?_⟩, hl⟩
  · rw [h.v, Lib.validD_step _ (by intro e; have := congrArg List.length e; simp at this; have h2 : s.data.size = s.size := rfl; omega), Lib.decodeL_drop, if_neg, List.drop_drop]
    intro h2
    exact hne (Prod.ext h2.1 h2.2)
  · have := h.c
    unfold Lib.runeCountFrom at this
    rw [if_pos hp] at this
    omega
  · have := h.f; omega
theorem Uv.end_ {s : ByteArray} {p c fuel : Nat} (h : Uv s p c fuel) (hp : ¬ p < s.size) : utfN s = c := by
  unfold utfN
  rw [h.v, List.drop_eq_nil_of_le (by have h2 : s.data.size = s.size := rfl; simp; omega)]
  have := h.c
  rw [Lib.runeCountFrom_end s fuel p hp] at this
  rw [if_pos Lib.validD_nil]; omega

end Go.Proofs.YtdekkieajffblaaGreat

set_option linter.unusedVariables false
set_option linter.unusedSimpArgs false
namespace Go.Proofs.YtdekkieajffblaaGreat
open Go.RowKit

/-- Is a number a letter's? -/
def ltrB (n : Int) : Bool := decide (0 ≤ n) && decide (n ≤ 1114111) && (decide (n < 55296) || decide (57343 < n))
/-- Is what is said in its bounds? -/
def rightB (k n t : Int) : Bool :=
  if k = 1 then decide (-1152921504606846976 ≤ n) && decide (n < 1152921504606846976)
  else if k = 2 then decide (0 ≤ n) && decide (n ≤ 1099511627776)
  else if k = 3 then decide (0 ≤ n) && decide (n ≤ 5)
  else if k = 4 then decide (0 ≤ n) && decide (n < 1073741824) && ltrB n
  else if k = 5 ∨ k = 6 ∨ k = 7 then decide (0 ≤ n) && decide (n ≤ 1073741824)
  else if k = 8 then decide (1 ≤ t) && decide (t ≤ 255) && (decide (0 ≤ n) && decide (n ≤ 1099511627776))
  else false
/-- The word that says it, if it is in its bounds. -/
def wrdB (k n t : Int) : Int :=
  if k = 1 then (n * 8) % 18446744073709551616
  else if k = 2 then n * 8 + 1
  else if k = 3 then n * 8 + 2
  else if k = 8 then n * 2048 + t * 8 + 7
  else n * 256 + (k + 2) * 8 + 2
def wordR (k n t : Int) : Int := if rightB k n t then wrdB k n t else 0
/-- A word as a number with a sign. -/
def sgnW (w : Int) : Int := if w < 9223372036854775808 then w else w - 18446744073709551616
/-- What a word would say, if it were in its bounds. -/
def ofRaw (w : Int) : Int × Int × Int :=
  if w % 8 = 0 then (1, sgnW w / 8, 0)
  else if w % 8 = 1 then (2, w / 8, 0)
  else if w % 8 = 2 then
    (if w / 8 % 32 ≤ 5 ∧ w / 256 = 0 then (3, w / 8 % 32, 0)
     else if 6 ≤ w / 8 % 32 ∧ w / 8 % 32 ≤ 9 then (w / 8 % 32 - 2, w / 256, 0) else (0, 0, 0))
  else if w % 8 = 7 then (8, w / 2048, w / 8 % 256)
  else (0, 0, 0)
def ofR (w : Int) : Int × Int × Int := if rightB (ofRaw w).1 (ofRaw w).2.1 (ofRaw w).2.2 then ofRaw w else (0, 0, 0)
/-- A number of 64 bits without a sign. -/
def U64 (w : Int) : Prop := 0 ≤ w ∧ w < 18446744073709551616

theorem ltrB_rng {n : Int} (h : ltrB n = true) : 0 ≤ n ∧ n ≤ 1114111 := by
  unfold ltrB at h
  simp only [Bool.and_eq_true, Bool.or_eq_true, decide_eq_true_eq] at h
  omega
/-- What is right, kind by kind. -/
theorem right_cases {k n t : Int} (h : rightB k n t = true) :
    (k = 1 ∧ -1152921504606846976 ≤ n ∧ n < 1152921504606846976) ∨ (k = 2 ∧ 0 ≤ n ∧ n ≤ 1099511627776) ∨ (k = 3 ∧ 0 ≤ n ∧ n ≤ 5) ∨ (k = 4 ∧ 0 ≤ n ∧ n ≤ 1114111 ∧ ltrB n = true) ∨ ((k = 5 ∨ k = 6 ∨ k = 7) ∧ 0 ≤ n ∧ n ≤ 1073741824) ∨ (k = 8 ∧ 1 ≤ t ∧ t ≤ 255 ∧ 0 ≤ n ∧ n ≤ 1099511627776) := by
  unfold rightB at h
  split at h
  · simp only [Bool.and_eq_true, decide_eq_true_eq] at h; omega
  split at h
  · simp only [Bool.and_eq_true, decide_eq_true_eq] at h; omega
  split at h
  · simp only [Bool.and_eq_true, decide_eq_true_eq] at h; omega
  split at h
  · simp only [Bool.and_eq_true, decide_eq_true_eq] at h
    have := ltrB_rng h.2
    refine .inr (.inr (.inr (.inl ⟨by assumption, by omega, by omega, h.2⟩)))
  split at h
  · simp only [Bool.and_eq_true, decide_eq_true_eq] at h; omega
  split at h
  · simp only [Bool.and_eq_true, decide_eq_true_eq] at h; omega
  · cases h
theorem wrd_rng {k n t : Int} (h : rightB k n t = true) : U64 (wrdB k n t) := by
  unfold U64 wrdB
  rcases right_cases h with ⟨rfl, h1⟩ | ⟨rfl, h1⟩ | ⟨rfl, h1⟩ | ⟨rfl, h1⟩ | ⟨h0, h1⟩ | ⟨rfl, h1⟩
  · simp only [if_true]; omega
  · simp only [show (2 : Int) ≠ 1 from by decide, if_true, if_false]; omega
  · simp only [show (3 : Int) ≠ 1 from by decide, show (3 : Int) ≠ 2 from by decide, if_true, if_false]; omega
  · simp only [show (4 : Int) ≠ 1 from by decide, show (4 : Int) ≠ 2 from by decide, show (4 : Int) ≠ 3 from by decide, show (4 : Int) ≠ 8 from by decide, if_true, if_false]; omega
  · rw [if_neg (by omega), if_neg (by omega), if_neg (by omega), if_neg (by omega)]; omega
  · simp only [show (8 : Int) ≠ 1 from by decide, show (8 : Int) ≠ 2 from by decide, show (8 : Int) ≠ 3 from by decide, if_true, if_false]; omega
theorem wordR_rng (k n t : Int) : U64 (wordR k n t) := by
  unfold wordR
  split
  · exact wrd_rng (by assumption)
  · unfold U64; omega
/-- What was said is told again. -/
theorem raw_back {k n t : Int} (h : rightB k n t = true) : ofRaw (wrdB k n t) = (k, n, if k = 8 then t else 0) := by
  have hr := wrd_rng h
  unfold U64 wrdB at hr
  unfold ofRaw wrdB sgnW
  rcases right_cases h with ⟨rfl, h1, h2⟩ | ⟨rfl, h1, h2⟩ | ⟨rfl, h1, h2⟩ | ⟨rfl, h1, h2, h3⟩ | ⟨h0, h1, h2⟩ | ⟨rfl, h1, h2, h3, h4⟩
  · simp only [if_true] at hr ⊢
    obtain ⟨m, hm⟩ : ∃ m, m = n * 8 % 18446744073709551616 := ⟨_, rfl⟩
    rw [← hm] at hr ⊢
    rw [if_pos (by omega), if_neg (by decide : ¬ (1 : Int) = 8)]
    have e : (if m < 9223372036854775808 then m else m - 18446744073709551616) / 8 = n := by split <;> omega
    rw [e]
  · simp only [show (2 : Int) ≠ 1 from by decide, if_true, if_false]
    rw [if_neg (by omega), if_pos (by omega), if_neg (by decide)]
    congr 2; omega
  · simp only [show (3 : Int) ≠ 1 from by decide, show (3 : Int) ≠ 2 from by decide, if_true, if_false]
    rw [if_neg (by omega), if_neg (by omega), if_pos (by omega), if_pos (by omega), if_neg (by decide)]
    congr 2; omega
  · simp only [show (4 : Int) ≠ 1 from by decide, show (4 : Int) ≠ 2 from by decide, show (4 : Int) ≠ 3 from by decide, show (4 : Int) ≠ 8 from by decide, if_true, if_false]
    rw [if_neg (by omega), if_neg (by omega), if_pos (by omega), if_neg (by omega), if_pos (by omega)]
    have e1 : (n * 256 + (4 + 2) * 8 + 2) / 8 % 32 - 2 = 4 := by omega
    have e2 : (n * 256 + (4 + 2) * 8 + 2) / 256 = n := by omega
    rw [e1, e2]
  · rw [if_neg (by omega : ¬ k = 1), if_neg (by omega : ¬ k = 2), if_neg (by omega : ¬ k = 3), if_neg (by omega : ¬ k = 8), if_neg (by omega : ¬ k = 8)]
    rw [if_neg (by omega), if_neg (by omega), if_pos (by omega), if_neg (by omega), if_pos (by omega)]
    have e1 : (n * 256 + (k + 2) * 8 + 2) / 8 % 32 - 2 = k := by omega
    have e2 : (n * 256 + (k + 2) * 8 + 2) / 256 = n := by omega
    rw [e1, e2]
  · simp only [show (8 : Int) ≠ 1 from by decide, show (8 : Int) ≠ 2 from by decide, show (8 : Int) ≠ 3 from by decide, if_true, if_false]
    rw [if_neg (by omega), if_neg (by omega), if_neg (by omega), if_pos (by omega)]
    have e1 : (n * 2048 + t * 8 + 7) / 8 % 256 = t := by omega
    have e2 : (n * 2048 + t * 8 + 7) / 2048 = n := by omega
    rw [e1, e2]
theorem right_norm {k n t : Int} : rightB k n (if k = 8 then t else 0) = rightB k n t := by
  unfold rightB
  by_cases h : k = 8
  · simp only [if_pos h]
  · simp only [if_neg h]
theorem word_back {k n t : Int} (h : rightB k n t = true) : ofR (wordR k n t) = (k, n, if k = 8 then t else 0) := by
  unfold wordR ofR
  rw [if_pos h, raw_back h]
  simp only [right_norm, h, if_true]
theorem word_apart {k n t k' n' t' : Int} (h : rightB k n t = true) (h' : rightB k' n' t' = true) : (wordR k n t = wordR k' n' t') ↔ (k = k' ∧ n = n' ∧ (if k = 8 then t else 0) = (if k' = 8 then t' else 0)) := by
  constructor
  · intro e
    have := (word_back h).symm.trans ((congrArg ofR e).trans (word_back h'))
    simp only [Prod.mk.injEq] at this
    exact this
  · rintro ⟨rfl, rfl, e⟩
    unfold wordR
    rw [h, h']
    unfold wrdB
    by_cases h8 : k = 8
    · rw [if_pos h8, if_pos h8] at e; rw [e]
    · simp only [if_neg h8]
/-- The kinds of what a word says. -/
theorem ofR_right {w : Int} : ofR w = (0, 0, 0) ∨ rightB (ofR w).1 (ofR w).2.1 (ofR w).2.2 = true := by
  unfold ofR
  split
  · right; assumption
  · left; rfl
end Go.Proofs.YtdekkieajffblaaGreat
