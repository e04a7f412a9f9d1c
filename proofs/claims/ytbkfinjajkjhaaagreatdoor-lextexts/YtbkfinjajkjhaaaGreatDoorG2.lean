import Derived.Test.YtbkfinjajkjhaaaGreatDoorW14
import Derived.Test.YtbkfinjajkjhaaaGreatDoorW42
import Derived.Lib.ValidLaws
import Derived.Lib.RuneCount
import Derived.Laws.BitsAllLaws
set_option linter.unusedVariables false
set_option linter.unusedSimpArgs false
namespace Go.Proofs.YtbkfinjajkjhaaaGreatDoor
open Go.RowKit
theorem Tr.tail {a : Nat} {t : List Nat} (h : Tr (a :: t)) : Tr t := by
 cases t with
 | nil => exact .inl rfl
 | cons c t =>
  rcases h with h | h
  ·cases h
  ·refine .inr ?_
   simpa using h
theorem digits_unique {B : Nat} (hB : 1 < B) : ∀ {D D' : List Nat}, Dg B D -> Dg B D' -> Tr D -> Tr D' -> val B D = val B D' -> D = D'
 | [], [], _, _, _, _, _ => rfl
 | [], b :: t', _, _, _, h4, h => by
  have := h4.ne_zero (B := B) (by omega) (by simp)
  exact absurd h.symm this
 | a :: t, [], _, _, h3, _, h => by
  have := h3.ne_zero (B := B) (by omega) (by simp)
  exact absurd h this
 | a :: t, b :: t', h1, h2, h3, h4, h => by
  have ha : a < B := h1 a (by simp)
  have hb : b < B := h2 b (by simp)
  rw [val_cons, val_cons] at h
  have e1 : a = b := by
   have := congrArg (· % B) h
   simp only [Nat.add_mul_mod_self_left] at this
   rwa [Nat.mod_eq_of_lt ha, Nat.mod_eq_of_lt hb] at this
  subst e1
  have e2 : val B t = val B t' := Nat.eq_of_mul_eq_mul_left (show 0 < B by omega) (by omega)
  rw [digits_unique hB (fun x hx => h1 x (by simp [hx])) (fun x hx => h2 x (by simp [hx])) h3.tail h4.tail e2]
theorem bs_ext {s t : ByteArray} (h : bs s = bs t) : s = t := by
 cases s with | mk a => cases t with | mk b =>
 have : a.toList = b.toList := map_toNat_inj h
 rw [Array.toList_inj.1 this]
def Printed (neg : Bool) (v : Nat) (radix : Int) (s : ByteArray) (en : Int) : Prop :=
 (¬ (2 <= radix /\ radix <= 36) /\ bs s = [] /\ en = 1) \/
 ((2 <= radix /\ radix <= 36) /\ en = 0 /\ ∃ D, Dg radix.toNat D /\ Tr D /\ val radix.toNat D = v /\ bs s = (if D = [] then [48] else (if neg then [45] else []) ++ (D.map chr).reverse))
def PrPost (w : World) (neg : Bool) (v : Nat) (radix : Int) (e : Ending) (w' : World) : Prop := ∃ s en, e = .returned (.tuple #[.string s, .int .i64 en]) /\ Printed neg v radix s en /\ Below w.heap.size w w'
set_option maxHeartbeats 2000000 in
theorem print_all (neg : Bool) (ao : Option Addr) (n cap : Nat) (l : List Nat) (radix : Int) (w : World) (R : Row .u32 B32 w ao n cap l) (g1 : goodB neg l = true) :
  Calls Tryz.prog 88 #[.agg #[.bool neg, .slice ao n cap], .int .i64 radix] w (PrPost w neg (val B32 l) radix) := by
 by_cases hr : 2 <= radix /\ radix <= 36
 ·obtain ⟨rx, rfl⟩ := Int.eq_ofNat_of_zero_le (by omega : 0 <= radix)
  by_cases h0 : n = 0
  ·subst h0
   have HC : Hid (∀ wx, Calls Tryz.prog 103 #[.int .i64 rx] wx fun e w' => e = .returned (.bool true) /\ w' = wx) := fun wx => (isRadix_any rx wx).mono fun e w' ⟨h1, h2⟩ => ⟨by rw [h1]; simp; omega, h2⟩
   have hl : l = [] := List.length_eq_zero_iff.1 R.len
   subst hl
   have HR := hid R
   have G1 := hid g1
   have HRX := hid hr
   clear R g1 hr
   go_enter Tryz.func88, Tryz.ntmps88
   go_wp2_with fail
   refine (HC.out _).mono ?_
   rintro e wx ⟨rfl, hwx⟩
   rw [hwx]
   clear hwx
   go_wp2_with fail
   refine (good_any neg ao 0 cap [] _ (HR.out.below (Ba _ _))).mono ?_
   rintro e w1 ⟨rfl, hb1⟩
   rw [G1.out]
   have X1 := hid ((Box.new 55 w neg ao 0 cap).on hb1)
   have HB1 := hid (Bt (Ba w (.cells #[.bool neg, .slice ao 0 cap] 55)) hb1)
   obtain ⟨c0, c1⟩ := X1.out.c
   clear hb1
   go_wp2
   go_ret2
   exact ⟨_, _, rfl, .inr ⟨HRX.out, rfl, [], Dg.nil _, Tr.nil, rfl, by rw [if_pos rfl]; rfl⟩, HB1.out⟩
  ·refine (print_any neg ao n cap l rx w R g1 (by omega) (by omega) h0).mono fun e w' ⟨s, D, h1, h2, h3, h4, h5, h6⟩ => ⟨s, 0, h1, .inr ⟨hr, rfl, D, h2, h3, h4, ?_⟩, h6⟩
   have hD : D ≠ [] := by
    intro e
    subst e
    have := (goodB_tr g1).ne_zero (B := B32) (by decide) (fun e => h0 (by rw [<- R.len, e]; rfl))
    exact this h4.symm
   rw [h5, if_neg hD]
 ·have HC : Hid (∀ wx, Calls Tryz.prog 103 #[.int .i64 radix] wx fun e w' => e = .returned (.bool false) /\ w' = wx) := fun wx => (isRadix_any radix wx).mono fun e w' ⟨h1, h2⟩ => ⟨by rw [h1]; simp; omega, h2⟩
  have HR := hid hr
  clear hr R g1
  go_enter Tryz.func88, Tryz.ntmps88
  go_wp2_with (go_at_call 103; refine (HC.out _).mono ?_; rintro e wx ⟨rfl, hwx⟩; rw [hwx]; clear hwx)
  go_ret2
  exact ⟨_, _, rfl, .inl ⟨HR.out, rfl, rfl⟩, Ba _ _⟩
def letB (n : Int) : Bool := decide (0 <= n) && decide (n <= 1114111) && (decide (n < 55296) || decide (57343 < n))
theorem letB_valid (n : Int) : letB n = Utf8.valid n := by
 unfold letB Utf8.valid
 rw [Bool.eq_iff_iff]
 simp only [Bool.and_eq_true, Bool.or_eq_true, decide_eq_true_eq]
 omega
theorem letter_any (n : Int) (w : World) : Calls Tryz.prog 19 #[.int .i64 n] w fun e w' => e = .returned (.bool (letB n)) /\ w' = w := by
 unfold letB
 by_cases h1 : 0 <= n <;> by_cases h2 : n <= 1114111 <;> by_cases h3 : n < 55296 <;> by_cases h4 : 57343 < n <;>
 ·go_enter Tryz.func19, Tryz.ntmps19
  go_wp2
  go_ret
  exact ⟨by simp [h1, h2, h3, h4], rfl⟩
def runeD (s : ByteArray) (i : Nat) : Nat × Nat := if Utf8.decode s i = (65533, 1) then (0, 0) else Utf8.decode s i
theorem and192 : ∀ x : Fin 256, bits .and .u8 ((x.1 : Nat) : Int) 192 = ((x.1 / 64 * 64 : Nat) : Int) := by decide +kernel
theorem and63 : ∀ x : Fin 256, bits .and .u8 ((x.1 : Nat) : Int) 63 = ((x.1 % 64 : Nat) : Int) := by decide +kernel
theorem and31 : ∀ x : Fin 256, bits .and .i64 ((x.1 : Nat) : Int) 31 = ((x.1 % 32 : Nat) : Int) := by decide +kernel
theorem and15 : ∀ x : Fin 256, bits .and .i64 ((x.1 : Nat) : Int) 15 = ((x.1 % 16 : Nat) : Int) := by decide +kernel
theorem and7' : ∀ x : Fin 256, bits .and .i64 ((x.1 : Nat) : Int) 7 = ((x.1 % 8 : Nat) : Int) := by decide +kernel
theorem i64_or_nat (a b : Nat) (ha : a < 9223372036854775808) (hb : b < 9223372036854775808) : bits .or .i64 (a : Int) (b : Int) = ((a ||| b : Nat) : Int) := by
 have hx : a ||| b < 2 ^ 63 := Nat.or_lt_two_pow (by omega) (by omega)
 have h1 : (BitVec.ofInt 64 (a : Int)).toNat = a := by
  rw [BitVec.ofInt_natCast, BitVec.toNat_ofNat]; exact Nat.mod_eq_of_lt (by omega)
 have h2 : (BitVec.ofInt 64 (b : Int)).toNat = b := by
  rw [BitVec.ofInt_natCast, BitVec.toNat_ofNat]; exact Nat.mod_eq_of_lt (by omega)
 show IntKind.i64.wrap ((BitVec.ofInt 64 (a : Int) ||| BitVec.ofInt 64 (b : Int)).toNat : Int) = _
 rw [BitVec.toNat_or, h1, h2, IntKind.wrap_i64]
 omega
theorem i64_or_join (a b : Nat) (ha : a < 1048576) (hb : b < 64) : bits .or .i64 ((a : Int) * 64) (b : Int) = ((a * 64 + b : Nat) : Int) := by
 rw [show ((a : Int) * 64) = ((a * 64 : Nat) : Int) by omega, i64_or_nat _ _ (by omega) (by omega), nat_join 6 _ _ (by omega) (by omega)]
def byteAt (s : ByteArray) (i : Nat) : Nat := (s.get! i).toNat
theorem byteAt_get {s : ByteArray} {i : Nat} (h : i < s.size) : (s[i]'h).toNat = byteAt s i := by
 unfold byteAt
 congr 1
 obtain ⟨d⟩ := s
 show d[i]'h = d[i]!
 rw [getElem!_pos d i h]
theorem byteAt_lt (s : ByteArray) (i : Nat) : byteAt s i < 256 := UInt8.toNat_lt _
def cvs (s : ByteArray) (i c0 : Nat) : Nat -> Nat
 | 0 => c0
 | j + 1 => cvs s i c0 j * 64 + byteAt s (i + (j + 1)) % 64
theorem cvs_lt (s : ByteArray) (i c0 : Nat) (h : c0 < 32) : ∀ j, cvs s i c0 j < 32 * 64 ^ j
 | 0 => by simpa [cvs] using h
 | j + 1 => by
  have := cvs_lt s i c0 h j
  unfold cvs
  rw [Nat.pow_succ]; omega
def conts (s : ByteArray) (i j : Nat) : Prop := ∀ q, q < j -> i + (q + 1) < s.size /\ byteAt s (i + (q + 1)) / 64 = 2
theorem decode_eq (s : ByteArray) (i : Nat) : Utf8.decode s i =
  (if byteAt s i < 128 then (byteAt s i, 1)
  else if byteAt s i / 32 == 6 && (decide (i + 1 < s.size) && byteAt s (i + 1) / 64 == 2) then
   (if byteAt s i % 32 * 64 + byteAt s (i + 1) % 64 >= 128 then (byteAt s i % 32 * 64 + byteAt s (i + 1) % 64, 2) else (65533, 1))
  else if byteAt s i / 16 == 14 && (decide (i + 1 < s.size) && byteAt s (i + 1) / 64 == 2) && (decide (i + 2 < s.size) && byteAt s (i + 2) / 64 == 2) then
   (if decide (byteAt s i % 16 * 4096 + byteAt s (i + 1) % 64 * 64 + byteAt s (i + 2) % 64 >= 2048) && Utf8.valid (byteAt s i % 16 * 4096 + byteAt s (i + 1) % 64 * 64 + byteAt s (i + 2) % 64 : Nat) then (byteAt s i % 16 * 4096 + byteAt s (i + 1) % 64 * 64 + byteAt s (i + 2) % 64, 3) else (65533, 1))
  else if byteAt s i / 8 == 30 && (decide (i + 1 < s.size) && byteAt s (i + 1) / 64 == 2) && (decide (i + 2 < s.size) && byteAt s (i + 2) / 64 == 2) && (decide (i + 3 < s.size) && byteAt s (i + 3) / 64 == 2) then
   (if decide (byteAt s i % 8 * 262144 + byteAt s (i + 1) % 64 * 4096 + byteAt s (i + 2) % 64 * 64 + byteAt s (i + 3) % 64 >= 65536) && Utf8.valid (byteAt s i % 8 * 262144 + byteAt s (i + 1) % 64 * 4096 + byteAt s (i + 2) % 64 * 64 + byteAt s (i + 3) % 64 : Nat) then (byteAt s i % 8 * 262144 + byteAt s (i + 1) % 64 * 4096 + byteAt s (i + 2) % 64 * 64 + byteAt s (i + 3) % 64, 4) else (65533, 1))
  else (65533, 1)) := by
 rfl
theorem runeD_1 {s : ByteArray} {i : Nat} (h : byteAt s i < 128) : runeD s i = (byteAt s i, 1) := by
 unfold runeD; rw [decode_eq, if_pos h, if_neg]; intro e; simp at e; omega
theorem runeD_bad {s : ByteArray} {i : Nat} (h : (128 <= byteAt s i /\ byteAt s i < 192) \/ 248 <= byteAt s i) : runeD s i = (0, 0) := by
 unfold runeD
 rw [if_pos]
 rw [decode_eq, if_neg (by omega), if_neg, if_neg, if_neg] <;> simp <;> omega
theorem runeD_2 {s : ByteArray} {i : Nat} (h1 : 192 <= byteAt s i) (h2 : byteAt s i < 224) : runeD s i = if i + 1 < s.size /\ byteAt s (i + 1) / 64 = 2 /\ 128 <= cvs s i (byteAt s i % 32) 1 then (cvs s i (byteAt s i % 32) 1, 2) else (0, 0) := by
 unfold runeD
 have e0 : byteAt s i / 32 = 6 := by omega
 have e1 : ¬ byteAt s i / 16 = 14 := by omega
 have e2 : ¬ byteAt s i / 8 = 30 := by omega
 have hlt : ¬ byteAt s i < 128 := by omega
 rw [decode_eq]
 simp only [cvs, hlt, e0, e1, e2, beq_iff_eq, Bool.and_eq_true, decide_eq_true_eq, true_and, false_and, if_false]
 by_cases ha : i + 1 < s.size <;> by_cases hb : byteAt s (i + 1) / 64 = 2 <;> by_cases hc : 128 <= byteAt s i % 32 * 64 + byteAt s (i + 1) % 64 <;> simp [ha, hb, hc]
theorem runeD_3 {s : ByteArray} {i : Nat} (h1 : 224 <= byteAt s i) (h2 : byteAt s i < 240) : runeD s i = if (i + 1 < s.size /\ byteAt s (i + 1) / 64 = 2) /\ (i + 2 < s.size /\ byteAt s (i + 2) / 64 = 2) /\ 2048 <= cvs s i (byteAt s i % 16) 2 /\ letB (cvs s i (byteAt s i % 16) 2 : Nat) = true then (cvs s i (byteAt s i % 16) 2, 3) else (0, 0) := by
 unfold runeD
 have e0 : ¬ byteAt s i / 32 = 6 := by omega
 have e1 : byteAt s i / 16 = 14 := by omega
 have e2 : ¬ byteAt s i / 8 = 30 := by omega
 have ec : cvs s i (byteAt s i % 16) 2 = byteAt s i % 16 * 4096 + byteAt s (i + 1) % 64 * 64 + byteAt s (i + 2) % 64 := by
  show (byteAt s i % 16 * 64 + byteAt s (i + 1) % 64) * 64 + byteAt s (i + 2) % 64 = _
  omega
 have hlt : ¬ byteAt s i < 128 := by omega
 rw [decode_eq, ec, letB_valid]
 simp only [hlt, e0, e1, e2, beq_iff_eq, Bool.and_eq_true, decide_eq_true_eq, true_and, false_and, if_false]
 generalize byteAt s i % 16 * 4096 + byteAt s (i + 1) % 64 * 64 + byteAt s (i + 2) % 64 = c
 by_cases ha : i + 1 < s.size <;> by_cases hb : byteAt s (i + 1) / 64 = 2 <;> by_cases ha2 : i + 2 < s.size <;> by_cases hb2 : byteAt s (i + 2) / 64 = 2 <;> by_cases hc : 2048 <= c <;> cases hv : Utf8.valid (c : Nat) <;> simp [ha, hb, ha2, hb2, hc, hv]
theorem runeD_4 {s : ByteArray} {i : Nat} (h1 : 240 <= byteAt s i) (h2 : byteAt s i < 248) : runeD s i = if (i + 1 < s.size /\ byteAt s (i + 1) / 64 = 2) /\ (i + 2 < s.size /\ byteAt s (i + 2) / 64 = 2) /\ (i + 3 < s.size /\ byteAt s (i + 3) / 64 = 2) /\ 65536 <= cvs s i (byteAt s i % 8) 3 /\ letB (cvs s i (byteAt s i % 8) 3 : Nat) = true then (cvs s i (byteAt s i % 8) 3, 4) else (0, 0) := by
 unfold runeD
 have e0 : ¬ byteAt s i / 32 = 6 := by omega
 have e1 : ¬ byteAt s i / 16 = 14 := by omega
 have e2 : byteAt s i / 8 = 30 := by omega
 have ec : cvs s i (byteAt s i % 8) 3 = byteAt s i % 8 * 262144 + byteAt s (i + 1) % 64 * 4096 + byteAt s (i + 2) % 64 * 64 + byteAt s (i + 3) % 64 := by
  show ((byteAt s i % 8 * 64 + byteAt s (i + 1) % 64) * 64 + byteAt s (i + 2) % 64) * 64 + byteAt s (i + 3) % 64 = _
  omega
 have hlt : ¬ byteAt s i < 128 := by omega
 rw [decode_eq, ec, letB_valid]
 simp only [hlt, e0, e1, e2, beq_iff_eq, Bool.and_eq_true, decide_eq_true_eq, true_and, false_and, if_false]
 generalize byteAt s i % 8 * 262144 + byteAt s (i + 1) % 64 * 4096 + byteAt s (i + 2) % 64 * 64 + byteAt s (i + 3) % 64 = c
 by_cases ha : i + 1 < s.size <;> by_cases hb : byteAt s (i + 1) / 64 = 2 <;> by_cases ha2 : i + 2 < s.size <;> by_cases hb2 : byteAt s (i + 2) / 64 = 2 <;> by_cases ha3 : i + 3 < s.size <;> by_cases hb3 : byteAt s (i + 3) / 64 = 2 <;> by_cases hc : 65536 <= c <;> cases hv : Utf8.valid (c : Nat) <;> simp [ha, hb, ha2, hb2, ha3, hb3, hc, hv]
end Go.Proofs.YtbkfinjajkjhaaaGreatDoor
