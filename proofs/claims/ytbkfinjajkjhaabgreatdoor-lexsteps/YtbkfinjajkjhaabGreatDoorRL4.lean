import Derived.Test.YtbkfinjajkjhaabGreatDoorW15
import Derived.Test.YtbkfinjajkjhaabGreatDoorW14
import Derived.Lib.ValidLaws
import Derived.Lib.RuneCount
import Derived.Laws.BitsAllLaws
set_option linter.unusedVariables false
set_option linter.unusedSimpArgs false
namespace Go.Proofs.YtbkfinjajkjhaabGreatDoor
open Go.RowKit
theorem zero_is (w : World) : IsInt w (.agg #[.bool false, .slice none 0 0]) 0 := ⟨false, [], ⟨none, 0, 0, rfl, Row.nil _ _ _ _⟩, rfl, rfl⟩
theorem map_toNat_inj : ∀ {a b : List UInt8}, a.map UInt8.toNat = b.map UInt8.toNat -> a = b
 | [], [], _ => rfl
 | [], _ :: _, h => by simp at h
 | _ :: _, [], h => by simp at h
 | x :: a, y :: b, h => by
  simp only [List.map_cons, List.cons.injEq] at h
  rw [UInt8.toNat_inj.1 h.1, map_toNat_inj h.2]
theorem Tr.tail {a : Nat} {t : List Nat} (h : Tr (a :: t)) : Tr t := by
 cases t with
 | nil => exact .inl rfl
 | cons c t =>
  rcases h with h | h
  ·cases h
  ·refine .inr ?_
   simpa using h
theorem digits_unique {B : Nat} (hB : 1 < B) : ∀ {D D' : List Nat}, Dg B D -> Dg B D' -> Tr D -> Tr D' -> val B D = val B D' -> D = D'
 | [], [], _, _, _, _, _ => rfl
 | [], b :: t', _, _, _, h4, h => by
  have := h4.ne_zero (B := B) (by omega) (by simp)
  exact absurd h.symm this
 | a :: t, [], _, _, h3, _, h => by
  have := h3.ne_zero (B := B) (by omega) (by simp)
  exact absurd h this
 | a :: t, b :: t', h1, h2, h3, h4, h => by
  have ha : a < B := h1 a (by simp)
  have hb : b < B := h2 b (by simp)
  rw [val_cons, val_cons] at h
  have e1 : a = b := by
   have := congrArg (· % B) h
   simp only [Nat.add_mul_mod_self_left] at this
   rwa [Nat.mod_eq_of_lt ha, Nat.mod_eq_of_lt hb] at this
  subst e1
  have e2 : val B t = val B t' := Nat.eq_of_mul_eq_mul_left (show 0 < B by omega) (by omega)
  rw [digits_unique hB (fun x hx => h1 x (by simp [hx])) (fun x hx => h2 x (by simp [hx])) h3.tail h4.tail e2]
theorem bs_ext {s t : ByteArray} (h : bs s = bs t) : s = t := by
 cases s with | mk a => cases t with | mk b =>
 have : a.toList = b.toList := map_toNat_inj h
 rw [Array.toList_inj.1 this]
def Printed (neg : Bool) (v : Nat) (radix : Int) (s : ByteArray) (en : Int) : Prop :=
 (¬ (2 <= radix /\ radix <= 36) /\ bs s = [] /\ en = 1) \/
 ((2 <= radix /\ radix <= 36) /\ en = 0 /\ ∃ D, Dg radix.toNat D /\ Tr D /\ val radix.toNat D = v /\ bs s = (if D = [] then [48] else (if neg then [45] else []) ++ (D.map chr).reverse))
def PrPost (w : World) (neg : Bool) (v : Nat) (radix : Int) (e : Ending) (w' : World) : Prop := ∃ s en, e = .returned (.tuple #[.string s, .int .i64 en]) /\ Printed neg v radix s en /\ Below w.heap.size w w'
set_option maxHeartbeats 2000000 in
theorem print_all (neg : Bool) (ao : Option Addr) (n cap : Nat) (l : List Nat) (radix : Int) (w : World) (R : Row .u32 B32 w ao n cap l) (g1 : goodB neg l = true) :
  Calls Tryz.prog 35 #[.agg #[.bool neg, .slice ao n cap], .int .i64 radix] w (PrPost w neg (val B32 l) radix) := by
 by_cases hr : 2 <= radix /\ radix <= 36
 ·obtain ⟨rx, rfl⟩ := Int.eq_ofNat_of_zero_le (by omega : 0 <= radix)
  by_cases h0 : n = 0
  ·subst h0
   have HC : Hid (∀ wx, Calls Tryz.prog 45 #[.int .i64 rx] wx fun e w' => e = .returned (.bool true) /\ w' = wx) := fun wx => (isRadix_any rx wx).mono fun e w' ⟨h1, h2⟩ => ⟨by rw [h1]; simp; omega, h2⟩
   have hl : l = [] := List.length_eq_zero_iff.1 R.len
   subst hl
   have HR := hid R
   have G1 := hid g1
   have HRX := hid hr
   clear R g1 hr
   go_enter Tryz.func35, Tryz.ntmps35
   go_wp2_with fail
   refine (HC.out _).mono ?_
   rintro e wx ⟨rfl, hwx⟩
   rw [hwx]
   clear hwx
   go_wp2_with fail
   refine (good_any neg ao 0 cap [] _ (HR.out.below (Ba _ _))).mono ?_
   rintro e w1 ⟨rfl, hb1⟩
   rw [G1.out]
   have X1 := hid ((Box.new 56 w neg ao 0 cap).on hb1)
   have HB1 := hid (Bt (Ba w (.cells #[.bool neg, .slice ao 0 cap] 56)) hb1)
   obtain ⟨c0, c1⟩ := X1.out.c
   clear hb1
   go_wp2
   go_ret2
   exact ⟨_, _, rfl, .inr ⟨HRX.out, rfl, [], Dg.nil _, Tr.nil, rfl, by rw [if_pos rfl]; rfl⟩, HB1.out⟩
  ·refine (print_any neg ao n cap l rx w R g1 (by omega) (by omega) h0).mono fun e w' ⟨s, D, h1, h2, h3, h4, h5, h6⟩ => ⟨s, 0, h1, .inr ⟨hr, rfl, D, h2, h3, h4, ?_⟩, h6⟩
   have hD : D ≠ [] := by
    intro e
    subst e
    have := (goodB_tr g1).ne_zero (B := B32) (by decide) (fun e => h0 (by rw [<- R.len, e]; rfl))
    exact this h4.symm
   rw [h5, if_neg hD]
 ·have HC : Hid (∀ wx, Calls Tryz.prog 45 #[.int .i64 radix] wx fun e w' => e = .returned (.bool false) /\ w' = wx) := fun wx => (isRadix_any radix wx).mono fun e w' ⟨h1, h2⟩ => ⟨by rw [h1]; simp; omega, h2⟩
  have HR := hid hr
  clear hr R g1
  go_enter Tryz.func35, Tryz.ntmps35
  go_wp2_with (go_at_call 45; refine (HC.out _).mono ?_; rintro e wx ⟨rfl, hwx⟩; rw [hwx]; clear hwx)
  go_ret2
  exact ⟨_, _, rfl, .inl ⟨HR.out, rfl, rfl⟩, Ba _ _⟩
def letB (n : Int) : Bool := decide (0 <= n) && decide (n <= 1114111) && (decide (n < 55296) || decide (57343 < n))
theorem letB_valid (n : Int) : letB n = Utf8.valid n := by
 unfold letB Utf8.valid
 rw [Bool.eq_iff_iff]
 simp only [Bool.and_eq_true, Bool.or_eq_true, decide_eq_true_eq]
 omega
def runeD (s : ByteArray) (i : Nat) : Nat × Nat := if Utf8.decode s i = (65533, 1) then (0, 0) else Utf8.decode s i
def byteAt (s : ByteArray) (i : Nat) : Nat := (s.get! i).toNat
theorem byteAt_lt (s : ByteArray) (i : Nat) : byteAt s i < 256 := UInt8.toNat_lt _
theorem decode_eq (s : ByteArray) (i : Nat) : Utf8.decode s i =
  (if byteAt s i < 128 then (byteAt s i, 1)
  else if byteAt s i / 32 == 6 && (decide (i + 1 < s.size) && byteAt s (i + 1) / 64 == 2) then
   (if byteAt s i % 32 * 64 + byteAt s (i + 1) % 64 >= 128 then (byteAt s i % 32 * 64 + byteAt s (i + 1) % 64, 2) else (65533, 1))
  else if byteAt s i / 16 == 14 && (decide (i + 1 < s.size) && byteAt s (i + 1) / 64 == 2) && (decide (i + 2 < s.size) && byteAt s (i + 2) / 64 == 2) then
   (if decide (byteAt s i % 16 * 4096 + byteAt s (i + 1) % 64 * 64 + byteAt s (i + 2) % 64 >= 2048) && Utf8.valid (byteAt s i % 16 * 4096 + byteAt s (i + 1) % 64 * 64 + byteAt s (i + 2) % 64 : Nat) then (byteAt s i % 16 * 4096 + byteAt s (i + 1) % 64 * 64 + byteAt s (i + 2) % 64, 3) else (65533, 1))
  else if byteAt s i / 8 == 30 && (decide (i + 1 < s.size) && byteAt s (i + 1) / 64 == 2) && (decide (i + 2 < s.size) && byteAt s (i + 2) / 64 == 2) && (decide (i + 3 < s.size) && byteAt s (i + 3) / 64 == 2) then
   (if decide (byteAt s i % 8 * 262144 + byteAt s (i + 1) % 64 * 4096 + byteAt s (i + 2) % 64 * 64 + byteAt s (i + 3) % 64 >= 65536) && Utf8.valid (byteAt s i % 8 * 262144 + byteAt s (i + 1) % 64 * 4096 + byteAt s (i + 2) % 64 * 64 + byteAt s (i + 3) % 64 : Nat) then (byteAt s i % 8 * 262144 + byteAt s (i + 1) % 64 * 4096 + byteAt s (i + 2) % 64 * 64 + byteAt s (i + 3) % 64, 4) else (65533, 1))
  else (65533, 1)) := by
 rfl
set_option maxRecDepth 100000
theorem Ans.intL {w : World} {x : Value} {en : Int} {neg : Bool} {v : Nat} (h : Ans w x en neg v) : (¬ Big v /\ en = 0 /\ IsInt w x (sgn neg v)) \/ (Big v /\ en = 10 /\ IsInt w x 0) := by
 rcases h with ⟨h1, h2, l, h3, h4, h5⟩ | ⟨h1, h2, rfl⟩
 ·refine .inl ⟨h1, h2, ?_⟩
  rw [<- h5] at h1 ⊢
  exact is_mk h3 h4 h1
 ·exact .inr ⟨h1, h2, zero_is w⟩
theorem ppost_is {w w' : World} {s : List Nat} {radix : Int} {e : Ending} (h : ParsePost w s radix e w') (hr : 2 <= radix /\ radix <= 36) : ∃ sx ao n cap en z, e = .returned (.tuple #[.agg #[.bool sx, .slice ao n cap], .int .i64 en]) /\ Below w.heap.size w w' /\ IsInt w' (.agg #[.bool sx, .slice ao n cap]) z /\
  ((digitsB radix (cutS s).2 = false /\ en = 12) \/ (digitsB radix (cutS s).2 = true /\ Big (hv radix.toNat (cutS s).2) /\ en = 10) \/ (digitsB radix (cutS s).2 = true /\ ¬ Big (hv radix.toNat (cutS s).2) /\ en = 0 /\ z = sgn (cutS s).1 (hv radix.toNat (cutS s).2))) := by
 obtain ⟨x, en, rfl, hb, h⟩ := h
 rcases h with ⟨h1, _⟩ | ⟨_, h2, rfl, h3⟩ | ⟨_, h2, h3⟩
 ·exact absurd hr h1
 ·exact ⟨false, none, 0, 0, en, 0, rfl, hb, zero_is _, .inl ⟨h2, h3⟩⟩
 ·rcases h3.intL with ⟨k1, k2, k3⟩ | ⟨k1, k2, k3⟩
  ·obtain ⟨sx, ao, n, cap, l, rfl, _⟩ := k3.open_
   exact ⟨sx, ao, n, cap, en, _, rfl, hb, k3, .inr (.inr ⟨h2, k1, k2, rfl⟩)⟩
  ·obtain ⟨sx, ao, n, cap, l, rfl, _⟩ := k3.open_
   exact ⟨sx, ao, n, cap, en, _, rfl, hb, k3, .inr (.inl ⟨h2, k1, k2⟩)⟩
theorem hvf_lt (b : Nat) : ∀ (l : List Nat) (a : Nat), (∀ c ∈ l, dgt c < b) -> l.foldl (fun a c => a * b + dgt c) a < (a + 1) * b ^ l.length
 | [], a, _ => by simp
 | c :: l, a, h => by
  have h1 := hvf_lt b l (a * b + dgt c) (fun c' h' => h c' (.tail _ h'))
  have h2 := h c (.head _)
  have h3 : (a * b + dgt c + 1) * b ^ l.length <= (a + 1) * b * b ^ l.length := Nat.mul_le_mul_right _ (by rw [Nat.add_mul]; omega)
  rw [List.foldl_cons, List.length_cons, Nat.pow_succ, Nat.mul_comm (b ^ l.length) b, <- Nat.mul_assoc]
  omega
def numH (t : List Nat) : Option Nat := if (1 <= t.length /\ t.length <= 6) /\ digitsB 16 t = true /\ letB (hv 16 t : Nat) = true then some (hv 16 t) else none
end Go.Proofs.YtbkfinjajkjhaabGreatDoor
