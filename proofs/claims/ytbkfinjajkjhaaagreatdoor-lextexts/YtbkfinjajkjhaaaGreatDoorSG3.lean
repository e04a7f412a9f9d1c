import Derived.Test.YtbkfinjajkjhaaaGreatDoorLX4
import Derived.Test.YtbkfinjajkjhaaaGreatDoorW3
import Derived.Test.YtbkfinjajkjhaaaGreatDoorProg
import Derived.Laws.BitsAllLaws
import Derived.Test.YtbkfinjajkjhaaaGreatDoorW42
import Derived.Deep.RegionLaw
import Derived.Deep.AppendLies
import Derived.Laws.AppendOwnNone
import Derived.Deep.RegionHeld3
import Derived.BigQuiet
import Derived.Deep.QuietTactic
import Derived.Test.YtbkfinjajkjhaaaGreatDoorG4
import Derived.Test.YtbkfinjajkjhaaaGreatDoorW11
import Derived.Test.YtbkfinjajkjhaaaGreatDoorG2
import Derived.Lib.MapLaws
import Derived.Lib.QuoteLoop
set_option linter.unusedVariables false
set_option linter.unusedSimpArgs false
set_option maxRecDepth 100000
namespace Go.Proofs.YtbkfinjajkjhaaaGreatDoor
open Go.RowKit
def decN (r : List Nat) : Nat × Nat := Lib.decodeN r.length (r.getD 0 0) (r.getD 1 0) (r.getD 2 0) (r.getD 3 0)
theorem bstr_get (r : List Nat) (hd : Dg 256 r) (j : Nat) : ((bstr r).get! j).toNat = r.getD j 0 := by
 by_cases h : j < r.length
 ·have hj : j < (bstr r).size := by rw [bstr_size]; exact h
  rw [Utf8W.get!_of_lt _ _ hj, <- bs_get _ _ hj, bs_bstr hd]
 ·rw [List.getD_eq_getElem?_getD, List.getElem?_eq_none (by omega)]
  have hj : ¬ j < (bstr r).size := by rw [bstr_size]; exact h
  have : (bstr r).get! j = 0 := by
   show (bstr r).data[j]! = 0
   exact getElem!_neg _ _ hj
  rw [this]; rfl
theorem decN_is {r : List Nat} (hd : Dg 256 r) : Utf8.decode (bstr r) 0 = decN r := by
 rw [Lib.decode_at, bstr_size, bstr_get r hd, bstr_get r hd, bstr_get r hd, bstr_get r hd]
 rfl
theorem decGo_is {r : List Nat} (hd : Dg 256 r) (hr : r ≠ []) : Lib.decodeGo (bstr r) = decN r := by
 unfold Lib.decodeGo
 rw [if_neg (by rw [bstr_size]; exact fun h => hr (List.length_eq_zero_iff.1 h)), decN_is hd]
theorem decN_low {r : List Nat} (h : r.getD 0 0 < 128) : decN r = (r.getD 0 0, 1) := by
 unfold decN Lib.decodeN; rw [if_pos h]
theorem decN_high {r : List Nat} (hr : r ≠ []) (h : 128 <= r.getD 0 0) : 128 <= (decN r).1 /\ (decN r).1 <= 1114111 /\ 1 <= (decN r).2 /\ (decN r).2 <= 4 /\ (decN r).2 <= r.length /\ ∀ j, j < (decN r).2 -> 128 <= r.getD j 0 := by
 have hl : 0 < r.length := List.length_pos_iff.2 hr
 unfold decN
 rcases Lib.decodeN_shape r.length (r.getD 0 0) (r.getD 1 0) (r.getD 2 0) (r.getD 3 0) with ⟨h1, _⟩ | ⟨h0, h1, h2, h3, e⟩ | ⟨h0, h1, h2, h3, h4, h5, e⟩ | ⟨h0, h1, h2, h3, h4, h5, h6, e⟩ | e
 ·omega
 ·rw [e]
  refine ⟨h3, by show _ <= _; omega, by show 1 <= _; omega, by show _ <= 4; omega, h1, fun j hj => ?_⟩
  have hj : j < 2 := hj
  match j, hj with
  | 0, _ => exact h
  | 1, _ => omega
 ·rw [e]
  refine ⟨by show 128 <= _; omega, by show _ <= _; omega, by show 1 <= _; omega, by show _ <= 4; omega, h1, fun j hj => ?_⟩
  have hj : j < 3 := hj
  match j, hj with
  | 0, _ => exact h
  | 1, _ => omega
  | 2, _ => omega
 ·rw [e]
  refine ⟨by show 128 <= _; omega, h6, by show 1 <= _; omega, by show _ <= 4; omega, h1, fun j hj => ?_⟩
  have hj : j < 4 := hj
  match j, hj with
  | 0, _ => exact h
  | 1, _ => omega
  | 2, _ => omega
  | 3, _ => omega
 ·rw [e]
  refine ⟨by decide, by decide, by decide, by decide, hl, fun j hj => ?_⟩
  have hj : j < 1 := hj
  match j, hj with
  | 0, _ => exact h
theorem decN_le {r : List Nat} (hr : r ≠ []) : 1 <= (decN r).2 /\ (decN r).2 <= 4 /\ (decN r).2 <= r.length := by
 have hl : 0 < r.length := List.length_pos_iff.2 hr
 by_cases h : r.getD 0 0 < 128
 ·rw [decN_low h]; exact ⟨Nat.le_refl _, by show 1 <= 4; decide, hl⟩
 ·obtain ⟨_, _, h1, h2, h3, _⟩ := decN_high hr (by omega)
  exact ⟨h1, h2, h3⟩
theorem runeL_dec {r : List Nat} (hd : Dg 256 r) : runeL r = if decN r = (65533, 1) then (0, 0) else decN r := by
 unfold runeL runeD
 rw [decN_is hd]
theorem dlmB_high' {c : Nat} (h : 128 <= c) : dlmB c = false := by
 unfold dlmB blkB
 simp
 omega
theorem wordN_skip : ∀ (k : Nat) (l : List Nat), k <= l.length -> (∀ j, j < k -> 128 <= l.getD j 0) -> wordN l = k + wordN (l.drop k)
 | 0, l, _, _ => by simp
 | k + 1, l, h, hj => by
  have h0 : 0 < l.length := by omega
  have := wordN_go (l := l) (k := 0) h0 (dlmB_high' (hj 0 (by omega)))
  rw [List.drop_zero, Nat.zero_add] at this
  rw [this, wordN_skip k (l.drop 1) (by rw [List.length_drop]; omega) (fun j hjk => by
   have := hj (1 + j) (by omega)
   rw [List.getD_eq_getElem?_getD] at this
   rw [List.getD_eq_getElem?_getD, List.getElem?_drop]; exact this), List.drop_drop, Nat.add_comm 1 k]
  omega
theorem decodeRune_any (ao : Option Addr) (n cap : Nat) (r : List Nat) (w : World) (R : BRow w ao n cap r) (hn : 0 < n) (hT : LTabs w) : Calls Tryz.prog 100 #[.slice ao n cap] w fun e w' => e = .returned (.tuple #[.int .i32 (decN r).1, .int .i64 (decN r).2]) /\ Below w.heap.size w w' := by
 obtain ⟨b, o, rfl, hb, hc⟩ := R.rd.some (by rw [R.len]; exact hn)
 have hr : r ≠ [] := fun e => by have := R.len; rw [e] at this; simp at this; omega
 have h := Any7.utf8_DecodeRune Tryz.lays7n32 (bstr r) b o cap w hT.utf (fun j hj => by
  rw [bstr_get r R.dg]; exact hc j (by rw [<- bstr_size]; exact hj))
 rw [decGo_is R.dg hr, bstr_size, R.len] at h
 exact h
theorem u64_or_nat (a b : Nat) (ha : a < 18446744073709551616) (hb : b < 18446744073709551616) : bits .or .u64 (a : Int) (b : Int) = ((a ||| b : Nat) : Int) := by
 have hx : a ||| b < 2 ^ 64 := Nat.or_lt_two_pow (by omega) (by omega)
 have h1 : (BitVec.ofInt 64 (a : Int)).toNat = a := by
  rw [BitVec.ofInt_natCast, BitVec.toNat_ofNat]; exact Nat.mod_eq_of_lt (by omega)
 have h2 : (BitVec.ofInt 64 (b : Int)).toNat = b := by
  rw [BitVec.ofInt_natCast, BitVec.toNat_ofNat]; exact Nat.mod_eq_of_lt (by omega)
 show IntKind.u64.wrap ((BitVec.ofInt 64 (a : Int) ||| BitVec.ofInt 64 (b : Int)).toNat : Int) = _
 rw [BitVec.toNat_or, h1, h2, IntKind.wrap_u64]
 omega
theorem u64_and_nat (a b : Nat) (ha : a < 18446744073709551616) (hb : b < 18446744073709551616) : bits .and .u64 (a : Int) (b : Int) = ((a &&& b : Nat) : Int) := by
 have hx : a &&& b <= a := Nat.and_le_left
 have h1 : (BitVec.ofInt 64 (a : Int)).toNat = a := by
  rw [BitVec.ofInt_natCast, BitVec.toNat_ofNat]; exact Nat.mod_eq_of_lt (by omega)
 have h2 : (BitVec.ofInt 64 (b : Int)).toNat = b := by
  rw [BitVec.ofInt_natCast, BitVec.toNat_ofNat]; exact Nat.mod_eq_of_lt (by omega)
 show IntKind.u64.wrap ((BitVec.ofInt 64 (a : Int) &&& BitVec.ofInt 64 (b : Int)).toNat : Int) = _
 rw [BitVec.toNat_and, h1, h2, IntKind.wrap_u64]
 omega
def ltF (s : ByteArray) : Nat -> Nat -> List Int
 | 0, _ => []
 | f + 1, i => if i < s.size then ((runeD s i).1 : Int) :: ltF s f (i + max 1 (runeD s i).2) else []
theorem u8n {n : Nat} (h : n < 256) : (UInt8.ofNat n).toNat = n := by rw [UInt8.toNat_ofNat']; exact Nat.mod_eq_of_lt h
theorem letB_rng {c : Nat} (h : letB (c : Int) = true) : c <= 1114111 /\ (c < 55296 \/ 57343 < c) := by
 unfold letB at h
 simp only [Bool.and_eq_true, Bool.or_eq_true, decide_eq_true_eq] at h
 omega
theorem enc_1 {c : Nat} (h : letB (c : Int) = true) (h1 : c < 128) : (Utf8.encode (c : Int)).data.toList = [UInt8.ofNat c] := by
 have hv : Utf8.valid (c : Int) = true := by rw [<- letB_valid]; exact h
 unfold Utf8.encode
 simp only [hv, if_true, Int.toNat_natCast]
 rw [if_pos h1]
theorem enc_2 {c : Nat} (h : letB (c : Int) = true) (h1 : 128 <= c) (h2 : c < 2048) : (Utf8.encode (c : Int)).data.toList = [UInt8.ofNat (192 + c / 64), UInt8.ofNat (128 + c % 64)] := by
 have hv : Utf8.valid (c : Int) = true := by rw [<- letB_valid]; exact h
 unfold Utf8.encode
 simp only [hv, if_true, Int.toNat_natCast]
 rw [if_neg (by omega), if_pos h2]
theorem enc_3 {c : Nat} (h : letB (c : Int) = true) (h1 : 2048 <= c) (h2 : c < 65536) : (Utf8.encode (c : Int)).data.toList = [UInt8.ofNat (224 + c / 4096), UInt8.ofNat (128 + c / 64 % 64), UInt8.ofNat (128 + c % 64)] := by
 have hv : Utf8.valid (c : Int) = true := by rw [<- letB_valid]; exact h
 unfold Utf8.encode
 simp only [hv, if_true, Int.toNat_natCast]
 rw [if_neg (by omega), if_neg (by omega), if_pos h2]
theorem enc_4 {c : Nat} (h : letB (c : Int) = true) (h1 : 65536 <= c) : (Utf8.encode (c : Int)).data.toList = [UInt8.ofNat (240 + c / 262144), UInt8.ofNat (128 + c / 4096 % 64), UInt8.ofNat (128 + c / 64 % 64), UInt8.ofNat (128 + c % 64)] := by
 have hv : Utf8.valid (c : Int) = true := by rw [<- letB_valid]; exact h
 unfold Utf8.encode
 simp only [hv, if_true, Int.toNat_natCast]
 rw [if_neg (by omega), if_neg (by omega), if_neg (by omega)]
theorem dec_enc {c : Nat} (h : letB (c : Int) = true) (rest : List UInt8) : Lib.decodeL ((Utf8.encode (c : Int)).data.toList ++ rest) = (c, (Utf8.encode (c : Int)).data.toList.length) := by
 have hb := letB_rng h
 rw [Lib.decodeL_N]
 by_cases h1 : c < 128
 ·rw [enc_1 h h1]
  show Lib.decodeN _ (UInt8.ofNat c).toNat _ _ _ = (c, 1)
  rw [u8n (by omega)]
  unfold Lib.decodeN
  rw [if_pos h1]
 by_cases h2 : c < 2048
 ·rw [enc_2 h (by omega) h2]
  show Lib.decodeN _ (UInt8.ofNat (192 + c / 64)).toNat (UInt8.ofNat (128 + c % 64)).toNat _ _ = (c, 2)
  rw [u8n (by omega), u8n (by omega)]
  unfold Lib.decodeN
  rw [if_neg (by omega), if_pos ⟨by omega, by simp, by omega⟩, if_pos (by omega)]
  congr 1; omega
 by_cases h3 : c < 65536
 ·rw [enc_3 h (by omega) h3]
  show Lib.decodeN _ (UInt8.ofNat (224 + c / 4096)).toNat (UInt8.ofNat (128 + c / 64 % 64)).toNat (UInt8.ofNat (128 + c % 64)).toNat _ = (c, 3)
  rw [u8n (by omega), u8n (by omega), u8n (by omega)]
  unfold Lib.decodeN
  rw [if_neg (by omega), if_neg (by omega), if_pos ⟨by omega, ⟨by simp, by omega⟩, by simp, by omega⟩, if_pos (by omega)]
  congr 1; omega
 ·rw [enc_4 h (by omega)]
  show Lib.decodeN _ (UInt8.ofNat (240 + c / 262144)).toNat (UInt8.ofNat (128 + c / 4096 % 64)).toNat (UInt8.ofNat (128 + c / 64 % 64)).toNat (UInt8.ofNat (128 + c % 64)).toNat = (c, 4)
  rw [u8n (by omega), u8n (by omega), u8n (by omega), u8n (by omega)]
  unfold Lib.decodeN
  rw [if_neg (by omega), if_neg (by omega), if_neg (by omega), if_pos ⟨by omega, ⟨by simp, by omega⟩, ⟨by simp, by omega⟩, by simp, by omega⟩, if_pos (by omega)]
  congr 1; omega
theorem enc_len {c : Nat} (h : letB (c : Int) = true) : 1 <= (Utf8.encode (c : Int)).data.toList.length /\ (Utf8.encode (c : Int)).data.toList.length <= 4 := by
 by_cases h1 : c < 128
 ·rw [enc_1 h h1]; simp
 by_cases h2 : c < 2048
 ·rw [enc_2 h (by omega) h2]; simp
 by_cases h3 : c < 65536
 ·rw [enc_3 h (by omega) h3]; simp
 ·rw [enc_4 h (by omega)]; simp
theorem enc_is {c : Nat} (h : letB (c : Int) = true) : (Utf8.encode (c : Int)).data.toList = Lib.encodeRune (c : Int) := by
 have hb := letB_rng h
 unfold Lib.encodeRune
 by_cases h1 : c < 128
 ·rw [enc_1 h h1, Lib.encodeRuneZ_one (by omega) (by omega)]; simp
 by_cases h2 : c < 2048
 ·rw [enc_2 h (by omega) h2, Lib.encodeRuneZ_two (by omega) (by omega)]
  simp only [List.map_cons, List.map_nil]
  rw [show (192 + (c : Int) / 64).toNat = 192 + c / 64 by omega, show (128 + (c : Int) % 64).toNat = 128 + c % 64 by omega]
 by_cases h3 : c < 65536
 ·rw [enc_3 h (by omega) h3, Lib.encodeRuneZ_three (by omega)]
  simp only [List.map_cons, List.map_nil]
  rw [show (224 + (c : Int) / 4096).toNat = 224 + c / 4096 by omega, show (128 + (c : Int) / 64 % 64).toNat = 128 + c / 64 % 64 by omega, show (128 + (c : Int) % 64).toNat = 128 + c % 64 by omega]
 ·rw [enc_4 h (by omega), Lib.encodeRuneZ_four (by omega) (by omega)]
  simp only [List.map_cons, List.map_nil]
  rw [show (240 + (c : Int) / 262144).toNat = 240 + c / 262144 by omega, show (128 + (c : Int) / 4096 % 64).toNat = 128 + c / 4096 % 64 by omega, show (128 + (c : Int) / 64 % 64).toNat = 128 + c / 64 % 64 by omega, show (128 + (c : Int) % 64).toNat = 128 + c % 64 by omega]
def spelt (l : List Nat) : List UInt8 := l.flatMap (fun c : Nat => (Utf8.encode (c : Int)).data.toList)
theorem spelt_valid : ∀ {l : List Nat}, (∀ c ∈ l, letB (c : Int) = true) -> Lib.validD (spelt l) = true
 | [], _ => Lib.validD_nil
 | c :: l, h => by
  have hc := h c List.mem_cons_self
  have hl := enc_len hc
  have ih := spelt_valid (l := l) (fun x hx => h x (List.mem_cons_of_mem _ hx))
  have e : spelt (c :: l) = (Utf8.encode (c : Int)).data.toList ++ spelt l := rfl
  rw [e, Lib.validD_step _ (by intro e2; have := congrArg List.length e2; simp only [List.length_append, List.length_nil] at this; omega), dec_enc hc, if_neg, List.drop_left]
  ·exact ih
  ·rintro ⟨e1, e2⟩
   simp only at e1 e2
   subst e1
   rw [enc_3 hc (by omega) (by omega)] at e2
   simp at e2
theorem spelt_len : ∀ {l : List Nat}, (∀ c ∈ l, letB (c : Int) = true) -> l.length <= (spelt l).length
 | [], _ => Nat.le_refl _
 | c :: l, h => by
  have hl := enc_len (h c List.mem_cons_self)
  have ih := spelt_len (l := l) (fun x hx => h x (List.mem_cons_of_mem _ hx))
  have e2 : spelt (c :: l) = (Utf8.encode (c : Int)).data.toList ++ spelt l := rfl
  rw [e2, List.length_append, List.length_cons]; omega
theorem told_spelt {s : ByteArray} : ∀ {f p : Nat}, Lib.validD (s.data.toList.drop p) = true -> s.size <= p + f ->
  ∃ l : List Nat, ltF s f p = l.map (fun c : Nat => (c : Int)) /\ (∀ c ∈ l, letB (c : Int) = true) /\ s.data.toList.drop p = spelt l
 | 0, p, _, hs => ⟨[], rfl, fun c hc => (by cases hc), (by
   have h2 : s.data.toList.length = s.size := rfl
   rw [List.drop_eq_nil_of_le (by omega)]; rfl)⟩
 | f + 1, p, hv, hs => by
  have h2 : s.data.toList.length = s.size := rfl
  by_cases hp : p < s.size
  ·have hne : s.data.toList.drop p ≠ [] := by
    intro e; have := congrArg List.length e; rw [List.length_drop] at this; simp only [List.length_nil] at this; omega
   rw [Lib.validD_step _ hne, Lib.decodeL_drop] at hv
   by_cases hb : (Utf8.decode s p).1 = 65533 /\ (Utf8.decode s p).2 = 1
   ·rw [if_pos hb] at hv; cases hv
   ·rw [if_neg hb] at hv
    have hne2 : ¬ Utf8.decode s p = (65533, 1) := fun e => hb (by rw [e]; exact ⟨rfl, rfl⟩)
    have er : runeD s p = Utf8.decode s p := by unfold runeD; rw [if_neg hne2]
    have hw := decode_le s p
    rw [List.drop_drop] at hv
    obtain ⟨l, e1, e2, e3⟩ := told_spelt (s := s) (f := f) (p := p + (Utf8.decode s p).2) hv (by omega)
    have hlet : letB ((Utf8.decode s p).1 : Int) = true := by
     have hd : Utf8.decode s p = Lib.decodeL (s.data.toList.drop p) := (Lib.decodeL_drop s p).symm
     have := Lib.decodeN_valid (s.data.toList.drop p).length ((s.data.toList.drop p).getD 0 0).toNat ((s.data.toList.drop p).getD 1 0).toNat ((s.data.toList.drop p).getD 2 0).toNat ((s.data.toList.drop p).getD 3 0).toNat (UInt8.toNat_lt _)
     rw [<- Lib.decodeL_N, <- hd] at this
     unfold letB
     simp only [Bool.and_eq_true, Bool.or_eq_true, decide_eq_true_eq]
     omega
    refine ⟨(Utf8.decode s p).1 :: l, ?_, ?_, ?_⟩
    ·unfold ltF
     rw [if_pos hp, er, show max 1 (Utf8.decode s p).2 = (Utf8.decode s p).2 by omega, e1]; rfl
    ·intro c hc
     rcases List.mem_cons.1 hc with rfl | hc
     ·exact hlet
     ·exact e2 c hc
    ·have e4 : spelt ((Utf8.decode s p).1 :: l) = (Utf8.encode ((Utf8.decode s p).1 : Int)).data.toList ++ spelt l := rfl
     rw [e4, <- e3]
     have h5 := Lib.encode_decode (s.data.toList.drop p) hne (by rw [Lib.decodeL_drop]; exact hb)
     rw [Lib.decodeL_drop] at h5
     have h6 : (Utf8.encode ((Utf8.decode s p).1 : Int)).data.toList = Lib.encodeRune ((Utf8.decode s p).1 : Int) := enc_is hlet
     rw [h6, h5, <- List.drop_drop, List.take_append_drop]
  ·refine ⟨[], ?_, fun c hc => (by cases hc), ?_⟩
   ·unfold ltF; rw [if_neg hp]; rfl
   ·rw [List.drop_eq_nil_of_le (by omega)]; rfl
end Go.Proofs.YtbkfinjajkjhaaaGreatDoor
