import Derived.Test.YtbkfinjajkjhaaaGreatDoorShelfS
import Derived.Test.YtbkfinjajkjhaaaGreatDoorLX24
import Derived.Shelf.Strconv.Itoa4
set_option linter.unusedVariables false
set_option linter.unusedSimpArgs false
set_option maxRecDepth 100000
namespace Go.Proofs.YtbkfinjajkjhaaaGreatDoor
open Go.RowKit
def PowT (w : World) : Prop := Lib.TabIs Tryz.prog w "internal/strconv.uint64pow10" .u64 Lib.pow10Tab
theorem PowT.below {w w' : World} (h : PowT w) (hb : Below w.heap.size w w') : PowT w' := by
 unfold PowT at *
 cases hg : Tryz.prog.globalNamed "internal/strconv.uint64pow10" with
 | none =>
  unfold Lib.TabIs World.var? at h
  rw [hg] at h
  cases h
 | some g => exact Joins.tab_stays hg h hb (Nat.le_refl _)
theorem dec_rad : ∀ v : Nat, (Lib.decDigits v).map UInt8.toNat = radL 10 false v := by
 intro v
 induction v using Nat.strongRecOn with
 | _ v ih =>
  by_cases h : v < 10
  ·rw [Lib.decDigits_one h]
   have : ∀ k : Fin 10, [UInt8.ofNat (48 + k.val)].map UInt8.toNat = radL 10 false k.val := by decide
   exact this ⟨v, h⟩
  ·have e : radL 10 false v = radL 10 false (v / 10) ++ [chr (v % 10)] := by
    rw [rad_body (by omega), rad_body (by omega), dgs_step (by omega) (show v ≠ 0 by omega)]
    have hne : dgs 10 (v / 10) ≠ [] := by rw [dgs_step (by omega) (by omega)]; exact List.cons_ne_nil _ _
    unfold body
    rw [if_neg (List.cons_ne_nil _ _), if_neg hne]
    simp
   rw [Lib.decDigits, dif_neg h, List.map_append, ih (v / 10) (by omega), e]
   congr 1
   have hc : chr (v % 10) = 48 + v % 10 := by unfold chr; rw [if_pos (by omega)]
   rw [hc]
   simp
   omega
theorem itoa_rad (n : Nat) : (⟨(Lib.itoa (n : Int)).toArray⟩ : ByteArray) = bstr (radL 10 false n) := by
 have h : Lib.itoa (n : Int) = Lib.decDigits n := by unfold Lib.itoa; rw [if_neg (by omega)]; rfl
 rw [h, <- dec_rad]
 unfold bstr
 rw [List.map_map]
 have : (UInt8.ofNat ∘ UInt8.toNat) = id := by funext u; simp
 rw [this, List.map_id]
theorem belowGrow (w : World) (k : Nat) (os : Array Obj) : Below w.heap.size w (Sort.grow (w.drewN k) os) := by
 refine ⟨rfl, rfl, rfl, ?_, fun b hb => ?_⟩
 ·simp [Sort.grow, World.drewN]
 ·simp [Sort.grow, World.drewN]
  rw [Array.getElem?_append_left hb]
theorem intFormat10_any (n : Nat) (hn : n <= 999999999) (w : World) (hT : PowT w) : Calls Tryz.prog 94 #[.int .i64 (n : Int), .int .i64 10] w fun e w' => e = .returned (.string (bstr (radL 10 false n))) /\ Below w.heap.size w w' := by
 refine (Any.internal_strconv_FormatInt_10 (P := Tryz.prog) { Tryz.laysM173 with } (n : Int) (by omega) (by omega) w hT).mono ?_
 rintro e w' ⟨rfl, k, os, rfl⟩
 rw [itoa_rad]
 exact ⟨rfl, belowGrow w k os⟩
theorem intItoa_any (n : Nat) (hn : n <= 999999999) (w : World) (hT : PowT w) : Calls Tryz.prog 72 #[.int .i64 (n : Int)] w fun e w' => e = .returned (.string (bstr (radL 10 false n))) /\ Below w.heap.size w w' := by
 have C := hid (intFormat10_any n hn w hT)
 clear hT hn
 go_enter Tryz.func72, Tryz.ntmps72
 go_wp2_with (go_at_call 94; with_reducible refine C.out.mono ?_; rintro e wa ⟨rfl, ba⟩; have HB := hid ba; clear ba)
 go_ret
 exact ⟨rfl, HB.out⟩
theorem strItoa_any (n : Nat) (hn : n <= 999999999) (w : World) (hT : PowT w) : Calls Tryz.prog 45 #[.int .i64 (n : Int)] w fun e w' => e = .returned (.string (bstr (radL 10 false n))) /\ Below w.heap.size w w' := by
 have C := hid (intItoa_any n hn w hT)
 clear hT hn
 go_enter Tryz.func45, Tryz.ntmps45
 go_wp2_with (go_at_call 72; with_reducible refine C.out.mono ?_; rintro e wa ⟨rfl, ba⟩; have HB := hid ba; clear ba)
 go_ret
 exact ⟨rfl, HB.out⟩
def escL (c : Nat) : List Nat :=
 if c = 34 \/ c = 92 then [92, c] else if c = 10 then [92, 110] else if c = 9 then [92, 116] else if c = 13 then [92, 114]
 else if c < 32 \/ c = 127 then 92 :: 120 :: (hx c ++ [59]) else []
theorem bstr_app (a b : List Nat) : bstr a ++ bstr b = bstr (a ++ b) := by
 apply ByteArray.ext
 unfold bstr
 simp
set_option maxHeartbeats 4000000 in
theorem escape_any (r : Nat) (w : World) (hr : r <= 1114111) (hD : DbT w) : Calls Tryz.prog 49 #[.int .i32 (r : Int)] w fun e w' => e = .returned (.string (bstr (escL r))) /\ Below w.heap.size w w' := by
 by_cases c1 : r = 34
 ·subst c1
  clear hD hr
  go_enter Tryz.func49, Tryz.ntmps49
  go_wp2
  go_ret
  exact ⟨rfl, Below.refl _ _⟩
 by_cases c2 : r = 92
 ·subst c2
  clear hD hr
  go_enter Tryz.func49, Tryz.ntmps49
  go_wp2
  go_ret
  exact ⟨rfl, Below.refl _ _⟩
 by_cases c3 : r = 10
 ·subst c3
  clear hD hr
  go_enter Tryz.func49, Tryz.ntmps49
  go_wp2
  go_ret
  exact ⟨rfl, Below.refl _ _⟩
 by_cases c4 : r = 9
 ·subst c4
  clear hD hr
  go_enter Tryz.func49, Tryz.ntmps49
  go_wp2
  go_ret
  exact ⟨rfl, Below.refl _ _⟩
 by_cases c5 : r = 13
 ·subst c5
  clear hD hr
  go_enter Tryz.func49, Tryz.ntmps49
  go_wp2
  go_ret
  exact ⟨rfl, Below.refl _ _⟩
 have t1 : ((r : Int) == 34) = false := by simp; omega
 have t2 : ((r : Int) == 92) = false := by simp; omega
 have t3 : ((r : Int) == 10) = false := by simp; omega
 have t4 : ((r : Int) == 9) = false := by simp; omega
 have t5 : ((r : Int) == 13) = false := by simp; omega
 have C := hid (fun h => hexOf_any r w (by omega : r < 16777216) h)
 have e0 : escL r = if r < 32 \/ r = 127 then 92 :: 120 :: (hx r ++ [59]) else [] := by
  unfold escL; rw [if_neg (by omega), if_neg c3, if_neg c4, if_neg c5]
 have hx6 := hx_len 5 r (by omega)
 obtain ⟨S, hS⟩ : ∃ S, S = bstr (hx r) := ⟨_, rfl⟩
 have hSz : S.size <= 6 := by rw [hS, bstr_size]; exact hx6
 rw [<- hS] at C
 have l1 : ¬ 9223372036854775807 < 2 + S.size := by omega
 have l2 : ¬ 9223372036854775807 < 2 + S.size + 1 := by omega
 by_cases c6 : r < 32
 ·have e1 : Hid (bstr (escL r) = (⟨#[92, 120]⟩ : ByteArray) ++ S ++ ⟨#[59]⟩) := by
   unfold Hid
   rw [e0, if_pos (.inl c6), hS, show (⟨#[92, 120]⟩ : ByteArray) = bstr [92, 120] from rfl, show (⟨#[59]⟩ : ByteArray) = bstr [59] from rfl, bstr_app, bstr_app]; rfl
  have q1 : (r : Int) < 32 := by omega
  have C2 := hid (C.out hD)
  rw [e1.out]
  clear c1 c2 c3 c4 c5 e0 hx6 hS hSz c6 C hD hr
  go_enter Tryz.func49, Tryz.ntmps49
  go_wp2_with (go_at_call 47; with_reducible refine C2.out.mono ?_; rintro e wa ⟨rfl, ba⟩; have HB := hid ba; clear ba)
  go_ret
  exact ⟨rfl, HB.out⟩
 have q1 : ¬ (r : Int) < 32 := by omega
 by_cases c7 : r = 127
 ·have e1 : Hid (bstr (escL r) = (⟨#[92, 120]⟩ : ByteArray) ++ S ++ ⟨#[59]⟩) := by
   unfold Hid
   rw [e0, if_pos (.inr c7), hS, show (⟨#[92, 120]⟩ : ByteArray) = bstr [92, 120] from rfl, show (⟨#[59]⟩ : ByteArray) = bstr [59] from rfl, bstr_app, bstr_app]; rfl
  have q2 : ((r : Int) == 127) = true := by simp; omega
  have C2 := hid (C.out hD)
  rw [e1.out]
  clear c1 c2 c3 c4 c5 e0 hx6 hS hSz c6 c7 C hD hr
  go_enter Tryz.func49, Tryz.ntmps49
  go_wp2_with (go_at_call 47; with_reducible refine C2.out.mono ?_; rintro e wa ⟨rfl, ba⟩; have HB := hid ba; clear ba)
  go_ret
  exact ⟨rfl, HB.out⟩
 ·have e1 : Hid (escL r = []) := by unfold Hid; rw [e0, if_neg (by omega)]
  have q2 : ((r : Int) == 127) = false := by simp; omega
  rw [e1.out]
  clear c1 c2 c3 c4 c5 e0 hx6 hS hSz c6 c7 C hD hr l1 l2
  go_enter Tryz.func49, Tryz.ntmps49
  go_wp2_with fail
  go_ret
  exact ⟨rfl, Below.refl _ _⟩
theorem spellBool_any (n : Int) (w : World) : Calls Tryz.prog 26 #[.int .i64 n] w fun e w' => e = .returned (.string (bstr (blS n))) /\ Below w.heap.size w w' := by
 by_cases c1 : n = 0
 ·subst c1
  go_enter Tryz.func26, Tryz.ntmps26
  go_wp2
  go_ret
  exact ⟨rfl, Below.refl _ _⟩
 by_cases c2 : n = 1
 ·subst c2
  go_enter Tryz.func26, Tryz.ntmps26
  go_wp2
  go_ret
  exact ⟨rfl, Below.refl _ _⟩
 have t1 : (n == 0) = false := by simp; exact c1
 have t2 : (n == 1) = false := by simp; exact c2
 have e1 : Hid (blS n = []) := by unfold Hid blS; rw [if_neg c1, if_neg c2]
 rw [e1.out]
 clear c1 c2
 go_enter Tryz.func26, Tryz.ntmps26
 go_wp2_with fail
 go_ret
 exact ⟨rfl, Below.refl _ _⟩
theorem spellLabel_any (n : Int) (c : Nat) (m : ByteArray) (w : World) (hm : m = bstr [c]) (hP : PowT w) : Calls Tryz.prog 25 #[.int .i64 n, .string m] w fun e w' => e = .returned (.string (bstr (lbS n c))) /\ Below w.heap.size w w' := by
 by_cases c1 : n < 0
 ·have e1 : Hid (lbS n c = []) := by unfold Hid lbS; rw [if_neg (by omega)]
  rw [e1.out]
  clear hP hm
  go_enter Tryz.func25, Tryz.ntmps25
  go_wp2_with fail
  go_ret
  exact ⟨rfl, Below.refl _ _⟩
 by_cases c2 : 999999999 < n
 ·have e1 : Hid (lbS n c = []) := by unfold Hid lbS; rw [if_neg (by omega)]
  rw [e1.out]
  clear hP hm
  go_enter Tryz.func25, Tryz.ntmps25
  go_wp2_with fail
  go_ret
  exact ⟨rfl, Below.refl _ _⟩
 obtain ⟨k, rfl⟩ : ∃ k : Nat, n = (k : Int) := ⟨n.toNat, by omega⟩
 have C := hid (strItoa_any k (by omega) w hP)
 have hl := rad_len (b := 10) (by omega) (k := 8) (v := k) (by omega)
 obtain ⟨S, hS⟩ : ∃ S, S = bstr (radL 10 false k) := ⟨_, rfl⟩
 have hSz : S.size <= 9 := by rw [hS, bstr_size]; exact hl
 have hmz : m.size = 1 := by rw [hm, bstr_size]; rfl
 rw [<- hS] at C
 have e1 : Hid (bstr (lbS (k : Int) c) = (⟨#[35]⟩ : ByteArray) ++ S ++ m) := by
  unfold Hid lbS lbL
  rw [if_pos (by omega), Int.toNat_natCast, hS, hm, show (⟨#[35]⟩ : ByteArray) = bstr [35] from rfl, bstr_app, bstr_app]; rfl
 have l1 : ¬ 9223372036854775807 < 1 + S.size := by omega
 have l2 : ¬ 9223372036854775807 < 1 + S.size + m.size := by omega
 rw [e1.out]
 clear hP hm hS hSz hmz hl
 go_enter Tryz.func25, Tryz.ntmps25
 go_wp2_with (go_at_call 45; with_reducible refine C.out.mono ?_; rintro e wa ⟨rfl, ba⟩; have HB := hid ba; clear ba)
 go_ret
 exact ⟨rfl, HB.out⟩
end Go.Proofs.YtbkfinjajkjhaaaGreatDoor
