import Derived.Test.YtbkfinjajkjhaaaGreatDoorLX25
import Derived.Test.YtbkfinjajkjhaaaGreatDoorLM6
import Derived.Test.YtbkfinjajkjhaaaGreatDoorLX27
import Derived.Test.YtbkfinjajkjhaaaGreatDoorLShelf
import Derived.Test.YtbkfinjajkjhaaaGreatDoorW42
set_option linter.unusedVariables false
set_option linter.unusedSimpArgs false
set_option maxRecDepth 100000
namespace Go.Proofs.YtbkfinjajkjhaaaGreatDoor
open Go.RowKit
def chF (n : Nat) : Nat -> List Nat
 | 0 => if n = 32 then [35, 92, 115, 112, 97, 99, 101] else if n = 10 then [35, 92, 110, 101, 119, 108, 105, 110, 101] else if n = 9 then [35, 92, 116, 97, 98] else if n = 13 then [35, 92, 114, 101, 116, 117, 114, 110] else if n = 0 then [35, 92, 110, 117, 108, 108] else if 33 <= n /\ n <= 126 then [35, 92, n] else 35 :: 92 :: 120 :: hx n
 | 1 => if n = 10 then [35, 92, 110, 101, 119, 108, 105, 110, 101] else if n = 9 then [35, 92, 116, 97, 98] else if n = 13 then [35, 92, 114, 101, 116, 117, 114, 110] else if n = 0 then [35, 92, 110, 117, 108, 108] else if 33 <= n /\ n <= 126 then [35, 92, n] else 35 :: 92 :: 120 :: hx n
 | 2 => if n = 9 then [35, 92, 116, 97, 98] else if n = 13 then [35, 92, 114, 101, 116, 117, 114, 110] else if n = 0 then [35, 92, 110, 117, 108, 108] else if 33 <= n /\ n <= 126 then [35, 92, n] else 35 :: 92 :: 120 :: hx n
 | 3 => if n = 13 then [35, 92, 114, 101, 116, 117, 114, 110] else if n = 0 then [35, 92, 110, 117, 108, 108] else if 33 <= n /\ n <= 126 then [35, 92, n] else 35 :: 92 :: 120 :: hx n
 | 4 => if n = 0 then [35, 92, 110, 117, 108, 108] else if 33 <= n /\ n <= 126 then [35, 92, n] else 35 :: 92 :: 120 :: hx n
 | _ => if 33 <= n /\ n <= 126 then [35, 92, n] else 35 :: 92 :: 120 :: hx n
set_option maxHeartbeats 8000000 in
theorem spellChar_any (n : Int) (w : World) (hn1 : -9223372036854775808 <= n) (hn2 : n <= 9223372036854775807) (hT : LTabs w) (hD : DbT w) : Calls Tryz.prog 27 #[.int .i64 n] w fun e w' => e = .returned (.string (bstr (chS n))) /\ Below w.heap.size w w' := by
 by_cases c1 : n < 0
 ·have e1 : Hid (chS n = []) := by unfold Hid chS; rw [if_neg]; unfold letB; simp; omega
  rw [e1.out]
  clear hT hD
  go_enter Tryz.func27, Tryz.ntmps27
  go_wp2_with fail
  go_ret
  exact ⟨rfl, Below.refl _ _⟩
 by_cases c2 : 1114111 < n
 ·have e1 : Hid (chS n = []) := by unfold Hid chS; rw [if_neg]; unfold letB; simp; omega
  rw [e1.out]
  clear hT hD
  go_enter Tryz.func27, Tryz.ntmps27
  go_wp2_with fail
  go_ret
  exact ⟨rfl, Below.refl _ _⟩
 obtain ⟨k, rfl⟩ : ∃ k : Nat, n = (k : Int) := ⟨n.toNat, by omega⟩
 have CV := hid (fun W => validRune_any k W)
 have k1 : (k : Int) <= 1114111 := by omega
 have hwr : IntKind.i32.wrap (k : Int) = (k : Int) := by rw [IntKind.wrap_i32]; omega
 cases hb : letB (k : Int) with
 | false =>
  have e1 : Hid (chS (k : Int) = []) := by unfold Hid chS; rw [hb]; rfl
  rw [hb] at CV
  rw [e1.out]
  clear hT hD hb
  go_enter Tryz.func27, Tryz.ntmps27
  go_wp2_with (go_at_call 46; with_reducible refine (CV.out _).mono ?_; rintro e wa ⟨rfl, rfl⟩)
  go_ret
  exact ⟨rfl, Below.refl _ _⟩
 | true =>
  obtain ⟨A, hA⟩ : ∃ A, A = chF k 0 := ⟨_, rfl⟩
  have e1 : Hid (chS (k : Int) = A) := by unfold Hid chS; rw [hb, if_pos rfl, Int.toNat_natCast, hA]; rfl
  have HA := hid hA
  have HT := hid hT
  have HD := hid hD
  have HK := hid k1
  have HB : Hid (Below w.heap.size w w) := Below.refl _ _
  have cl := hT.nm
  have c0 := cl 0 _ rfl
  have c1 := cl 1 _ rfl
  have c2 := cl 2 _ rfl
  have c3 := cl 3 _ rfl
  have c4 := cl 4 _ rfl
  have c5 := cl 5 _ rfl
  have c6 := cl 6 _ rfl
  have c7 := cl 7 _ rfl
  have c8 := cl 8 _ rfl
  have c9 := cl 9 _ rfl
  rw [hb] at CV
  rw [e1.out]
  clear hT hD hb hA cl
  go_enter Tryz.func27, Tryz.ntmps27
  go_wp2_with (go_at_call 46; with_reducible refine (CV.out _).mono ?_; rintro e wa ⟨rfl, rfl⟩)
  go_loopg [21] (6) (fun g v wx => ∃ j : Nat, v = .int .i64 j /\ j <= 5 /\ g = 6 - j /\ Hid (Below wa.heap.size wa wx) /\ Hid (A = chF k j))
  case atStart => exact ⟨0, rfl, by omega, rfl, HB.out, HA.out⟩
  case round =>
   obtain ⟨j, rfl, hj, rfl, hB, hI⟩ := hrel
   clear HB HA
   have HSz := size_alloc wr
   rcases (by omega : j = 0 \/ j = 1 \/ j = 2 \/ j = 3 \/ j = 4 \/ j = 5) with rfl | rfl | rfl | rfl | rfl | rfl
   ·have hix := index_ln0
    have hnm : chF k 0 = if k = 32 then [35, 92, 115, 112, 97, 99, 101] else chF k 1 := rfl
    by_cases n1 : k = 32
    ·have e2 : Hid (A = [35, 92, 115, 112, 97, 99, 101]) := by unfold Hid; rw [hI.out, hnm, if_pos n1]
     have t1 : ((32 : Int) == (k : Int)) = true := by simp; omega
     have t2 : ((k : Int) == (32 : Int)) = true := by simp; omega
     clear n1 hI hnm
     go_wp2_with fail
     go_ret
     exact ⟨by rw [e2.out]; rfl, hB.out.trans ((Ba wr _).mono hB.out.size)⟩
    ·have e2 : Hid (A = chF k 1) := by unfold Hid; rw [hI.out, hnm, if_neg n1]
     have t1 : ((32 : Int) == (k : Int)) = false := by simp; omega
     have t2 : ((k : Int) == (32 : Int)) = false := by simp; omega
     clear n1 hI hnm
     go_wp2_with fail
     go_roundg (6 - 1)
     case measure => omega
     case rel => exact ⟨1, by go_num, by omega, rfl, hB.out.trans ((Ba wr _).mono hB.out.size), e2.out⟩
   ·have hix := index_ln1
    have hnm : chF k 1 = if k = 10 then [35, 92, 110, 101, 119, 108, 105, 110, 101] else chF k 2 := rfl
    by_cases n1 : k = 10
    ·have e2 : Hid (A = [35, 92, 110, 101, 119, 108, 105, 110, 101]) := by unfold Hid; rw [hI.out, hnm, if_pos n1]
     have t1 : ((10 : Int) == (k : Int)) = true := by simp; omega
     have t2 : ((k : Int) == (10 : Int)) = true := by simp; omega
     clear n1 hI hnm
     go_wp2_with fail
     go_ret
     exact ⟨by rw [e2.out]; rfl, hB.out.trans ((Ba wr _).mono hB.out.size)⟩
    ·have e2 : Hid (A = chF k 2) := by unfold Hid; rw [hI.out, hnm, if_neg n1]
     have t1 : ((10 : Int) == (k : Int)) = false := by simp; omega
     have t2 : ((k : Int) == (10 : Int)) = false := by simp; omega
     clear n1 hI hnm
     go_wp2_with fail
     go_roundg (6 - 2)
     case measure => omega
     case rel => exact ⟨2, by go_num, by omega, rfl, hB.out.trans ((Ba wr _).mono hB.out.size), e2.out⟩
   ·have hix := index_ln2
    have hnm : chF k 2 = if k = 9 then [35, 92, 116, 97, 98] else chF k 3 := rfl
    by_cases n1 : k = 9
    ·have e2 : Hid (A = [35, 92, 116, 97, 98]) := by unfold Hid; rw [hI.out, hnm, if_pos n1]
     have t1 : ((9 : Int) == (k : Int)) = true := by simp; omega
     have t2 : ((k : Int) == (9 : Int)) = true := by simp; omega
     clear n1 hI hnm
     go_wp2_with fail
     go_ret
     exact ⟨by rw [e2.out]; rfl, hB.out.trans ((Ba wr _).mono hB.out.size)⟩
    ·have e2 : Hid (A = chF k 3) := by unfold Hid; rw [hI.out, hnm, if_neg n1]
     have t1 : ((9 : Int) == (k : Int)) = false := by simp; omega
     have t2 : ((k : Int) == (9 : Int)) = false := by simp; omega
     clear n1 hI hnm
     go_wp2_with fail
     go_roundg (6 - 3)
     case measure => omega
     case rel => exact ⟨3, by go_num, by omega, rfl, hB.out.trans ((Ba wr _).mono hB.out.size), e2.out⟩
   ·have hix := index_ln3
    have hnm : chF k 3 = if k = 13 then [35, 92, 114, 101, 116, 117, 114, 110] else chF k 4 := rfl
    by_cases n1 : k = 13
    ·have e2 : Hid (A = [35, 92, 114, 101, 116, 117, 114, 110]) := by unfold Hid; rw [hI.out, hnm, if_pos n1]
     have t1 : ((13 : Int) == (k : Int)) = true := by simp; omega
     have t2 : ((k : Int) == (13 : Int)) = true := by simp; omega
     clear n1 hI hnm
     go_wp2_with fail
     go_ret
     exact ⟨by rw [e2.out]; rfl, hB.out.trans ((Ba wr _).mono hB.out.size)⟩
    ·have e2 : Hid (A = chF k 4) := by unfold Hid; rw [hI.out, hnm, if_neg n1]
     have t1 : ((13 : Int) == (k : Int)) = false := by simp; omega
     have t2 : ((k : Int) == (13 : Int)) = false := by simp; omega
     clear n1 hI hnm
     go_wp2_with fail
     go_roundg (6 - 4)
     case measure => omega
     case rel => exact ⟨4, by go_num, by omega, rfl, hB.out.trans ((Ba wr _).mono hB.out.size), e2.out⟩
   ·have hix := index_ln4
    have hnm : chF k 4 = if k = 0 then [35, 92, 110, 117, 108, 108] else chF k 5 := rfl
    by_cases n1 : k = 0
    ·have e2 : Hid (A = [35, 92, 110, 117, 108, 108]) := by unfold Hid; rw [hI.out, hnm, if_pos n1]
     have t1 : ((0 : Int) == (k : Int)) = true := by simp; omega
     have t2 : ((k : Int) == (0 : Int)) = true := by simp; omega
     clear n1 hI hnm
     go_wp2_with fail
     go_ret
     exact ⟨by rw [e2.out]; rfl, hB.out.trans ((Ba wr _).mono hB.out.size)⟩
    ·have e2 : Hid (A = chF k 5) := by unfold Hid; rw [hI.out, hnm, if_neg n1]
     have t1 : ((0 : Int) == (k : Int)) = false := by simp; omega
     have t2 : ((k : Int) == (0 : Int)) = false := by simp; omega
     clear n1 hI hnm
     go_wp2_with fail
     go_roundg (6 - 5)
     case measure => omega
     case rel => exact ⟨5, by go_num, by omega, rfl, hB.out.trans ((Ba wr _).mono hB.out.size), e2.out⟩
   ·have hI5 : Hid (A = if 33 <= k /\ k <= 126 then [35, 92, k] else 35 :: 92 :: 120 :: hx k) := hI.out
    by_cases n1 : 33 <= k
    ·have q1 : 33 <= (k : Int) := by omega
     by_cases n2 : k <= 126
     ·have q2 : (k : Int) <= 126 := by omega
      have e2 : Hid (A = [35, 92, k]) := by unfold Hid; rw [hI5.out, if_pos ⟨n1, n2⟩]
      have he : Hid (bstr [35, 92, k] = (⟨#[35, 92]⟩ : ByteArray) ++ Utf8.encode (k : Int)) := by
       unfold Hid
       have := eN_low (n := k) (by omega)
       unfold eN at this
       rw [<- bstr_bs (Utf8.encode (k : Int)), this, show (⟨#[35, 92]⟩ : ByteArray) = bstr [35, 92] from rfl, bstr_app]; rfl
      have hsz : (Utf8.encode (k : Int)).size = 1 := by
       have := eN_low (n := k) (by omega)
       unfold eN at this
       rw [<- bs_length, this]; rfl
      have l1 : ¬ 9223372036854775807 < 2 + (Utf8.encode (k : Int)).size := by omega
      clear n1 n2 hI hI5
      go_wp2_with fail
      go_ret
      exact ⟨by rw [e2.out, he.out]; rfl, hB.out⟩
     ·have q2 : ¬ (k : Int) <= 126 := by omega
      have e2 : Hid (A = 35 :: 92 :: 120 :: hx k) := by unfold Hid; rw [hI5.out, if_neg (by omega)]
      have CH := hid (hexOf_any k wr (by have := HK.out; omega) (HD.out.below hB.out))
      have hx6 := hx_len 5 k (by have := HK.out; omega)
      obtain ⟨S, hS⟩ : ∃ S, S = bstr (hx k) := ⟨_, rfl⟩
      have hSz : S.size <= 6 := by rw [hS, bstr_size]; exact hx6
      rw [<- hS] at CH
      have he : Hid (bstr (35 :: 92 :: 120 :: hx k) = (⟨#[35, 92, 120]⟩ : ByteArray) ++ S) := by
       unfold Hid; rw [hS, show (⟨#[35, 92, 120]⟩ : ByteArray) = bstr [35, 92, 120] from rfl, bstr_app]; rfl
      have l1 : ¬ 9223372036854775807 < 3 + S.size := by omega
      clear n1 n2 hI hI5 hx6 hS hSz
      go_wp2_with (go_at_call 47; with_reducible refine CH.out.mono ?_; rintro e wb ⟨rfl, bb⟩; have HBb := hid (Bt hB.out bb); clear bb)
      go_ret
      exact ⟨by rw [e2.out, he.out]; rfl, HBb.out⟩
    ·have q1 : ¬ 33 <= (k : Int) := by omega
     have e2 : Hid (A = 35 :: 92 :: 120 :: hx k) := by unfold Hid; rw [hI5.out, if_neg (by omega)]
     have CH := hid (hexOf_any k wr (by have := HK.out; omega) (HD.out.below hB.out))
     have hx6 := hx_len 5 k (by have := HK.out; omega)
     obtain ⟨S, hS⟩ : ∃ S, S = bstr (hx k) := ⟨_, rfl⟩
     have hSz : S.size <= 6 := by rw [hS, bstr_size]; exact hx6
     rw [<- hS] at CH
     have he : Hid (bstr (35 :: 92 :: 120 :: hx k) = (⟨#[35, 92, 120]⟩ : ByteArray) ++ S) := by
      unfold Hid; rw [hS, show (⟨#[35, 92, 120]⟩ : ByteArray) = bstr [35, 92, 120] from rfl, bstr_app]; rfl
     have l1 : ¬ 9223372036854775807 < 3 + S.size := by omega
     clear n1 hI hI5 hx6 hS hSz
     go_wp2_with (go_at_call 47; with_reducible refine CH.out.mono ?_; rintro e wb ⟨rfl, bb⟩; have HBb := hid (Bt hB.out bb); clear bb)
     go_ret
     exact ⟨by rw [e2.out, he.out]; rfl, HBb.out⟩
set_option maxHeartbeats 8000000 in
theorem lexSpell_any (k b : Int) (t : ByteArray) (f u : Int) (w : World) (hb1 : -9223372036854775808 <= b) (hb2 : b <= 9223372036854775807) (ht : t.size <= 1000000) (hT : LTabs w) (hD : DbT w) (hP : PowT w) : Calls Tryz.prog 13 #[.agg #[.int .i64 k, .int .i64 b, .string t, .int .i64 f, .int .i64 u]] w fun e w' => e = .returned (.string (bstr (spM k b t))) /\ Below w.heap.size w w' := by
 have HB : Hid (∀ o, Below w.heap.size w (w.alloc o)) := fun o => Ba w o
 by_cases k1 : k = 1
 ·subst k1
  clear ht hT hD hP
  go_enter Tryz.func13, Tryz.ntmps13
  go_wp2_with fail
  go_ret
  exact ⟨rfl, HB.out _⟩
 by_cases k2 : k = 2
 ·subst k2
  clear ht hT hD hP
  go_enter Tryz.func13, Tryz.ntmps13
  go_wp2_with fail
  go_ret
  exact ⟨rfl, HB.out _⟩
 by_cases k3 : k = 3
 ·subst k3
  clear ht hT hD hP
  go_enter Tryz.func13, Tryz.ntmps13
  go_wp2_with fail
  go_ret
  exact ⟨rfl, HB.out _⟩
 by_cases k4 : k = 4
 ·subst k4
  clear ht hT hD hP
  go_enter Tryz.func13, Tryz.ntmps13
  go_wp2_with fail
  go_ret
  exact ⟨rfl, HB.out _⟩
 by_cases k6 : k = 6
 ·subst k6
  clear ht hT hD hP
  go_enter Tryz.func13, Tryz.ntmps13
  go_wp2_with fail
  go_ret
  exact ⟨rfl, HB.out _⟩
 by_cases k7 : k = 7
 ·subst k7
  clear ht hT hD hP
  go_enter Tryz.func13, Tryz.ntmps13
  go_wp2_with fail
  go_ret
  exact ⟨rfl, HB.out _⟩
 by_cases k5 : k = 5
 ·subst k5
  have e1 : Hid (bstr (spM 5 b t) = t) := bstr_bs t
  rw [e1.out]
  clear ht hT hD hP
  go_enter Tryz.func13, Tryz.ntmps13
  go_wp2_with fail
  go_ret
  exact ⟨rfl, HB.out _⟩
 by_cases k11 : k = 11
 ·subst k11
  have e1 : Hid (bstr (spM 11 b t) = t) := bstr_bs t
  rw [e1.out]
  clear ht hT hD hP
  go_enter Tryz.func13, Tryz.ntmps13
  go_wp2_with fail
  go_ret
  exact ⟨rfl, HB.out _⟩
 by_cases k14 : k = 14
 ·subst k14
  have e1 : Hid (bstr (spM 14 b t) = t) := bstr_bs t
  rw [e1.out]
  clear ht hT hD hP
  go_enter Tryz.func13, Tryz.ntmps13
  go_wp2_with fail
  go_ret
  exact ⟨rfl, HB.out _⟩
 by_cases k12 : k = 12
 ·subst k12
  have C := hid (fun W (h : Below w.heap.size w W) => spellChar_any b W hb1 hb2 (hT.below h) (hD.below h))
  clear ht hT hD hP
  go_enter Tryz.func13, Tryz.ntmps13
  go_wp2_with (go_at_call 27; with_reducible refine (C.out _ (HB.out _)).mono ?_; rintro e wa ⟨rfl, ba⟩; have HBa := hid (Bt (HB.out _) ba); clear ba)
  go_ret
  exact ⟨rfl, HBa.out⟩
 by_cases k13 : k = 13
 ·subst k13
  have C := hid (fun W (h : Below w.heap.size w W) => spellText_any t W ht (hD.below h))
  clear ht hT hD hP
  go_enter Tryz.func13, Tryz.ntmps13
  go_wp2_with (go_at_call 28; with_reducible refine (C.out _ (HB.out _)).mono ?_; rintro e wa ⟨rfl, ba⟩; have HBa := hid (Bt (HB.out _) ba); clear ba)
  go_ret
  exact ⟨rfl, HBa.out⟩
 by_cases k10 : k = 10
 ·subst k10
  have C := hid (fun W => spellBool_any b W)
  clear ht hT hD hP
  go_enter Tryz.func13, Tryz.ntmps13
  go_wp2_with (go_at_call 26; with_reducible refine (C.out _).mono ?_; rintro e wa ⟨rfl, ba⟩; have HBa := hid (Bt (HB.out _) ba); clear ba)
  go_ret
  exact ⟨rfl, HBa.out⟩
 by_cases k8 : k = 8
 ·subst k8
  have C : Hid (∀ W, Below w.heap.size w W -> Calls Tryz.prog 25 #[.int .i64 b, .string ⟨#[61]⟩] W fun e w' => e = .returned (.string (bstr (lbS b 61))) /\ Below W.heap.size W w') := fun W h => spellLabel_any b 61 _ W rfl (hP.below h)
  clear ht hT hD hP
  go_enter Tryz.func13, Tryz.ntmps13
  go_wp2_with (go_at_call 25; with_reducible refine (C.out _ (HB.out _)).mono ?_; rintro e wa ⟨rfl, ba⟩; have HBa := hid (Bt (HB.out _) ba); clear ba)
  go_ret
  exact ⟨rfl, HBa.out⟩
 by_cases k9 : k = 9
 ·subst k9
  have C : Hid (∀ W, Below w.heap.size w W -> Calls Tryz.prog 25 #[.int .i64 b, .string ⟨#[35]⟩] W fun e w' => e = .returned (.string (bstr (lbS b 35))) /\ Below W.heap.size W w') := fun W h => spellLabel_any b 35 _ W rfl (hP.below h)
  clear ht hT hD hP
  go_enter Tryz.func13, Tryz.ntmps13
  go_wp2_with (go_at_call 25; with_reducible refine (C.out _ (HB.out _)).mono ?_; rintro e wa ⟨rfl, ba⟩; have HBa := hid (Bt (HB.out _) ba); clear ba)
  go_ret
  exact ⟨rfl, HBa.out⟩
 have e1 : Hid (spM k b t = []) := by
  unfold Hid spM
  rw [if_neg k1, if_neg k2, if_neg k3, if_neg k4, if_neg k6, if_neg k7, if_neg k8, if_neg k9, if_neg k10, if_neg k12, if_neg k13, if_neg (by omega)]
 rw [e1.out]
 have t1 : (k == 1) = false := by simp; exact k1
 have t2 : (k == 2) = false := by simp; exact k2
 have t3 : (k == 3) = false := by simp; exact k3
 have t4 : (k == 4) = false := by simp; exact k4
 have t5 : (k == 5) = false := by simp; exact k5
 have t6 : (k == 6) = false := by simp; exact k6
 have t7 : (k == 7) = false := by simp; exact k7
 have t8 : (k == 8) = false := by simp; exact k8
 have t9 : (k == 9) = false := by simp; exact k9
 have t10 : (k == 10) = false := by simp; exact k10
 have t11 : (k == 11) = false := by simp; exact k11
 have t12 : (k == 12) = false := by simp; exact k12
 have t13 : (k == 13) = false := by simp; exact k13
 have t14 : (k == 14) = false := by simp; exact k14
 clear ht hT hD hP k1 k2 k3 k4 k5 k6 k7 k8 k9 k10 k11 k12 k13 k14
 go_enter Tryz.func13, Tryz.ntmps13
 go_wp2_with fail
 go_ret
 exact ⟨rfl, HB.out _⟩
end Go.Proofs.YtbkfinjajkjhaaaGreatDoor
