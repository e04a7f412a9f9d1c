import Derived.Test.YtbkfinjajkjhaaaGreatDoorLX26
set_option linter.unusedVariables false
set_option linter.unusedSimpArgs false
set_option maxRecDepth 100000
namespace Go.Proofs.YtbkfinjajkjhaaaGreatDoor
open Go.RowKit
theorem rnamed_32 (w : World) : Calls Tryz.prog 52 #[.int .i64 32] w fun e w' => e = .returned (.string ⟨#[115, 112, 97, 99, 101]⟩) /\ w' = w := by
 go_enter Tryz.func52, Tryz.ntmps52
 go_wp2
 go_ret
 exact ⟨rfl, rfl⟩
theorem rnamed_10 (w : World) : Calls Tryz.prog 52 #[.int .i64 10] w fun e w' => e = .returned (.string ⟨#[110, 101, 119, 108, 105, 110, 101]⟩) /\ w' = w := by
 go_enter Tryz.func52, Tryz.ntmps52
 go_wp2
 go_ret
 exact ⟨rfl, rfl⟩
theorem rnamed_9 (w : World) : Calls Tryz.prog 52 #[.int .i64 9] w fun e w' => e = .returned (.string ⟨#[116, 97, 98]⟩) /\ w' = w := by
 go_enter Tryz.func52, Tryz.ntmps52
 go_wp2
 go_ret
 exact ⟨rfl, rfl⟩
theorem rnamed_13 (w : World) : Calls Tryz.prog 52 #[.int .i64 13] w fun e w' => e = .returned (.string ⟨#[114, 101, 116, 117, 114, 110]⟩) /\ w' = w := by
 go_enter Tryz.func52, Tryz.ntmps52
 go_wp2
 go_ret
 exact ⟨rfl, rfl⟩
theorem rnamed_0 (w : World) : Calls Tryz.prog 52 #[.int .i64 0] w fun e w' => e = .returned (.string ⟨#[110, 117, 108, 108]⟩) /\ w' = w := by
 go_enter Tryz.func52, Tryz.ntmps52
 go_wp2
 go_ret
 exact ⟨rfl, rfl⟩
theorem rnamed_no (n : Int) (w : World) (h1 : (n == 32) = false) (h2 : (n == 10) = false) (h3 : (n == 9) = false) (h4 : (n == 13) = false) (h5 : (n == 0) = false) : Calls Tryz.prog 52 #[.int .i64 n] w fun e w' => e = .returned (.string ⟨#[]⟩) /\ w' = w := by
 go_enter Tryz.func52, Tryz.ntmps52
 go_wp2_with fail
 go_ret
 exact ⟨rfl, rfl⟩
set_option maxHeartbeats 4000000 in
theorem rspellChar_any (n : Int) (w : World) (hn1 : -9223372036854775808 <= n) (hn2 : n <= 9223372036854775807) : Calls Tryz.prog 29 #[.int .i64 n] w fun e w' => e = .returned (.string (bstr (chS n))) /\ Below w.heap.size w w' := by
 by_cases c32 : n = 32
 ·subst c32
  have CL := hid (fun W => letter_any 32 W)
  rw [show letB 32 = true by decide] at CL
  have CN := hid (fun W => rnamed_32 W)
  go_enter Tryz.func29, Tryz.ntmps29
  go_wp2_with (first | (go_at_call 19; with_reducible refine (CL.out _).mono ?_; rintro e wa ⟨rfl, rfl⟩) | (go_at_call 52; with_reducible refine (CN.out _).mono ?_; rintro e wb ⟨rfl, rfl⟩))
  go_ret
  exact ⟨rfl, Below.refl _ _⟩
 by_cases c10 : n = 10
 ·subst c10
  have CL := hid (fun W => letter_any 10 W)
  rw [show letB 10 = true by decide] at CL
  have CN := hid (fun W => rnamed_10 W)
  go_enter Tryz.func29, Tryz.ntmps29
  go_wp2_with (first | (go_at_call 19; with_reducible refine (CL.out _).mono ?_; rintro e wa ⟨rfl, rfl⟩) | (go_at_call 52; with_reducible refine (CN.out _).mono ?_; rintro e wb ⟨rfl, rfl⟩))
  go_ret
  exact ⟨rfl, Below.refl _ _⟩
 by_cases c9 : n = 9
 ·subst c9
  have CL := hid (fun W => letter_any 9 W)
  rw [show letB 9 = true by decide] at CL
  have CN := hid (fun W => rnamed_9 W)
  go_enter Tryz.func29, Tryz.ntmps29
  go_wp2_with (first | (go_at_call 19; with_reducible refine (CL.out _).mono ?_; rintro e wa ⟨rfl, rfl⟩) | (go_at_call 52; with_reducible refine (CN.out _).mono ?_; rintro e wb ⟨rfl, rfl⟩))
  go_ret
  exact ⟨rfl, Below.refl _ _⟩
 by_cases c13 : n = 13
 ·subst c13
  have CL := hid (fun W => letter_any 13 W)
  rw [show letB 13 = true by decide] at CL
  have CN := hid (fun W => rnamed_13 W)
  go_enter Tryz.func29, Tryz.ntmps29
  go_wp2_with (first | (go_at_call 19; with_reducible refine (CL.out _).mono ?_; rintro e wa ⟨rfl, rfl⟩) | (go_at_call 52; with_reducible refine (CN.out _).mono ?_; rintro e wb ⟨rfl, rfl⟩))
  go_ret
  exact ⟨rfl, Below.refl _ _⟩
 by_cases c0 : n = 0
 ·subst c0
  have CL := hid (fun W => letter_any 0 W)
  rw [show letB 0 = true by decide] at CL
  have CN := hid (fun W => rnamed_0 W)
  go_enter Tryz.func29, Tryz.ntmps29
  go_wp2_with (first | (go_at_call 19; with_reducible refine (CL.out _).mono ?_; rintro e wa ⟨rfl, rfl⟩) | (go_at_call 52; with_reducible refine (CN.out _).mono ?_; rintro e wb ⟨rfl, rfl⟩))
  go_ret
  exact ⟨rfl, Below.refl _ _⟩
 have CL := hid (fun W => letter_any n W)
 cases hb : letB n with
 | false =>
  have e1 : Hid (chS n = []) := by unfold Hid chS; rw [hb]; rfl
  rw [hb] at CL
  rw [e1.out]
  clear hb c32 c10 c9 c13 c0
  go_enter Tryz.func29, Tryz.ntmps29
  go_wp2_with (go_at_call 19; with_reducible refine (CL.out _).mono ?_; rintro e wa ⟨rfl, rfl⟩)
  go_ret
  exact ⟨rfl, Below.refl _ _⟩
 | true =>
  have hr : 0 <= n /\ n <= 1114111 := by
   unfold letB at hb
   simp only [Bool.and_eq_true, Bool.or_eq_true, decide_eq_true_eq] at hb
   omega
  obtain ⟨k, rfl⟩ : ∃ k : Nat, n = (k : Int) := ⟨n.toNat, by omega⟩
  have CN := hid (fun W => rnamed_no (k : Int) W (by simp; omega) (by simp; omega) (by simp; omega) (by simp; omega) (by simp; omega))
  have e0 : Hid (chS (k : Int) = if 33 <= k /\ k <= 126 then [35, 92, k] else 35 :: 92 :: 120 :: hx k) := by
   unfold Hid chS chL
   rw [hb, if_pos rfl, Int.toNat_natCast, if_neg (by omega), if_neg (by omega), if_neg (by omega), if_neg (by omega), if_neg (by omega)]
  have CH := hid (fun W => rhex_any k (by omega) W)
  have hwr : IntKind.i32.wrap (k : Int) = (k : Int) := by rw [IntKind.wrap_i32]; omega
  have hx6 := hx_len 5 k (by omega)
  obtain ⟨S, hS⟩ : ∃ S, S = bstr (hx k) := ⟨_, rfl⟩
  have hSz : S.size <= 6 := by rw [hS, bstr_size]; exact hx6
  rw [<- hS] at CH
  have he : Hid (bstr (35 :: 92 :: 120 :: hx k) = (⟨#[35, 92, 120]⟩ : ByteArray) ++ S) := by
   unfold Hid; rw [hS, show (⟨#[35, 92, 120]⟩ : ByteArray) = bstr [35, 92, 120] from rfl, bstr_app]; rfl
  have l1 : ¬ 9223372036854775807 < 3 + S.size := by omega
  rw [hb] at CL
  by_cases n1 : 33 <= k
  ·have q1 : 33 <= (k : Int) := by omega
   by_cases n2 : k <= 126
   ·have q2 : (k : Int) <= 126 := by omega
    have he2 : Hid (bstr [35, 92, k] = (⟨#[35, 92]⟩ : ByteArray) ++ Utf8.encode (k : Int)) := by
     unfold Hid
     have := eN_low (n := k) (by omega)
     unfold eN at this
     rw [<- bstr_bs (Utf8.encode (k : Int)), this, show (⟨#[35, 92]⟩ : ByteArray) = bstr [35, 92] from rfl, bstr_app]; rfl
    have hsz : (Utf8.encode (k : Int)).size = 1 := by
     have := eN_low (n := k) (by omega)
     unfold eN at this
     rw [<- bs_length, this]; rfl
    have l2 : ¬ 9223372036854775807 < 2 + (Utf8.encode (k : Int)).size := by omega
    rw [e0.out, if_pos ⟨n1, n2⟩, he2.out]
    clear hb hr n1 n2 hx6 hS hSz c32 c10 c9 c13 c0
    go_enter Tryz.func29, Tryz.ntmps29
    go_wp2_with (first | (go_at_call 19; with_reducible refine (CL.out _).mono ?_; rintro e wa ⟨rfl, rfl⟩) | (go_at_call 52; with_reducible refine (CN.out _).mono ?_; rintro e wb ⟨rfl, rfl⟩))
    go_ret
    exact ⟨rfl, Below.refl _ _⟩
   ·have q2 : ¬ (k : Int) <= 126 := by omega
    rw [e0.out, if_neg (by omega), he.out]
    clear hb hr n1 n2 hx6 hS hSz c32 c10 c9 c13 c0
    go_enter Tryz.func29, Tryz.ntmps29
    go_wp2_with (first | (go_at_call 19; with_reducible refine (CL.out _).mono ?_; rintro e wa ⟨rfl, rfl⟩) | (go_at_call 52; with_reducible refine (CN.out _).mono ?_; rintro e wb ⟨rfl, rfl⟩) | (go_at_call 53; with_reducible refine (CH.out _).mono ?_; rintro e wc ⟨rfl, bc⟩; have HBc := hid bc; clear bc))
    go_ret
    exact ⟨rfl, HBc.out⟩
  ·have q1 : ¬ 33 <= (k : Int) := by omega
   rw [e0.out, if_neg (by omega), he.out]
   clear hb hr n1 hx6 hS hSz c32 c10 c9 c13 c0
   go_enter Tryz.func29, Tryz.ntmps29
   go_wp2_with (first | (go_at_call 19; with_reducible refine (CL.out _).mono ?_; rintro e wa ⟨rfl, rfl⟩) | (go_at_call 52; with_reducible refine (CN.out _).mono ?_; rintro e wb ⟨rfl, rfl⟩) | (go_at_call 53; with_reducible refine (CH.out _).mono ?_; rintro e wc ⟨rfl, bc⟩; have HBc := hid bc; clear bc))
   go_ret
   exact ⟨rfl, HBc.out⟩
set_option maxHeartbeats 8000000 in
theorem lexSpell_any (k b : Int) (t : ByteArray) (f u : Int) (w : World) (hb1 : -9223372036854775808 <= b) (hb2 : b <= 9223372036854775807) (ht : t.size <= 1000000) (hT : LTabs w) (hD : DbT w) (hP : PowT w) : Calls Tryz.prog 13 #[.agg #[.int .i64 k, .int .i64 b, .string t, .int .i64 f, .int .i64 u]] w fun e w' => e = .returned (.string (bstr (spM k b t))) /\ Below w.heap.size w w' := by
 have HB : Hid (∀ o, Below w.heap.size w (w.alloc o)) := fun o => Ba w o
 by_cases k1 : k = 1
 ·subst k1
  clear ht hT hD hP
  go_enter Tryz.func13, Tryz.ntmps13
  go_wp2_with fail
  go_ret
  exact ⟨rfl, HB.out _⟩
 by_cases k2 : k = 2
 ·subst k2
  clear ht hT hD hP
  go_enter Tryz.func13, Tryz.ntmps13
  go_wp2_with fail
  go_ret
  exact ⟨rfl, HB.out _⟩
 by_cases k3 : k = 3
 ·subst k3
  clear ht hT hD hP
  go_enter Tryz.func13, Tryz.ntmps13
  go_wp2_with fail
  go_ret
  exact ⟨rfl, HB.out _⟩
 by_cases k4 : k = 4
 ·subst k4
  clear ht hT hD hP
  go_enter Tryz.func13, Tryz.ntmps13
  go_wp2_with fail
  go_ret
  exact ⟨rfl, HB.out _⟩
 by_cases k6 : k = 6
 ·subst k6
  clear ht hT hD hP
  go_enter Tryz.func13, Tryz.ntmps13
  go_wp2_with fail
  go_ret
  exact ⟨rfl, HB.out _⟩
 by_cases k7 : k = 7
 ·subst k7
  clear ht hT hD hP
  go_enter Tryz.func13, Tryz.ntmps13
  go_wp2_with fail
  go_ret
  exact ⟨rfl, HB.out _⟩
 by_cases k5 : k = 5
 ·subst k5
  have e1 : Hid (bstr (spM 5 b t) = t) := bstr_bs t
  rw [e1.out]
  clear ht hT hD hP
  go_enter Tryz.func13, Tryz.ntmps13
  go_wp2_with fail
  go_ret
  exact ⟨rfl, HB.out _⟩
 by_cases k11 : k = 11
 ·subst k11
  have e1 : Hid (bstr (spM 11 b t) = t) := bstr_bs t
  rw [e1.out]
  clear ht hT hD hP
  go_enter Tryz.func13, Tryz.ntmps13
  go_wp2_with fail
  go_ret
  exact ⟨rfl, HB.out _⟩
 by_cases k14 : k = 14
 ·subst k14
  have e1 : Hid (bstr (spM 14 b t) = t) := bstr_bs t
  rw [e1.out]
  clear ht hT hD hP
  go_enter Tryz.func13, Tryz.ntmps13
  go_wp2_with fail
  go_ret
  exact ⟨rfl, HB.out _⟩
 by_cases k12 : k = 12
 ·subst k12
  have C := hid (fun W (h : Below w.heap.size w W) => spellChar_any b W hb1 hb2 (hT.below h) (hD.below h))
  clear ht hT hD hP
  go_enter Tryz.func13, Tryz.ntmps13
  go_wp2_with (go_at_call 27; with_reducible refine (C.out _ (HB.out _)).mono ?_; rintro e wa ⟨rfl, ba⟩; have HBa := hid (Bt (HB.out _) ba); clear ba)
  go_ret
  exact ⟨rfl, HBa.out⟩
 by_cases k13 : k = 13
 ·subst k13
  have C := hid (fun W (h : Below w.heap.size w W) => spellText_any t W ht (hD.below h))
  clear ht hT hD hP
  go_enter Tryz.func13, Tryz.ntmps13
  go_wp2_with (go_at_call 28; with_reducible refine (C.out _ (HB.out _)).mono ?_; rintro e wa ⟨rfl, ba⟩; have HBa := hid (Bt (HB.out _) ba); clear ba)
  go_ret
  exact ⟨rfl, HBa.out⟩
 by_cases k10 : k = 10
 ·subst k10
  have C := hid (fun W => spellBool_any b W)
  clear ht hT hD hP
  go_enter Tryz.func13, Tryz.ntmps13
  go_wp2_with (go_at_call 26; with_reducible refine (C.out _).mono ?_; rintro e wa ⟨rfl, ba⟩; have HBa := hid (Bt (HB.out _) ba); clear ba)
  go_ret
  exact ⟨rfl, HBa.out⟩
 by_cases k8 : k = 8
 ·subst k8
  have C : Hid (∀ W, Below w.heap.size w W -> Calls Tryz.prog 25 #[.int .i64 b, .string ⟨#[61]⟩] W fun e w' => e = .returned (.string (bstr (lbS b 61))) /\ Below W.heap.size W w') := fun W h => spellLabel_any b 61 _ W rfl (hP.below h)
  clear ht hT hD hP
  go_enter Tryz.func13, Tryz.ntmps13
  go_wp2_with (go_at_call 25; with_reducible refine (C.out _ (HB.out _)).mono ?_; rintro e wa ⟨rfl, ba⟩; have HBa := hid (Bt (HB.out _) ba); clear ba)
  go_ret
  exact ⟨rfl, HBa.out⟩
 by_cases k9 : k = 9
 ·subst k9
  have C : Hid (∀ W, Below w.heap.size w W -> Calls Tryz.prog 25 #[.int .i64 b, .string ⟨#[35]⟩] W fun e w' => e = .returned (.string (bstr (lbS b 35))) /\ Below W.heap.size W w') := fun W h => spellLabel_any b 35 _ W rfl (hP.below h)
  clear ht hT hD hP
  go_enter Tryz.func13, Tryz.ntmps13
  go_wp2_with (go_at_call 25; with_reducible refine (C.out _ (HB.out _)).mono ?_; rintro e wa ⟨rfl, ba⟩; have HBa := hid (Bt (HB.out _) ba); clear ba)
  go_ret
  exact ⟨rfl, HBa.out⟩
 have e1 : Hid (spM k b t = []) := by
  unfold Hid spM
  rw [if_neg k1, if_neg k2, if_neg k3, if_neg k4, if_neg k6, if_neg k7, if_neg k8, if_neg k9, if_neg k10, if_neg k12, if_neg k13, if_neg (by omega)]
 rw [e1.out]
 have t1 : (k == 1) = false := by simp; exact k1
 have t2 : (k == 2) = false := by simp; exact k2
 have t3 : (k == 3) = false := by simp; exact k3
 have t4 : (k == 4) = false := by simp; exact k4
 have t5 : (k == 5) = false := by simp; exact k5
 have t6 : (k == 6) = false := by simp; exact k6
 have t7 : (k == 7) = false := by simp; exact k7
 have t8 : (k == 8) = false := by simp; exact k8
 have t9 : (k == 9) = false := by simp; exact k9
 have t10 : (k == 10) = false := by simp; exact k10
 have t11 : (k == 11) = false := by simp; exact k11
 have t12 : (k == 12) = false := by simp; exact k12
 have t13 : (k == 13) = false := by simp; exact k13
 have t14 : (k == 14) = false := by simp; exact k14
 clear ht hT hD hP k1 k2 k3 k4 k5 k6 k7 k8 k9 k10 k11 k12 k13 k14
 go_enter Tryz.func13, Tryz.ntmps13
 go_wp2_with fail
 go_ret
 exact ⟨rfl, HB.out _⟩
theorem box_first {w W : World} {k : Int} {v1 v2 v3 v4 : Value} (h : Below (w.heap.size + 1) (w.alloc (.cells #[.int .i64 k, v1, v2, v3, v4] 31)) W) : W.cell? ⟨w.heap.size, 0, none⟩ = some (.int .i64 k) /\ Below w.heap.size w W := by
 refine ⟨?_, (Ba w _).trans (h.mono (by omega))⟩
 have hb : (w.alloc (.cells #[.int .i64 k, v1, v2, v3, v4] 31)).heap[w.heap.size]? = some (.cells #[.int .i64 k, v1, v2, v3, v4] 31 (0, 0)) := blk_new _ _ _
 have := (h.block w.heap.size (by omega)).trans hb
 exact blk_cell this 0
set_option maxHeartbeats 8000000 in
theorem rSpell_any (k b : Int) (t : ByteArray) (f u : Int) (w : World) (hb1 : -9223372036854775808 <= b) (hb2 : b <= 9223372036854775807) (ht : t.size <= 5000) : Calls Tryz.prog 14 #[.agg #[.int .i64 k, .int .i64 b, .string t, .int .i64 f, .int .i64 u]] w fun e w' => e = .returned (.string (bstr (spM k b t))) /\ Below w.heap.size w w' := by
 have HB : Hid (∀ o, Below w.heap.size w (w.alloc o)) := fun o => Ba w o
 by_cases k1 : k = 1
 ·subst k1
  clear ht
  go_enter Tryz.func14, Tryz.ntmps14
  go_wp2_with fail
  go_ret
  exact ⟨rfl, HB.out _⟩
 by_cases k2 : k = 2
 ·subst k2
  clear ht
  go_enter Tryz.func14, Tryz.ntmps14
  go_wp2_with fail
  go_ret
  exact ⟨rfl, HB.out _⟩
 by_cases k3 : k = 3
 ·subst k3
  clear ht
  go_enter Tryz.func14, Tryz.ntmps14
  go_wp2_with fail
  go_ret
  exact ⟨rfl, HB.out _⟩
 by_cases k4 : k = 4
 ·subst k4
  clear ht
  go_enter Tryz.func14, Tryz.ntmps14
  go_wp2_with fail
  go_ret
  exact ⟨rfl, HB.out _⟩
 by_cases k6 : k = 6
 ·subst k6
  clear ht
  go_enter Tryz.func14, Tryz.ntmps14
  go_wp2_with fail
  go_ret
  exact ⟨rfl, HB.out _⟩
 by_cases k7 : k = 7
 ·subst k7
  clear ht
  go_enter Tryz.func14, Tryz.ntmps14
  go_wp2_with fail
  go_ret
  exact ⟨rfl, HB.out _⟩
 by_cases k5 : k = 5
 ·subst k5
  have e1 : Hid (bstr (spM 5 b t) = t) := bstr_bs t
  rw [e1.out]
  clear ht
  go_enter Tryz.func14, Tryz.ntmps14
  go_wp2_with fail
  go_ret
  exact ⟨rfl, HB.out _⟩
 by_cases k11 : k = 11
 ·subst k11
  have e1 : Hid (bstr (spM 11 b t) = t) := bstr_bs t
  rw [e1.out]
  clear ht
  go_enter Tryz.func14, Tryz.ntmps14
  go_wp2_with fail
  go_ret
  exact ⟨rfl, HB.out _⟩
 by_cases k14 : k = 14
 ·subst k14
  have e1 : Hid (bstr (spM 14 b t) = t) := bstr_bs t
  rw [e1.out]
  clear ht
  go_enter Tryz.func14, Tryz.ntmps14
  go_wp2_with fail
  go_ret
  exact ⟨rfl, HB.out _⟩
 by_cases k12 : k = 12
 ·subst k12
  have C := hid (fun W (h : Below w.heap.size w W) => rspellChar_any b W hb1 hb2)
  clear ht
  go_enter Tryz.func14, Tryz.ntmps14
  go_wp2_with (go_at_call 29; with_reducible refine (C.out _ (HB.out _)).mono ?_; rintro e wa ⟨rfl, ba⟩; have HBa := hid (Bt (HB.out _) ba); clear ba)
  go_ret
  exact ⟨rfl, HBa.out⟩
 by_cases k13 : k = 13
 ·subst k13
  have C := hid (fun W (h : Below w.heap.size w W) => rquoted_any t W ht)
  clear ht
  go_enter Tryz.func14, Tryz.ntmps14
  go_wp2_with (go_at_call 30; with_reducible refine (C.out _ (HB.out _)).mono ?_; rintro e wa ⟨rfl, ba⟩; have HBa := hid (Bt (HB.out _) ba); clear ba)
  go_ret
  exact ⟨rfl, HBa.out⟩
 by_cases k10 : k = 10
 ·subst k10
  have e0 : Hid (bstr (spM 10 b t) = bstr (blS b)) := rfl
  rw [e0.out]
  by_cases b0 : b = 0
  ·subst b0
   clear ht
   go_enter Tryz.func14, Tryz.ntmps14
   go_wp2_with fail
   go_ret
   exact ⟨rfl, HB.out _⟩
  by_cases b1 : b = 1
  ·subst b1
   clear ht
   go_enter Tryz.func14, Tryz.ntmps14
   go_wp2_with fail
   go_ret
   exact ⟨rfl, HB.out _⟩
  have t0 : (b == 0) = false := by simp; exact b0
  have t1 : (b == 1) = false := by simp; exact b1
  have e1 : Hid (blS b = []) := by unfold Hid blS; rw [if_neg b0, if_neg b1]
  rw [e1.out]
  clear ht b0 b1
  go_enter Tryz.func14, Tryz.ntmps14
  go_wp2_with fail
  go_ret
  exact ⟨rfl, HB.out _⟩
 by_cases k8 : k = 8
 ·subst k8
  have e0 : Hid (bstr (spM 8 b t) = bstr (lbS b 61)) := rfl
  rw [e0.out]
  by_cases b0 : b < 0
  ·have e1 : Hid (lbS b 61 = []) := by unfold Hid lbS; rw [if_neg (by omega)]
   rw [e1.out]
   clear ht
   go_enter Tryz.func14, Tryz.ntmps14
   go_wp2_with fail
   go_ret
   exact ⟨rfl, HB.out _⟩
  by_cases b1 : 999999999 < b
  ·have e1 : Hid (lbS b 61 = []) := by unfold Hid lbS; rw [if_neg (by omega)]
   rw [e1.out]
   clear ht
   go_enter Tryz.func14, Tryz.ntmps14
   go_wp2_with fail
   go_ret
   exact ⟨rfl, HB.out _⟩
  obtain ⟨n, rfl⟩ : ∃ n : Nat, b = (n : Int) := ⟨b.toNat, by omega⟩
  have CF := hid (fun W => rfrom_is (n : Int) W (by omega) (by omega))
  have CP : Hid (∀ x W, IsInt W x (n : Int) -> Calls Tryz.prog 31 #[x, .int .i64 10] W fun e w' => e = .returned (.tuple #[.string (bstr (radL 10 false n)), .int .i64 0]) /\ Below W.heap.size W w') := fun x W h => rprintNat_is 10 n (by omega) x W h
  have hl := rad_len (b := 10) (by omega) (k := 8) (v := n) (by omega)
  obtain ⟨S, hS⟩ : ∃ S, S = bstr (radL 10 false n) := ⟨_, rfl⟩
  have hSz : S.size <= 9 := by rw [hS, bstr_size]; exact hl
  rw [<- hS] at CP
  have e1 : Hid (bstr (lbS (n : Int) 61) = (⟨#[35]⟩ : ByteArray) ++ S ++ (⟨#[61]⟩ : ByteArray)) := by
   unfold Hid lbS lbL
   rw [if_pos (by omega), Int.toNat_natCast, hS, show (⟨#[35]⟩ : ByteArray) = bstr [35] from rfl, show (⟨#[61]⟩ : ByteArray) = bstr [61] from rfl, bstr_app, bstr_app]; rfl
  have l1 : ¬ 9223372036854775807 < 1 + S.size := by omega
  have l2 : ¬ 9223372036854775807 < 1 + S.size + 1 := by omega
  have HX : Hid (∀ W, Below (w.heap.size + 1) (w.alloc (.cells #[.int .i64 8, .int .i64 (n : Int), .string t, .int .i64 f, .int .i64 u] 31)) W -> W.cell? ⟨w.heap.size, 0, none⟩ = some (.int .i64 8) /\ Below w.heap.size w W) := fun W h => box_first h
  rw [e1.out]
  clear ht hS hSz hl
  go_enter Tryz.func14, Tryz.ntmps14
  go_wp2_with fail
  go_at_call 32
  with_reducible refine (CF.out _).mono ?_
  rintro e wa ⟨x, rfl, hx, ba⟩
  have HBa := hid ba
  have C2 := hid (CP.out x wa hx)
  clear ba hx CP CF
  go_wp2_with fail
  go_at_call 31
  with_reducible refine C2.out.mono ?_
  rintro e wb ⟨rfl, bb⟩
  have HBb := hid (HX.out wb (by have := Bt HBa.out bb; rw [size_alloc] at this; exact this))
  obtain ⟨c0, _⟩ := HBb.out
  clear bb C2
  go_wp2_with fail
  go_ret
  exact ⟨rfl, HBb.out.2⟩
 by_cases k9 : k = 9
 ·subst k9
  have e0 : Hid (bstr (spM 9 b t) = bstr (lbS b 35)) := rfl
  rw [e0.out]
  by_cases b0 : b < 0
  ·have e1 : Hid (lbS b 35 = []) := by unfold Hid lbS; rw [if_neg (by omega)]
   rw [e1.out]
   clear ht
   go_enter Tryz.func14, Tryz.ntmps14
   go_wp2_with fail
   go_ret
   exact ⟨rfl, HB.out _⟩
  by_cases b1 : 999999999 < b
  ·have e1 : Hid (lbS b 35 = []) := by unfold Hid lbS; rw [if_neg (by omega)]
   rw [e1.out]
   clear ht
   go_enter Tryz.func14, Tryz.ntmps14
   go_wp2_with fail
   go_ret
   exact ⟨rfl, HB.out _⟩
  obtain ⟨n, rfl⟩ : ∃ n : Nat, b = (n : Int) := ⟨b.toNat, by omega⟩
  have CF := hid (fun W => rfrom_is (n : Int) W (by omega) (by omega))
  have CP : Hid (∀ x W, IsInt W x (n : Int) -> Calls Tryz.prog 31 #[x, .int .i64 10] W fun e w' => e = .returned (.tuple #[.string (bstr (radL 10 false n)), .int .i64 0]) /\ Below W.heap.size W w') := fun x W h => rprintNat_is 10 n (by omega) x W h
  have hl := rad_len (b := 10) (by omega) (k := 8) (v := n) (by omega)
  obtain ⟨S, hS⟩ : ∃ S, S = bstr (radL 10 false n) := ⟨_, rfl⟩
  have hSz : S.size <= 9 := by rw [hS, bstr_size]; exact hl
  rw [<- hS] at CP
  have e1 : Hid (bstr (lbS (n : Int) 35) = (⟨#[35]⟩ : ByteArray) ++ S ++ (⟨#[35]⟩ : ByteArray)) := by
   unfold Hid lbS lbL
   rw [if_pos (by omega), Int.toNat_natCast, hS, show (⟨#[35]⟩ : ByteArray) = bstr [35] from rfl, bstr_app, bstr_app]; rfl
  have l1 : ¬ 9223372036854775807 < 1 + S.size := by omega
  have l2 : ¬ 9223372036854775807 < 1 + S.size + 1 := by omega
  have HX : Hid (∀ W, Below (w.heap.size + 1) (w.alloc (.cells #[.int .i64 9, .int .i64 (n : Int), .string t, .int .i64 f, .int .i64 u] 31)) W -> W.cell? ⟨w.heap.size, 0, none⟩ = some (.int .i64 9) /\ Below w.heap.size w W) := fun W h => box_first h
  rw [e1.out]
  clear ht hS hSz hl
  go_enter Tryz.func14, Tryz.ntmps14
  go_wp2_with fail
  go_at_call 32
  with_reducible refine (CF.out _).mono ?_
  rintro e wa ⟨x, rfl, hx, ba⟩
  have HBa := hid ba
  have C2 := hid (CP.out x wa hx)
  clear ba hx CP CF
  go_wp2_with fail
  go_at_call 31
  with_reducible refine C2.out.mono ?_
  rintro e wb ⟨rfl, bb⟩
  have HBb := hid (HX.out wb (by have := Bt HBa.out bb; rw [size_alloc] at this; exact this))
  obtain ⟨c0, _⟩ := HBb.out
  clear bb C2
  go_wp2_with fail
  go_ret
  exact ⟨rfl, HBb.out.2⟩
 have e1 : Hid (spM k b t = []) := by
  unfold Hid spM
  rw [if_neg k1, if_neg k2, if_neg k3, if_neg k4, if_neg k6, if_neg k7, if_neg k8, if_neg k9, if_neg k10, if_neg k12, if_neg k13, if_neg (by omega)]
 rw [e1.out]
 have t1 : (k == 1) = false := by simp; exact k1
 have t2 : (k == 2) = false := by simp; exact k2
 have t3 : (k == 3) = false := by simp; exact k3
 have t4 : (k == 4) = false := by simp; exact k4
 have t5 : (k == 5) = false := by simp; exact k5
 have t6 : (k == 6) = false := by simp; exact k6
 have t7 : (k == 7) = false := by simp; exact k7
 have t8 : (k == 8) = false := by simp; exact k8
 have t9 : (k == 9) = false := by simp; exact k9
 have t10 : (k == 10) = false := by simp; exact k10
 have t11 : (k == 11) = false := by simp; exact k11
 have t12 : (k == 12) = false := by simp; exact k12
 have t13 : (k == 13) = false := by simp; exact k13
 have t14 : (k == 14) = false := by simp; exact k14
 clear ht k1 k2 k3 k4 k5 k6 k7 k8 k9 k10 k11 k12 k13 k14
 go_enter Tryz.func14, Tryz.ntmps14
 go_wp2_with fail
 go_ret
 exact ⟨rfl, HB.out _⟩
end Go.Proofs.YtbkfinjajkjhaaaGreatDoor
