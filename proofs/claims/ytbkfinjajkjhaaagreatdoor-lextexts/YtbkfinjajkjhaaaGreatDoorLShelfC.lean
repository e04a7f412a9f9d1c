import Derived.Test.YtbkfinjajkjhaaaGreatDoorLX12
import Derived.Test.YtbkfinjajkjhaaaGreatDoorLShelf
import Derived.Shelf.Strconv.SyntaxError
import Derived.Test.YtbkfinjajkjhaaaGreatDoorProg
set_option linter.unusedVariables false
set_option linter.unusedSimpArgs false
set_option maxRecDepth 100000
namespace Go.Proofs.YtbkfinjajkjhaaaGreatDoor
open Go.RowKit
theorem dec_is (x : Value) (z : Int) (w : World) (h : IsInt w x z) : Calls Tryz.prog 88 #[x, .int .i64 10] w fun e w' => ∃ t : ByteArray, e = .returned (.tuple #[.string t, .int .i64 0]) /\ (∀ a v, z = sgn a v -> t = bstr (radL 10 a v)) /\ Below w.heap.size w w' := by
 obtain ⟨s, ao, n, cap, l, rfl, R, g, rfl⟩ := h.open_
 refine (print_all s ao n cap l 10 w R g).mono ?_
 rintro e w' ⟨t, en, rfl, hp, hb⟩
 obtain ⟨rfl, rfl⟩ := printed_rad (b := 10) (by omega) hp
 exact ⟨_, rfl, fun a v hz => by rw [radL_sgn hz], hb⟩
set_option maxHeartbeats 8000000 in
theorem cutWord_any (ao : Option Addr) (n cap : Nat) (l : List Nat) (w : World) (R : BRow w ao n cap l) (hT : LTabs w) (hsm : n <= 1000000) : Calls Tryz.prog 64 #[.slice ao n cap] w (PTok w (otherM l)) := by
 obtain ⟨W0, hW0⟩ : ∃ W, W = w.alloc (.cells #[.int .i64 0, .int .i64 0, .string ⟨#[]⟩, .int .i64 0, .int .i64 0] 31) := ⟨_, rfl⟩
 have HB0 : Hid (Below w.heap.size w W0) := by rw [hW0]; exact Ba w _
 have HX : Hid (∀ W, Below W0.heap.size W0 W -> TxW w W) := fun W h => ⟨by rw [hW0] at h; exact (TkBox.new w).on h, HB0.out.trans (h.mono (by rw [hW0]; exact (Ba w _).size))⟩
 have RA := R.below HB0.out
 have CW := hid (wordSize_any ao n cap l _ RA (hT.below HB0.out))
 obtain ⟨A, hA⟩ : ∃ A, A = otherM l := ⟨_, rfl⟩
 rw [<- hA]
 obtain ⟨m, hm⟩ : ∃ m, m = wordN l := ⟨_, rfl⟩
 have hml := wordN_le l
 rw [<- hm, R.len] at hml
 unfold otherM at hA
 rw [<- hm] at hA CW
 obtain ⟨T, hTt⟩ : ∃ T, T = bstr (l.take m) := ⟨_, rfl⟩
 have hbt : bs T = l.take m := by rw [hTt, bs_bstr (R.dg.take m)]
 rw [<- hbt] at hA
 have hcap := R.fits
 have hrm := R.most
 unfold maxLen at hrm
 have HCV : Hid (∀ W, Below W0.heap.size W0 W -> (convert 22 9 (.slice (adv ao cap 0) m cap)).run Tryz.prog W = .ok (.string T) W) := fun W hW => by
  rw [hTt]; exact conv_any ((RA.below hW).front hml)
 have HTm : Hid (T.size = m) := by
  have := bs_length T
  rw [hbt, List.length_take, R.len] at this
  unfold Hid; omega
 have hTs : T.size <= 1000000 := by rw [HTm.out]; omega
 have hsl := fun W => slice_front (w := W) (ao := ao) (n := n) (cap := cap) (m := m) (by omega)
 have hsl2 := fun W => sliceAt_front (w := W) (ao := ao) (n := n) (cap := cap) (m := m) (by omega)
 obtain ⟨ax, hax⟩ : ∃ a, a = adv ao cap 0 := ⟨_, rfl⟩
 rw [<- hax] at HCV hsl hsl2
 have HA := hid hA
 have HW0 := hid hW0
 have CP := hid (fun W => parse_any T 10 W (by unfold maxLen; omega))
 have CN := hid (fun W => isName_any T W hTs)
 clear hA hm hbt hTt hax R RA hT hW0
 by_cases h1 : bs T = [46]
 ·have g1 : (T.toList == [46]) = true := by rw [test_str]; exact decide_eq_true h1
  have HA2 : Hid (A = some (6, 0, ⟨#[]⟩, m)) := HA.out.trans (if_pos h1)
  clear HA h1
  go_enter Tryz.func64, Tryz.ntmps64
  go_wp2_with fail
  rw [<- HW0.out]
  go_at_call 86
  with_reducible refine CW.out.mono ?_
  rintro e wa ⟨rfl, ba⟩
  have HW := hid (HX.out wa ba)
  have hcv := HCV.out wa ba
  obtain ⟨⟨c0, c1, c2, c3, c4⟩, f0, f1', f2, f3, f4⟩ := HW.out.1.facts
  clear ba
  go_wp2_with fail
  rw [HA2.out]
  exact bodyPost_ret (v := .tuple #[tkV 6 0 ⟨#[]⟩ 0 0, .int .i64 m]) (by simp [results, Tryz.results64, go_sem, tkV, c0, c1, c2, c3, c4]) rfl (PTok.yes rfl (below_set5 HW.out.2 (Nat.le_refl _) _ _ _ _ _))
 have g1 : (T.toList == [46]) = false := by rw [test_str]; exact decide_eq_false h1
 have HA1 := hid (HA.out.trans (if_neg h1))
 clear HA h1
 go_enter Tryz.func64, Tryz.ntmps64
 go_wp2_with fail
 rw [<- HW0.out]
 go_at_call 86
 with_reducible refine CW.out.mono ?_
 rintro e wa ⟨rfl, ba⟩
 have HBA := hid ba
 have hcv := HCV.out wa ba
 clear ba
 go_wp2_with fail
 go_at_call 87
 with_reducible refine (CP.out _).mono ?_
 intro e W1 hP
 obtain ⟨sx, bo, p, pc, en, z, rfl, b1, hI, hC⟩ := ppost_is hP (by decide)
 have HB1 : Hid (Below W0.heap.size W0 W1) := HBA.out.trans (b1.mono HBA.out.size)
 have HII := hid hI
 have HC : Hid (((digitsB 10 (cutS (bs T)).2 = false /\ en = 12) \/ (digitsB 10 (cutS (bs T)).2 = true /\ B32 ^ 40 <= hv 10 (cutS (bs T)).2 /\ en = 10) \/ (digitsB 10 (cutS (bs T)).2 = true /\ ¬ B32 ^ 40 <= hv 10 (cutS (bs T)).2 /\ en = 0 /\ z = sgn (cutS (bs T)).1 (hv 10 (cutS (bs T)).2)))) := hC
 clear hP b1 hI hC CP hcv
 have HX1 : Hid (∀ ob W, Below (W1.alloc ob).heap.size (W1.alloc ob) W -> TxW w W) := fun ob W h => HX.out W (HB1.out.trans ((Bt (Ba W1 ob) h).mono HB1.out.size))
 rcases HC.out with ⟨hd, rfl⟩ | ⟨hd, hbig, rfl⟩ | ⟨hd, hbig, rfl, hz⟩
 ·have HA2 := hid (HA1.out.trans (if_neg (by rw [hd]; simp)))
  obtain ⟨b, hb⟩ : ∃ b, b = (bs T).all mayB := ⟨_, rfl⟩
  rw [<- hb] at CN
  have HA3 : Hid (A = if b && decide (bs T ≠ []) then some (14, 0, T, m) else none) := by unfold Hid; rw [HA2.out, <- hb, bstr_bs]
  clear HC HA1 HA2 hd hb
  have HM0 : Hid (bs T = [] -> m = 0) := fun e => by
   have h1 := bs_length T
   rw [e] at h1
   have h2 := HTm.out
   simp at h1; omega
  have CN2 := hid (fun ob => CN.out (W1.alloc ob))
  have HX2 : Hid (∀ ob W, Below (W1.alloc ob).heap.size (W1.alloc ob) W -> TxW w W) := HX1.out
  clear CN HX1 CW HCV
  cases b
  ·have HA4 : Hid (A = none) := HA3.out
   clear HA3 HM0
   go_wp2_with fail
   go_at_call 89
   with_reducible refine (CN2.out _).mono ?_
   rintro e W3 ⟨rfl, b3⟩
   have HT2 := hid (HX2.out _ W3 b3)
   obtain ⟨⟨c0, c1, c2, c3, c4⟩, f0, f1', f2, f3, f4⟩ := HT2.out.1.facts
   clear b3
   go_wp2_with fail
   rw [HA4.out]
   exact bodyPost_ret (v := .tuple #[tkV 0 0 ⟨#[]⟩ 0 0, .int .i64 0]) (by simp [results, Tryz.results64, go_sem, tkV, c0, c1, c2, c3, c4]) rfl (PTok.no (below_set5 HT2.out.2 (Nat.le_refl _) _ _ _ _ _))
  ·go_wp2_with fail
   go_at_call 89
   with_reducible refine (CN2.out _).mono ?_
   rintro e W3 ⟨rfl, b3⟩
   have HT2 := hid (HX2.out _ W3 b3)
   obtain ⟨⟨c0, c1, c2, c3, c4⟩, f0, f1', f2, f3, f4⟩ := HT2.out.1.facts
   clear b3
   go_wp2_with fail
   by_cases hn : bs T = []
   ·obtain rfl : m = 0 := HM0.out hn
    have HA4 : A = none := by rw [HA3.out, hn]; rfl
    rw [HA4]
    exact bodyPost_ret (v := .tuple #[tkV 14 0 T 0 0, .int .i64 0]) (by simp [results, Tryz.results64, go_sem, tkV, c0, c1, c2, c3, c4]) rfl (PTok.no (below_set5 HT2.out.2 (Nat.le_refl _) _ _ _ _ _))
   ·have HA4 : A = some (14, 0, T, m) := by rw [HA3.out, if_pos (by simp [hn])]
    rw [HA4]
    exact bodyPost_ret (v := .tuple #[tkV 14 0 T 0 0, .int .i64 m]) (by simp [results, Tryz.results64, go_sem, tkV, c0, c1, c2, c3, c4]) rfl (PTok.yes rfl (below_set5 HT2.out.2 (Nat.le_refl _) _ _ _ _ _))
 ·have HA2 : Hid (A = none) := by unfold Hid; rw [HA1.out, if_pos hd, if_pos hbig]
  clear HC HA1 hd hbig
  have HT2 : Hid (∀ ob, TxW w (W1.alloc ob)) := fun ob => HX1.out ob _ (Below.refl _ _)
  have F := fun ob => (HT2.out ob).1.facts
  have c0 := fun ob => (F ob).1.1
  have c1 := fun ob => (F ob).1.2.1
  have c2 := fun ob => (F ob).1.2.2.1
  have c3 := fun ob => (F ob).1.2.2.2.1
  have c4 := fun ob => (F ob).1.2.2.2.2
  have f0 := fun ob => (F ob).2.1
  have f1 := fun ob => (F ob).2.2.1
  have f2 := fun ob => (F ob).2.2.2.1
  have f3 := fun ob => (F ob).2.2.2.2.1
  have f4 := fun ob => (F ob).2.2.2.2.2
  clear F
  go_wp2_with fail
  rw [HA2.out]
  exact bodyPost_ret (v := .tuple #[tkV 0 0 ⟨#[]⟩ 0 0, .int .i64 0]) (by simp [results, Tryz.results64, go_sem, tkV, c0, c1, c2, c3, c4]) rfl (PTok.no (below_set5 (HT2.out _).2 (Nat.le_refl _) _ _ _ _ _))
 ·have HA2 := hid (HA1.out.trans ((if_pos hd).trans (if_neg hbig)))
  have CT := hid (dec_is _ z (W1.alloc (.cells #[.bool sx, .slice bo p pc] 55)) (HII.out.below (Ba _ _)))
  have HZ := hid hz
  clear HC HA1 hd hbig hz CW HCV CN
  go_wp2_with fail
  go_at_call 88
  with_reducible refine CT.out.mono ?_
  rintro e W2 ⟨d, rfl, hd, b2⟩
  have HD2 := hid (hd _ _ HZ.out)
  have HT2 := hid (HX1.out _ W2 b2)
  obtain ⟨⟨c0, c1, c2, c3, c4⟩, f0, f1', f2, f3, f4⟩ := HT2.out.1.facts
  clear b2 hd CT
  go_wp2_with fail
  rw [HA2.out, <- HD2.out]
  exact bodyPost_ret (v := .tuple #[tkV 11 0 d 0 0, .int .i64 m]) (by simp [results, Tryz.results64, go_sem, tkV, c0, c1, c2, c3, c4]) rfl (PTok.yes rfl (below_set5 HT2.out.2 (Nat.le_refl _) _ _ _ _ _))
end Go.Proofs.YtbkfinjajkjhaaaGreatDoor
namespace Go.Proofs
open Go.Shelf
def Tryz.laysM279_ren : Go.Shelf.Ren := ⟨fun | 279 => 149 | 316 => 159 | n => n, fun | 9 => 9 | 168 => 154 | 75 => 74 | 210 => 159 | 3 => 3 | 4 => 4 | 37 => 22 | 0 => 0 | 127 => 96 | 80 => 78 | 5 => 5 | n => n, fun | 15 => 6 | n => n⟩
theorem Tryz.laysM279 : Go.Proofs.LaysM.n279 Tryz.prog Tryz.laysM279_ren := {
 mixed := by kernel_rfl
 f279 := Tryz.func149.trans (congrArg some (by kernel_rfl))
 f316 := Tryz.func159.trans (congrArg some (by kernel_rfl))
 t0 := Tryz.underlying0
 a0 := Tryz.isAgg0
 z0 := Tryz.sizeOf0
 v0 := Tryz.zeroValue0
 t3 := Tryz.underlying3
 a3 := Tryz.isAgg3
 z3 := Tryz.sizeOf3
 v3 := Tryz.zeroValue3
 t4 := Tryz.underlying4
 a4 := Tryz.isAgg4
 z4 := Tryz.sizeOf4
 v4 := Tryz.zeroValue4
 t9 := Tryz.underlying9
 a9 := Tryz.isAgg9
 z9 := Tryz.sizeOf9
 v9 := Tryz.zeroValue9
 t37 := Tryz.underlying22
 a37 := Tryz.isAgg22
 z37 := Tryz.sizeOf22
 v37 := Tryz.zeroValue22
 t75 := Tryz.underlying74
 a75 := Tryz.isAgg74
 z75 := Tryz.sizeOf74
 v75 := Tryz.zeroValue74
 t127 := Tryz.underlying96
 a127 := Tryz.isAgg96
 z127 := Tryz.sizeOf96
 v127 := Tryz.zeroValue96
 t168 := Tryz.underlying154
 a168 := Tryz.isAgg154
 z168 := Tryz.sizeOf154
 v168 := Tryz.zeroValue154
 t210 := Tryz.underlying159
 a210 := Tryz.isAgg159
 z210 := Tryz.sizeOf159
 v210 := Tryz.zeroValue159
 g15 := by kernel_rfl
 t5 := Tryz.underlying5
 a5 := Tryz.isAgg5
 z5 := Tryz.sizeOf5
 v5 := Tryz.zeroValue5
 t80 := Tryz.underlying78
 a80 := Tryz.isAgg78
 z80 := Tryz.sizeOf78
 v80 := Tryz.zeroValue78
 i0 := by kernel_rfl
 i3 := by kernel_rfl
 i4 := by kernel_rfl
 i5 := by kernel_rfl
 i9 := by kernel_rfl
 i37 := by kernel_rfl
 i75 := by kernel_rfl
 i80 := by kernel_rfl
 i127 := by kernel_rfl
 i168 := by kernel_rfl
 i210 := by kernel_rfl
 m15 := by kernel_rfl }
end Go.Proofs
