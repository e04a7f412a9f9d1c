import Derived.Test.YtbkfinjajkjhaaaGreatDoorLX21
set_option linter.unusedVariables false
set_option linter.unusedSimpArgs false
set_option maxRecDepth 100000
namespace Go.Proofs.YtbkfinjajkjhaaaGreatDoor
open Go.RowKit
theorem tk_quote {l : List Nat} (h : l.getD 0 0 = 39 \/ l.getD 0 0 = 96 \/ l.getD 0 0 = 44) : tkM l = if hasB l [44, 64] then some (5, 0, bstr (l.take 2), 2) else some (5, 0, bstr (l.take 1), 1) := by
 unfold tkM
 rw [if_neg (by omega), if_neg (by omega), if_pos h]
theorem tk_text {l : List Nat} (h : l.getD 0 0 = 34) : tkM l = (textM l 0).map txtT := by
 unfold tkM
 rw [if_neg (by omega), if_neg (by omega), if_neg (by omega), if_pos h]
 rfl
theorem tk_hash {l : List Nat} (h : l.getD 0 0 = 35) : tkM l = hashM l := by
 unfold tkM
 rw [if_neg (by omega), if_neg (by omega), if_neg (by omega), if_neg (by omega), if_pos h]
theorem tk_other {l : List Nat} (h1 : l.getD 0 0 ≠ 40) (h2 : l.getD 0 0 ≠ 41) (h3 : l.getD 0 0 ≠ 44) (h4 : l.getD 0 0 ≠ 39) (h5 : l.getD 0 0 ≠ 96) (h6 : l.getD 0 0 ≠ 34) (h7 : l.getD 0 0 ≠ 35) : tkM l = otherM l := by
 unfold tkM
 rw [if_neg h1, if_neg h2, if_neg (by omega), if_neg h6, if_neg h7]
set_option maxHeartbeats 8000000 in
theorem cutToken_any (ao : Option Addr) (n cap : Nat) (l : List Nat) (w : World) (R : BRow w ao n cap l) (hT : LTabs w) (hsm : n <= 1000000) (hn : 1 <= n) (hv : Vd l) : Calls Tryz.prog 38 #[.slice ao n cap] w (PTok w (tkM l)) := by
 have HB0 : Hid (Below w.heap.size w (w.alloc (.cells #[.int .i64 0, .int .i64 0, .string ⟨#[]⟩, .int .i64 0, .int .i64 0] 31))) := Ba w _
 have RA := R.below HB0.out
 have HX : Hid (∀ W, Below (w.heap.size + 1) (w.alloc (.cells #[.int .i64 0, .int .i64 0, .string ⟨#[]⟩, .int .i64 0, .int .i64 0] 31)) W -> TxW w W) := fun W h => ⟨(TkBox.new w).on (by rw [size_alloc]; exact h), HB0.out.trans (h.mono (by omega))⟩
 have hx0 := HX.out _ (Below.refl _ _)
 have HX0 := hid hx0
 have hl1 : 1 <= l.length := by rw [R.len]; exact hn
 obtain ⟨b, o, rfl, hb, hc⟩ := RA.rd.some (by rw [R.len]; omega)
 have hc0 := hc 0 (by rw [R.len]; omega)
 rw [Nat.add_zero] at hc0
 have n2 : (0 : Int) < (n : Int) := by omega
 have hf := R.fits
 have hm := R.most
 unfold maxLen at hm
 obtain ⟨x, hx⟩ : ∃ x, x = l.getD 0 0 := ⟨_, rfl⟩
 rw [<- hx] at hc0
 clear hx0
 by_cases e1 : x = 40
 ·have htk : tkM l = some (1, 0, ⟨#[]⟩, 1) := by unfold tkM; rw [if_pos (hx.symm.trans e1)]
  rw [htk]
  obtain ⟨⟨c0, c1, c2, c3, c4⟩, f0, f1', f2, f3, f4⟩ := HX0.out.1.facts
  subst e1
  clear RA R hT hv HX hx hc htk
  go_enter Tryz.func38, Tryz.ntmps38
  go_wp2_with fail
  exact bodyPost_ret (v := .tuple #[tkV 1 0 ⟨#[]⟩ 0 0, .int .i64 1]) (by simp [results, Tryz.results38, go_sem, tkV]) rfl (PTok.yes rfl (Ba w _))
 have t40 : ((x : Int) == 40) = false := by simp; omega
 by_cases e2 : x = 41
 ·have htk : tkM l = some (2, 0, ⟨#[]⟩, 1) := by unfold tkM; rw [if_neg (by omega), if_pos (hx.symm.trans e2)]
  rw [htk]
  obtain ⟨⟨c0, c1, c2, c3, c4⟩, f0, f1', f2, f3, f4⟩ := HX0.out.1.facts
  subst e2
  clear RA R hT hv HX hx hc htk
  go_enter Tryz.func38, Tryz.ntmps38
  go_wp2_with fail
  exact bodyPost_ret (v := .tuple #[tkV 2 0 ⟨#[]⟩ 0 0, .int .i64 1]) (by simp [results, Tryz.results38, go_sem, tkV]) rfl (PTok.yes rfl (Ba w _))
 have t41 : ((x : Int) == 41) = false := by simp; omega
 by_cases e3 : x = 44 \/ x = 39 \/ x = 96
 ·have htk := tk_quote (l := l) (by omega)
  have hfr : ∀ m : Nat, m <= n -> ∀ W, Below w.heap.size w W -> (convert 22 9 (.slice (adv (some ⟨b, o, none⟩) cap 0) m cap)).run Tryz.prog W = .ok (.string (bstr (l.take m))) W := fun m hmn W hW => conv_any ((R.below hW).front hmn)
  have HCV1 := hid (hfr 1 hn)
  have HCV2 := hid (hfr 2)
  have hs1 : ∀ W, (Instr.slice 22 (.slice (some ⟨b, o, none⟩) n cap) none (some (.int .i64 1)) none).run Tryz.prog W = .ok (.slice (adv (some ⟨b, o, none⟩) cap 0) 1 cap) W := fun W => slice_front (w := W) (ao := some ⟨b, o, none⟩) (n := n) (cap := cap) (m := 1) (by omega)
  have hs2 : ∀ W, (Instr.sliceAt 22 (.slice (some ⟨b, o, none⟩) n cap) none (some (.int .i64 1)) none).run Tryz.prog W = .ok (.slice (adv (some ⟨b, o, none⟩) cap 0) 1 cap) W := fun W => sliceAt_front (w := W) (ao := some ⟨b, o, none⟩) (n := n) (cap := cap) (m := 1) (by omega)
  have HS2 : Hid (2 <= n -> (∀ W, (Instr.slice 22 (.slice (some ⟨b, o, none⟩) n cap) none (some (.int .i64 2)) none).run Tryz.prog W = .ok (.slice (adv (some ⟨b, o, none⟩) cap 0) 2 cap) W) /\ (∀ W, (Instr.sliceAt 22 (.slice (some ⟨b, o, none⟩) n cap) none (some (.int .i64 2)) none).run Tryz.prog W = .ok (.slice (adv (some ⟨b, o, none⟩) cap 0) 2 cap) W)) := fun h2 => ⟨fun W => slice_front (w := W) (ao := some ⟨b, o, none⟩) (n := n) (cap := cap) (m := 2) (by omega), fun W => sliceAt_front (w := W) (ao := some ⟨b, o, none⟩) (n := n) (cap := cap) (m := 2) (by omega)⟩
  obtain ⟨ax, hax⟩ : ∃ a, a = adv (some ⟨b, o, none⟩) cap 0 := ⟨_, rfl⟩
  rw [<- hax] at HCV1 HCV2 hs1 hs2 HS2
  by_cases e44 : x = 44
  ·subst e44
   have hasl : hasB l [44, 64] = true -> 2 <= n := fun h => by have := hasB_len h; rw [R.len] at this; exact this
   obtain ⟨T1, hT1⟩ : ∃ T, T = bstr (l.take 1) := ⟨_, rfl⟩
   obtain ⟨T2, hT2⟩ : ∃ T, T = bstr (l.take 2) := ⟨_, rfl⟩
   rw [<- hT1] at HCV1 htk
   rw [<- hT2] at HCV2 htk
   obtain ⟨W0, hW0⟩ : ∃ W, W = w.alloc (.cells #[.int .i64 0, .int .i64 0, .string ⟨#[]⟩, .int .i64 0, .int .i64 0] 31) := ⟨_, rfl⟩
   have CP0 := hasTwo_any _ n cap l _ RA 44 64 (by omega) (by omega)
   have HV0 := Go.Joins.run_convert_bytes_const_at (P := Tryz.prog) (w.alloc (.cells #[.int .i64 0, .int .i64 0, .string ⟨#[]⟩, .int .i64 0, .int .i64 0] 31)) 22 5 #[.int .u8 44, .int .u8 64] 2 2 (w.alloc (.cells #[.int .i64 0, .int .i64 0, .string ⟨#[]⟩, .int .i64 0, .int .i64 0] 31)).heap.size rfl Tryz.underlying22 Tryz.underlying5
   have HBx := Ba (w.alloc (.cells #[.int .i64 0, .int .i64 0, .string ⟨#[]⟩, .int .i64 0, .int .i64 0] 31)) (.cells #[.int .u8 44, .int .u8 64] 5 (2, 3))
   rw [size_alloc] at CP0 HV0 HBx
   obtain ⟨W2, hW2⟩ : ∃ W, W = (w.alloc (.cells #[.int .i64 0, .int .i64 0, .string ⟨#[]⟩, .int .i64 0, .int .i64 0] 31)).alloc (.cells #[.int .u8 44, .int .u8 64] 5 (2, 3)) := ⟨_, rfl⟩
   have CP : Hid (Calls Tryz.prog 61 #[.slice (some ⟨b, o, none⟩) n cap, .slice (some ⟨w.heap.size + 1, 0, none⟩) 2 2] W2 fun e w' => e = .returned (.bool (hasB l [44, 64])) /\ w' = W2) := by rw [hW2]; exact CP0
   have HV : (convert 22 22 (.slice (some ⟨w.heap.size + 1, 0, none⟩) 2 2)).run Tryz.prog ((w.alloc (.cells #[.int .i64 0, .int .i64 0, .string ⟨#[]⟩, .int .i64 0, .int .i64 0] 31)).alloc (.cells #[.int .u8 44, .int .u8 64] 5)) = .ok (.slice (some ⟨w.heap.size + 1, 0, none⟩) 2 2) W2 := by rw [hW2]; exact HV0
   rw [<- hW2] at HBx
   have HW := hid (HX.out W2 HBx)
   have hcv1 := HCV1.out W2 HW.out.2
   have HCV3 : Hid (2 <= n -> (convert 22 9 (.slice ax 2 cap)).run Tryz.prog W2 = .ok (.string T2) W2) := fun h => HCV2.out h W2 HW.out.2
   obtain ⟨⟨c0, c1, c2, c3, c4⟩, f0, f1', f2, f3, f4⟩ := HW.out.1.facts
   obtain ⟨p, hp⟩ : ∃ p, p = hasB l [44, 64] := ⟨_, rfl⟩
   rw [<- hp] at CP htk hasl
   obtain ⟨A, hA⟩ : ∃ A, A = tkM l := ⟨_, rfl⟩
   rw [<- hA] at htk ⊢
   have HA := hid htk
   have HSL := hid hasl
   clear RA R hT hv HX hx hc hA htk hasl hT1 hT2 hW0 hW2 hp CP0 HV0 HBx hax HCV1 HCV2 hfr e3
   cases p
   ·have HA2 : Hid (A = some (5, 0, T1, 1)) := HA.out
    go_enter Tryz.func38, Tryz.ntmps38
    go_wp2_with fail
    go_at_call 61
    with_reducible refine CP.out.mono ?_
    rintro e wa ⟨rfl, rfl⟩
    go_wp2_with fail
    rw [HA2.out]
    exact bodyPost_ret (v := .tuple #[tkV 5 0 T1 0 0, .int .i64 1]) (by simp [results, Tryz.results38, go_sem, tkV, c0, c1, c2, c3, c4]) rfl (PTok.yes rfl (below_set5 HW.out.2 (Nat.le_refl _) _ _ _ _ _))
   ·have HA2 : Hid (A = some (5, 0, T2, 2)) := HA.out
    have hn2 := HSL.out rfl
    have hcv3 := HCV3.out hn2
    obtain ⟨hs3, hs4⟩ := HS2.out hn2
    go_enter Tryz.func38, Tryz.ntmps38
    go_wp2_with fail
    go_at_call 61
    with_reducible refine CP.out.mono ?_
    rintro e wa ⟨rfl, rfl⟩
    go_wp2_with fail
    rw [HA2.out]
    exact bodyPost_ret (v := .tuple #[tkV 5 0 T2 0 0, .int .i64 2]) (by simp [results, Tryz.results38, go_sem, tkV, c0, c1, c2, c3, c4]) rfl (PTok.yes rfl (below_set5 HW.out.2 (Nat.le_refl _) _ _ _ _ _))
  ·have hno : hasB l [44, 64] = false := by rw [hasB_two0]; apply decide_eq_false; omega
   rw [hno] at htk
   obtain ⟨T1, hT1⟩ : ∃ T, T = bstr (l.take 1) := ⟨_, rfl⟩
   rw [<- hT1] at HCV1 htk
   have hcv1 := HCV1.out _ HB0.out
   obtain ⟨⟨c0, c1, c2, c3, c4⟩, f0, f1', f2, f3, f4⟩ := HX0.out.1.facts
   rw [htk]
   clear RA R hT hv HX hx hc htk hno hT1 hax HCV1 HCV2 hfr HS2
   rcases (by omega : x = 39 \/ x = 96) with rfl | rfl
   all_goals
    clear e3 e44
    go_enter Tryz.func38, Tryz.ntmps38
    go_wp2_with fail
    exact bodyPost_ret (v := .tuple #[tkV 5 0 T1 0 0, .int .i64 1]) (by simp [results, Tryz.results38, go_sem, tkV]) rfl (PTok.yes rfl (Ba w _))
 have u44 : x ≠ 44 := fun e => e3 (.inl e)
 have u39 : x ≠ 39 := fun e => e3 (.inr (.inl e))
 have u96 : x ≠ 96 := fun e => e3 (.inr (.inr e))
 clear e3
 have t44 : ((x : Int) == 44) = false := by simp; omega
 have t39 : ((x : Int) == 39) = false := by simp; omega
 have t96 : ((x : Int) == 96) = false := by simp; omega
 by_cases e4 : x = 34
 ·have CC := hid (cutText_any _ _ _ _ _ RA (hT.below HB0.out) hsm hn (hv.drop 1 hl1 (.inr (.inr (.inr (by show l.getD 0 0 < 128; omega))))))
  rw [<- tk_text (hx.symm.trans e4)] at CC
  obtain ⟨A, hA⟩ : ∃ A, A = tkM l := ⟨_, rfl⟩
  rw [<- hA] at CC ⊢
  subst e4
  clear RA R hT hv hx hc hA
  go_enter Tryz.func38, Tryz.ntmps38
  go_wp2_with fail
  go_at_call 62
  with_reducible refine CC.out.mono ?_
  rintro e wa ⟨k, m, t, f, u, q, rfl, hp1, hp2, ba⟩
  have HP1 := hid hp1
  have HP2 := hid hp2
  rw [size_alloc] at ba
  have HW := hid (HX.out wa ba)
  obtain ⟨⟨c0, c1, c2, c3, c4⟩, f0, f1', f2, f3, f4⟩ := HW.out.1.facts
  clear ba CC hp1 hp2
  unfold tkV
  go_wp2_with fail
  exact bodyPost_ret (v := .tuple #[tkV k m t f u, .int .i64 q]) (by simp [results, Tryz.results38, go_sem, tkV, c0, c1, c2, c3, c4]) rfl ⟨k, m, t, f, u, q, rfl, HP1.out, HP2.out, below_set5 HW.out.2 (Nat.le_refl _) _ _ _ _ _⟩
 have t34 : ((x : Int) == 34) = false := by simp; omega
 by_cases e5 : x = 35
 ·have CC := hid (cutHash_any _ _ _ _ _ RA (hT.below HB0.out) hsm hn (hx.symm.trans e5) (fun h => hv.drop 2 (by rcases Nat.lt_or_ge l.length 2 with h2 | h2; (rw [List.getD_eq_getElem?_getD, List.getElem?_eq_none (by omega)] at h; cases h); exact h2) (.inr (.inr (.inr (by show l.getD 1 0 < 128; omega))))))
  rw [<- tk_hash (hx.symm.trans e5)] at CC
  obtain ⟨A, hA⟩ : ∃ A, A = tkM l := ⟨_, rfl⟩
  rw [<- hA] at CC ⊢
  subst e5
  clear RA R hT hv hx hc hA
  go_enter Tryz.func38, Tryz.ntmps38
  go_wp2_with fail
  go_at_call 63
  with_reducible refine CC.out.mono ?_
  rintro e wa ⟨k, m, t, f, u, q, rfl, hp1, hp2, ba⟩
  have HP1 := hid hp1
  have HP2 := hid hp2
  rw [size_alloc] at ba
  have HW := hid (HX.out wa ba)
  obtain ⟨⟨c0, c1, c2, c3, c4⟩, f0, f1', f2, f3, f4⟩ := HW.out.1.facts
  clear ba CC hp1 hp2
  unfold tkV
  go_wp2_with fail
  exact bodyPost_ret (v := .tuple #[tkV k m t f u, .int .i64 q]) (by simp [results, Tryz.results38, go_sem, tkV, c0, c1, c2, c3, c4]) rfl ⟨k, m, t, f, u, q, rfl, HP1.out, HP2.out, below_set5 HW.out.2 (Nat.le_refl _) _ _ _ _ _⟩
 have t35 : ((x : Int) == 35) = false := by simp; omega
 have CC := hid (cutWord_any _ _ _ _ _ RA (hT.below HB0.out) hsm)
 rw [<- tk_other (l := l) (by omega) (by omega) (by omega) (by omega) (by omega) (by omega) (by omega)] at CC
 obtain ⟨A, hA⟩ : ∃ A, A = tkM l := ⟨_, rfl⟩
 rw [<- hA] at CC ⊢
 clear RA R hT hv hx hc hA u44 u39 u96 e1 e2 e4 e5
 go_enter Tryz.func38, Tryz.ntmps38
 go_wp2_with fail
 go_at_call 64
 with_reducible refine CC.out.mono ?_
 rintro e wa ⟨k, m, t, f, u, q, rfl, hp1, hp2, ba⟩
 have HP1 := hid hp1
 have HP2 := hid hp2
 rw [size_alloc] at ba
 have HW := hid (HX.out wa ba)
 obtain ⟨⟨c0, c1, c2, c3, c4⟩, f0, f1', f2, f3, f4⟩ := HW.out.1.facts
 clear ba CC hp1 hp2
 unfold tkV
 go_wp2_with fail
 exact bodyPost_ret (v := .tuple #[tkV k m t f u, .int .i64 q]) (by simp [results, Tryz.results38, go_sem, tkV, c0, c1, c2, c3, c4]) rfl ⟨k, m, t, f, u, q, rfl, HP1.out, HP2.out, below_set5 HW.out.2 (Nat.le_refl _) _ _ _ _ _⟩
end Go.Proofs.YtbkfinjajkjhaaaGreatDoor
