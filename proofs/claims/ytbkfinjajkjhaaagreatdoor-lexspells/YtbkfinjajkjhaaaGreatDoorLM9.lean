import Derived.Test.YtbkfinjajkjhaaaGreatDoorLX21
import Derived.Test.YtbkfinjajkjhaaaGreatDoorLX10
set_option linter.unusedVariables false
set_option linter.unusedSimpArgs false
set_option maxRecDepth 100000
namespace Go.Proofs.YtbkfinjajkjhaaaGreatDoor
open Go.RowKit
theorem tk_quote {l : List Nat} (h : l.getD 0 0 = 39 \/ l.getD 0 0 = 96 \/ l.getD 0 0 = 44) : tkM l = if hasB l [44, 64] then some (5, 0, bstr (l.take 2), 2) else some (5, 0, bstr (l.take 1), 1) := by
 unfold tkM
 rw [if_neg (by omega), if_neg (by omega), if_pos h]
theorem tk_text {l : List Nat} (h : l.getD 0 0 = 34) : tkM l = (textM l 0).map txtT := by
 unfold tkM
 rw [if_neg (by omega), if_neg (by omega), if_neg (by omega), if_pos h]
 rfl
theorem tk_hash {l : List Nat} (h : l.getD 0 0 = 35) : tkM l = hashM l := by
 unfold tkM
 rw [if_neg (by omega), if_neg (by omega), if_neg (by omega), if_neg (by omega), if_pos h]
theorem tk_other {l : List Nat} (h1 : l.getD 0 0 ≠ 40) (h2 : l.getD 0 0 ≠ 41) (h3 : l.getD 0 0 ≠ 44) (h4 : l.getD 0 0 ≠ 39) (h5 : l.getD 0 0 ≠ 96) (h6 : l.getD 0 0 ≠ 34) (h7 : l.getD 0 0 ≠ 35) : tkM l = otherM l := by
 unfold tkM
 rw [if_neg h1, if_neg h2, if_neg (by omega), if_neg h6, if_neg h7]
set_option maxHeartbeats 8000000 in
theorem cutToken_any (ao : Option Addr) (n cap : Nat) (l : List Nat) (w : World) (R : BRow w ao n cap l) (hT : LTabs w) (hsm : n <= 1000000) (hn : 1 <= n) (hv : Vd l) : Calls Tryz.prog 38 #[.slice ao n cap] w (PTok w (tkM l)) := by
 have HB0 : Hid (Below w.heap.size w (w.alloc (.cells #[.int .i64 0, .int .i64 0, .string ⟨#[]⟩, .int .i64 0, .int .i64 0] 31))) := Ba w _
 have RA := R.below HB0.out
 have HX : Hid (∀ W, Below (w.heap.size + 1) (w.alloc (.cells #[.int .i64 0, .int .i64 0, .string ⟨#[]⟩, .int .i64 0, .int .i64 0] 31)) W -> TxW w W) := fun W h => ⟨(TkBox.new w).on (by rw [size_alloc]; exact h), HB0.out.trans (h.mono (by omega))⟩
 have hx0 := HX.out _ (Below.refl _ _)
 have HX0 := hid hx0
 have hl1 : 1 <= l.length := by rw [R.len]; exact hn
 obtain ⟨b, o, rfl, hb, hc⟩ := RA.rd.some (by rw [R.len]; omega)
 have hc0 := hc 0 (by rw [R.len]; omega)
 rw [Nat.add_zero] at hc0
 have n2 : (0 : Int) < (n : Int) := by omega
 have hf := R.fits
 have hm := R.most
 unfold maxLen at hm
 obtain ⟨x, hx⟩ : ∃ x, x = l.getD 0 0 := ⟨_, rfl⟩
 rw [<- hx] at hc0
 clear hx0
 by_cases e1 : x = 40
 ·have htk : tkM l = some (1, 0, ⟨#[]⟩, 1) := by unfold tkM; rw [if_pos (hx.symm.trans e1)]
  rw [htk]
  obtain ⟨⟨c0, c1, c2, c3, c4⟩, f0, f1', f2, f3, f4⟩ := HX0.out.1.facts
  subst e1
  clear RA R hT hv HX hx hc htk
  go_enter Tryz.func38, Tryz.ntmps38
  go_wp2_with fail
  exact bodyPost_ret (v := .tuple #[tkV 1 0 ⟨#[]⟩ 0 0, .int .i64 1]) (by simp [results, Tryz.results38, go_sem, tkV]) rfl (PTok.yes rfl (Ba w _))
 have t40 : ((x : Int) == 40) = false := by simp; omega
 by_cases e2 : x = 41
 ·have htk : tkM l = some (2, 0, ⟨#[]⟩, 1) := by unfold tkM; rw [if_neg (by omega), if_pos (hx.symm.trans e2)]
  rw [htk]
  obtain ⟨⟨c0, c1, c2, c3, c4⟩, f0, f1', f2, f3, f4⟩ := HX0.out.1.facts
  subst e2
  clear RA R hT hv HX hx hc htk
  go_enter Tryz.func38, Tryz.ntmps38
  go_wp2_with fail
  exact bodyPost_ret (v := .tuple #[tkV 2 0 ⟨#[]⟩ 0 0, .int .i64 1]) (by simp [results, Tryz.results38, go_sem, tkV]) rfl (PTok.yes rfl (Ba w _))
 have t41 : ((x : Int) == 41) = false := by simp; omega
 by_cases e3 : x = 44 \/ x = 39 \/ x = 96
 ·have htk := tk_quote (l := l) (by omega)
  have hfr : ∀ m : Nat, m <= n -> ∀ W, Below w.heap.size w W -> (convert 22 9 (.slice (adv (some ⟨b, o, none⟩) cap 0) m cap)).run Tryz.prog W = .ok (.string (bstr (l.take m))) W := fun m hmn W hW => conv_any ((R.below hW).front hmn)
  have HCV1 := hid (hfr 1 hn)
  have HCV2 := hid (hfr 2)
  have hs1 : ∀ W, (Instr.slice 22 (.slice (some ⟨b, o, none⟩) n cap) none (some (.int .i64 1)) none).run Tryz.prog W = .ok (.slice (adv (some ⟨b, o, none⟩) cap 0) 1 cap) W := fun W => slice_front (w := W) (ao := some ⟨b, o, none⟩) (n := n) (cap := cap) (m := 1) (by omega)
  have hs2 : ∀ W, (Instr.sliceAt 22 (.slice (some ⟨b, o, none⟩) n cap) none (some (.int .i64 1)) none).run Tryz.prog W = .ok (.slice (adv (some ⟨b, o, none⟩) cap 0) 1 cap) W := fun W => sliceAt_front (w := W) (ao := some ⟨b, o, none⟩) (n := n) (cap := cap) (m := 1) (by omega)
  have HS2 : Hid (2 <= n -> (∀ W, (Instr.slice 22 (.slice (some ⟨b, o, none⟩) n cap) none (some (.int .i64 2)) none).run Tryz.prog W = .ok (.slice (adv (some ⟨b, o, none⟩) cap 0) 2 cap) W) /\ (∀ W, (Instr.sliceAt 22 (.slice (some ⟨b, o, none⟩) n cap) none (some (.int .i64 2)) none).run Tryz.prog W = .ok (.slice (adv (some ⟨b, o, none⟩) cap 0) 2 cap) W)) := fun h2 => ⟨fun W => slice_front (w := W) (ao := some ⟨b, o, none⟩) (n := n) (cap := cap) (m := 2) (by omega), fun W => sliceAt_front (w := W) (ao := some ⟨b, o, none⟩) (n := n) (cap := cap) (m := 2) (by omega)⟩
  obtain ⟨ax, hax⟩ : ∃ a, a = adv (some ⟨b, o, none⟩) cap 0 := ⟨_, rfl⟩
  rw [<- hax] at HCV1 HCV2 hs1 hs2 HS2
  by_cases e44 : x = 44
  ·subst e44
   have hasl : hasB l [44, 64] = true -> 2 <= n := fun h => by have := hasB_len h; rw [R.len] at this; exact this
   obtain ⟨T1, hT1⟩ : ∃ T, T = bstr (l.take 1) := ⟨_, rfl⟩
   obtain ⟨T2, hT2⟩ : ∃ T, T = bstr (l.take 2) := ⟨_, rfl⟩
   rw [<- hT1] at HCV1 htk
   rw [<- hT2] at HCV2 htk
   obtain ⟨W0, hW0⟩ : ∃ W, W = w.alloc (.cells #[.int .i64 0, .int .i64 0, .string ⟨#[]⟩, .int .i64 0, .int .i64 0] 31) := ⟨_, rfl⟩
   have CP0 := hasTwo_any _ n cap l _ RA 44 64 (by omega) (by omega)
   have HV0 := Go.Joins.run_convert_bytes_const_at (P := Tryz.prog) (w.alloc (.cells #[.int .i64 0, .int .i64 0, .string ⟨#[]⟩, .int .i64 0, .int .i64 0] 31)) 22 5 #[.int .u8 44, .int .u8 64] 2 2 (w.alloc (.cells #[.int .i64 0, .int .i64 0, .string ⟨#[]⟩, .int .i64 0, .int .i64 0] 31)).heap.size rfl Tryz.underlying22 Tryz.underlying5
   have HBx := Ba (w.alloc (.cells #[.int .i64 0, .int .i64 0, .string ⟨#[]⟩, .int .i64 0, .int .i64 0] 31)) (.cells #[.int .u8 44, .int .u8 64] 5 (2, 3))
   rw [size_alloc] at CP0 HV0 HBx
   obtain ⟨W2, hW2⟩ : ∃ W, W = (w.alloc (.cells #[.int .i64 0, .int .i64 0, .string ⟨#[]⟩, .int .i64 0, .int .i64 0] 31)).alloc (.cells #[.int .u8 44, .int .u8 64] 5 (2, 3)) := ⟨_, rfl⟩
   have CP : Hid (Calls Tryz.prog 61 #[.slice (some ⟨b, o, none⟩) n cap, .slice (some ⟨w.heap.size + 1, 0, none⟩) 2 2] W2 fun e w' => e = .returned (.bool (hasB l [44, 64])) /\ w' = W2) := by rw [hW2]; exact CP0
   have HV : (convert 22 22 (.slice (some ⟨w.heap.size + 1, 0, none⟩) 2 2)).run Tryz.prog ((w.alloc (.cells #[.int .i64 0, .int .i64 0, .string ⟨#[]⟩, .int .i64 0, .int .i64 0] 31)).alloc (.cells #[.int .u8 44, .int .u8 64] 5)) = .ok (.slice (some ⟨w.heap.size + 1, 0, none⟩) 2 2) W2 := by rw [hW2]; exact HV0
   rw [<- hW2] at HBx
   have HW := hid (HX.out W2 HBx)
   have hcv1 := HCV1.out W2 HW.out.2
   have HCV3 : Hid (2 <= n -> (convert 22 9 (.slice ax 2 cap)).run Tryz.prog W2 = .ok (.string T2) W2) := fun h => HCV2.out h W2 HW.out.2
   obtain ⟨⟨c0, c1, c2, c3, c4⟩, f0, f1', f2, f3, f4⟩ := HW.out.1.facts
   obtain ⟨p, hp⟩ : ∃ p, p = hasB l [44, 64] := ⟨_, rfl⟩
   rw [<- hp] at CP htk hasl
   obtain ⟨A, hA⟩ : ∃ A, A = tkM l := ⟨_, rfl⟩
   rw [<- hA] at htk ⊢
   have HA := hid htk
   have HSL := hid hasl
   clear RA R hT hv HX hx hc hA htk hasl hT1 hT2 hW0 hW2 hp CP0 HV0 HBx hax HCV1 HCV2 hfr e3
   cases p
   ·have HA2 : Hid (A = some (5, 0, T1, 1)) := HA.out
    go_enter Tryz.func38, Tryz.ntmps38
    go_wp2_with fail
    go_at_call 61
    with_reducible refine CP.out.mono ?_
    rintro e wa ⟨rfl, rfl⟩
    go_wp2_with fail
    rw [HA2.out]
    exact bodyPost_ret (v := .tuple #[tkV 5 0 T1 0 0, .int .i64 1]) (by simp [results, Tryz.results38, go_sem, tkV, c0, c1, c2, c3, c4]) rfl (PTok.yes rfl (below_set5 HW.out.2 (Nat.le_refl _) _ _ _ _ _))
   ·have HA2 : Hid (A = some (5, 0, T2, 2)) := HA.out
    have hn2 := HSL.out rfl
    have hcv3 := HCV3.out hn2
    obtain ⟨hs3, hs4⟩ := HS2.out hn2
    go_enter Tryz.func38, Tryz.ntmps38
    go_wp2_with fail
    go_at_call 61
    with_reducible refine CP.out.mono ?_
    rintro e wa ⟨rfl, rfl⟩
    go_wp2_with fail
    rw [HA2.out]
    exact bodyPost_ret (v := .tuple #[tkV 5 0 T2 0 0, .int .i64 2]) (by simp [results, Tryz.results38, go_sem, tkV, c0, c1, c2, c3, c4]) rfl (PTok.yes rfl (below_set5 HW.out.2 (Nat.le_refl _) _ _ _ _ _))
  ·have hno : hasB l [44, 64] = false := by rw [hasB_two0]; apply decide_eq_false; omega
   rw [hno] at htk
   obtain ⟨T1, hT1⟩ : ∃ T, T = bstr (l.take 1) := ⟨_, rfl⟩
   rw [<- hT1] at HCV1 htk
   have hcv1 := HCV1.out _ HB0.out
   obtain ⟨⟨c0, c1, c2, c3, c4⟩, f0, f1', f2, f3, f4⟩ := HX0.out.1.facts
   rw [htk]
   clear RA R hT hv HX hx hc htk hno hT1 hax HCV1 HCV2 hfr HS2
   rcases (by omega : x = 39 \/ x = 96) with rfl | rfl
   all_goals
    clear e3 e44
    go_enter Tryz.func38, Tryz.ntmps38
    go_wp2_with fail
    exact bodyPost_ret (v := .tuple #[tkV 5 0 T1 0 0, .int .i64 1]) (by simp [results, Tryz.results38, go_sem, tkV]) rfl (PTok.yes rfl (Ba w _))
 have u44 : x ≠ 44 := fun e => e3 (.inl e)
 have u39 : x ≠ 39 := fun e => e3 (.inr (.inl e))
 have u96 : x ≠ 96 := fun e => e3 (.inr (.inr e))
 clear e3
 have t44 : ((x : Int) == 44) = false := by simp; omega
 have t39 : ((x : Int) == 39) = false := by simp; omega
 have t96 : ((x : Int) == 96) = false := by simp; omega
 by_cases e4 : x = 34
 ·have CC := hid (cutText_any _ _ _ _ _ RA (hT.below HB0.out) hsm hn (hv.drop 1 hl1 (.inr (.inr (.inr (by show l.getD 0 0 < 128; omega))))))
  rw [<- tk_text (hx.symm.trans e4)] at CC
  obtain ⟨A, hA⟩ : ∃ A, A = tkM l := ⟨_, rfl⟩
  rw [<- hA] at CC ⊢
  subst e4
  clear RA R hT hv hx hc hA
  go_enter Tryz.func38, Tryz.ntmps38
  go_wp2_with fail
  go_at_call 62
  with_reducible refine CC.out.mono ?_
  rintro e wa ⟨k, m, t, f, u, q, rfl, hp1, hp2, ba⟩
  have HP1 := hid hp1
  have HP2 := hid hp2
  rw [size_alloc] at ba
  have HW := hid (HX.out wa ba)
  obtain ⟨⟨c0, c1, c2, c3, c4⟩, f0, f1', f2, f3, f4⟩ := HW.out.1.facts
  clear ba CC hp1 hp2
  unfold tkV
  go_wp2_with fail
  exact bodyPost_ret (v := .tuple #[tkV k m t f u, .int .i64 q]) (by simp [results, Tryz.results38, go_sem, tkV, c0, c1, c2, c3, c4]) rfl ⟨k, m, t, f, u, q, rfl, HP1.out, HP2.out, below_set5 HW.out.2 (Nat.le_refl _) _ _ _ _ _⟩
 have t34 : ((x : Int) == 34) = false := by simp; omega
 by_cases e5 : x = 35
 ·have CC := hid (cutHash_any _ _ _ _ _ RA (hT.below HB0.out) hsm hn (hx.symm.trans e5) (fun h => hv.drop 2 (by rcases Nat.lt_or_ge l.length 2 with h2 | h2; (rw [List.getD_eq_getElem?_getD, List.getElem?_eq_none (by omega)] at h; cases h); exact h2) (.inr (.inr (.inr (by show l.getD 1 0 < 128; omega))))))
  rw [<- tk_hash (hx.symm.trans e5)] at CC
  obtain ⟨A, hA⟩ : ∃ A, A = tkM l := ⟨_, rfl⟩
  rw [<- hA] at CC ⊢
  subst e5
  clear RA R hT hv hx hc hA
  go_enter Tryz.func38, Tryz.ntmps38
  go_wp2_with fail
  go_at_call 63
  with_reducible refine CC.out.mono ?_
  rintro e wa ⟨k, m, t, f, u, q, rfl, hp1, hp2, ba⟩
  have HP1 := hid hp1
  have HP2 := hid hp2
  rw [size_alloc] at ba
  have HW := hid (HX.out wa ba)
  obtain ⟨⟨c0, c1, c2, c3, c4⟩, f0, f1', f2, f3, f4⟩ := HW.out.1.facts
  clear ba CC hp1 hp2
  unfold tkV
  go_wp2_with fail
  exact bodyPost_ret (v := .tuple #[tkV k m t f u, .int .i64 q]) (by simp [results, Tryz.results38, go_sem, tkV, c0, c1, c2, c3, c4]) rfl ⟨k, m, t, f, u, q, rfl, HP1.out, HP2.out, below_set5 HW.out.2 (Nat.le_refl _) _ _ _ _ _⟩
 have t35 : ((x : Int) == 35) = false := by simp; omega
 have CC := hid (cutWord_any _ _ _ _ _ RA (hT.below HB0.out) hsm)
 rw [<- tk_other (l := l) (by omega) (by omega) (by omega) (by omega) (by omega) (by omega) (by omega)] at CC
 obtain ⟨A, hA⟩ : ∃ A, A = tkM l := ⟨_, rfl⟩
 rw [<- hA] at CC ⊢
 clear RA R hT hv hx hc hA u44 u39 u96 e1 e2 e4 e5
 go_enter Tryz.func38, Tryz.ntmps38
 go_wp2_with fail
 go_at_call 64
 with_reducible refine CC.out.mono ?_
 rintro e wa ⟨k, m, t, f, u, q, rfl, hp1, hp2, ba⟩
 have HP1 := hid hp1
 have HP2 := hid hp2
 rw [size_alloc] at ba
 have HW := hid (HX.out wa ba)
 obtain ⟨⟨c0, c1, c2, c3, c4⟩, f0, f1', f2, f3, f4⟩ := HW.out.1.facts
 clear ba CC hp1 hp2
 unfold tkV
 go_wp2_with fail
 exact bodyPost_ret (v := .tuple #[tkV k m t f u, .int .i64 q]) (by simp [results, Tryz.results38, go_sem, tkV, c0, c1, c2, c3, c4]) rfl ⟨k, m, t, f, u, q, rfl, HP1.out, HP2.out, below_set5 HW.out.2 (Nat.le_refl _) _ _ _ _ _⟩
end Go.Proofs.YtbkfinjajkjhaaaGreatDoor
namespace Go.Proofs.YtbkfinjajkjhaaaGreatDoor
theorem lineN_stops : ∀ r : List Nat, lineN r < r.length -> r.getD (lineN r) 0 = 10
 | [], h => by simp at h
 | c :: r, h => by
  unfold lineN at h ⊢
  by_cases hc : c = 10
  ·rw [if_pos hc]; exact hc
  ·rw [if_neg hc] at h ⊢
   have := lineN_stops r (by simpa using h)
   simpa using this
theorem rm_last : ∀ (f : Nat) (l : List Nat) (d : Int) (k : Nat), l.length <= k + f -> 1 <= d -> rm l d k ≠ 0 -> l.getD (rm l d k - 1) 0 < 128
 | 0, l, d, k, h, hd, h0 => by rw [rm, if_neg (by omega)] at h0; exact absurd rfl h0
 | f + 1, l, d, k, h, hd, h0 => by
  rw [rm] at h0 ⊢
  split at h0
  ·rename_i h1
   rw [if_pos h1]
   split at h0
   ·rename_i h2
    rw [if_pos h2]
    rw [if_neg (by omega)] at h0 ⊢
    exact rm_last f l (d + 1) (k + 2) (by omega) (by omega) h0
   ·rename_i h2
    rw [if_neg h2]
    split at h0
    ·rename_i h3
     rw [if_pos h3]
     split at h0
     ·rename_i h4
      rw [if_pos h4, show k + 2 - 1 = k + 1 by omega, h3.2]; decide
     ·rename_i h4
      rw [if_neg h4]
      exact rm_last f l (d - 1) (k + 2) (by omega) (by omega) h0
    ·rename_i h3
     rw [if_neg h3]
     rw [if_neg (by omega)] at h0 ⊢
     exact rm_last f l d (k + 1) (by omega) hd h0
  ·exact absurd rfl h0
theorem gapN_bnd {l : List Nat} (h0 : gapN l ≠ 0) : gapN l = l.length \/ l.getD (gapN l) 0 < 128 \/ l.getD (gapN l - 1) 0 < 128 := by
 unfold gapN at h0 ⊢
 split at h0
 ·exact absurd rfl h0
 ·rename_i h1
  rw [if_neg h1]
  split at h0
  ·rename_i h2
   rw [if_pos h2]
   refine .inr (.inr ?_)
   show l.getD 0 0 < 128
   unfold blkB at h2
   simp only [Bool.or_eq_true, beq_iff_eq] at h2
   omega
  ·rename_i h2
   rw [if_neg h2]
   split at h0
   ·rename_i h3
    rw [if_pos h3]
    have hle := lineN_le l
    rcases Nat.lt_or_ge (lineN l) l.length with h | h
    ·exact .inr (.inl (by rw [lineN_stops l h]; decide))
    ·exact .inl (by omega)
   ·rename_i h3
    rw [if_neg h3]
    split at h0
    ·rename_i h4
     rw [if_pos h4]
     refine .inr (.inr ?_)
     have hb := h4
     rw [hasB_two0] at hb
     have h5 := of_decide_eq_true hb
     have e : rm l 0 0 = rm l (0 + 1) (0 + 2) := by
      conv => lhs; rw [rm]
      rw [if_pos (by omega), if_pos ⟨h5.2.1, h5.2.2⟩, if_neg (by omega)]
     rw [e] at h0 ⊢
     exact rm_last l.length l (0 + 1) (0 + 2) (by omega) (by omega) h0
    ·exact absurd rfl h0
theorem bnd_drop {l : List Nat} {k m : Nat} (hk : k <= l.length) (h1 : 1 <= m) (h : m = (l.drop k).length \/ (l.drop k).getD m 0 < 128 \/ (l.drop k).getD (m - 1) 0 < 128) : Bnd l (k + m) := by
 rw [List.length_drop, getD_drop, getD_drop] at h
 rcases h with h | h | h
 ·exact .inr (.inl (by omega))
 ·exact .inr (.inr (.inl h))
 ·exact .inr (.inr (.inr (by rw [show k + m - 1 = k + (m - 1) by omega]; exact h)))
theorem skL_bnd {l : List Nat} : ∀ (f k : Nat), l.length <= k + f -> k <= l.length -> Bnd l k -> Bnd l (skL l k).1 /\ (skL l k).1 <= l.length /\ k <= (skL l k).1
 | 0, k, h, hk, hb => by
  have := skL_gap (l := l) hk
  have hg : gapN (l.drop k) = 0 := by omega
  rw [(this.1 hg).1]
  exact ⟨hb, hk, Nat.le_refl _⟩
 | f + 1, k, h, hk, hb => by
  obtain ⟨g1, g2, g3⟩ := skL_gap (l := l) hk
  by_cases hg : gapN (l.drop k) = 0
  ·rw [(g1 hg).1]
   exact ⟨hb, hk, Nat.le_refl _⟩
  ·rw [g2 hg]
   have := skL_bnd f (k + gapN (l.drop k)) (by omega) g3 (bnd_drop hk (by omega) (gapN_bnd hg))
   exact ⟨this.1, this.2.1, by omega⟩
theorem word_end (r : List Nat) : wordN r = r.length \/ r.getD (wordN r) 0 < 128 := by
 have h := wordN_le r
 rcases Nat.lt_or_ge (wordN r) r.length with h1 | h1
 ·exact .inr (dlmB_low (wordN_stops r h1))
 ·exact .inl (by omega)
theorem txA_quote : ∀ (f : Nat) (r : List Nat) (T : ByteArray) (c k : Nat) {y : ByteArray × Nat × Nat}, txA f r T c k = some y -> ∃ m, y.2.2 = k + m + 1 /\ r.getD m 0 = 34
 | 0, _, _, _, _, _, h => by cases h
 | f + 1, r, T, c, k, y, h => by
  unfold txA at h
  split at h
  ·cases h
  ·split at h
   ·rename_i h1
    cases h
    exact ⟨0, rfl, h1⟩
   ·split at h
    ·cases h
    ·obtain ⟨m, h1, h2⟩ := txA_quote f _ _ _ _ h
     rw [getD_drop] at h2
     exact ⟨(itemM r).2 + m, by omega, h2⟩
theorem textM_end {l : List Nat} {y : ByteArray × Nat} (h : textM l 0 = some y) : l.getD (y.2 - 1) 0 = 34 := by
 unfold textM at h
 cases hx : txL l (0 + 1) ⟨#[]⟩ 0 with
 | none => rw [hx] at h; cases h
 | some z =>
  obtain ⟨T, c, e⟩ := z
  rw [hx] at h
  unfold txFin at h
  simp only at h
  split at h
  ·cases h
   unfold txL at hx
   obtain ⟨m, h1, h2⟩ := txA_quote _ _ _ _ _ hx
   rw [getD_drop] at h2
   simp only at h1
   show l.getD (e - 0 - 1) 0 = 34
   rw [show e - 0 - 1 = 0 + 1 + m by omega]
   exact h2
  ·cases h
theorem labM_end {l : List Nat} {y : Nat × Nat × Nat} (h : labM l = some y) : l.getD (y.2.2 - 1) 0 < 128 /\ (y.1 = 8 \/ y.1 = 9) := by
 unfold labM labF at h
 split at h
 ·cases h
 ·split at h
  ·rename_i h1; cases h
   exact ⟨by show l.getD (_ + 2 - 1) 0 < 128; rw [Nat.add_sub_assoc (by omega)]; rw [h1]; decide, .inl rfl⟩
  ·split at h
   ·rename_i h1; cases h
    exact ⟨by show l.getD (_ + 2 - 1) 0 < 128; rw [Nat.add_sub_assoc (by omega)]; rw [h1]; decide, .inr rfl⟩
   ·cases h
def TkEnd (r : List Nat) (x : Tkn) : Prop := x.1 ≠ 0 /\ (x.2.2.2 = r.length \/ r.getD x.2.2.2 0 < 128 \/ r.getD (x.2.2.2 - 1) 0 < 128)
theorem otherM_end {r : List Nat} {x : Tkn} (h : otherM r = some x) : TkEnd r x := by
 have hw := word_end r
 have key : ∀ (a b : Int) (t : ByteArray), a ≠ 0 -> TkEnd r (a, b, t, wordN r) := fun a b t ha => ⟨ha, hw.elim .inl (fun h => .inr (.inl h))⟩
 unfold otherM at h
 split at h
 ·cases h; exact key _ _ _ (by decide)
 ·split at h
  ·split at h
   ·cases h
   ·cases h; exact key _ _ _ (by decide)
  ·split at h
   ·cases h; exact key _ _ _ (by decide)
   ·cases h
theorem hashM_end {r : List Nat} {x : Tkn} (h : hashM r = some x) : TkEnd r x := by
 have hw := word_end r
 unfold hashM at h
 split at h
 ·rename_i h1
  cases h
  rw [hasB_two0] at h1
  have := of_decide_eq_true h1
  exact ⟨by decide, .inr (.inr (by show r.getD 1 0 < 128; omega))⟩
 ·split at h
  ·rename_i h1
   cases h
   obtain ⟨q, rfl⟩ := hasB_four h1
   exact ⟨by decide, .inr (.inr (by show 40 < 128; decide))⟩
  ·split at h
   ·rename_i h1
    cases h
    rw [hasB_two0] at h1
    have := of_decide_eq_true h1
    exact ⟨by decide, .inr (.inr (by show r.getD 1 0 < 128; omega))⟩
   ·split at h
    ·obtain ⟨y, hy, rfl⟩ := Option.map_eq_some_iff.1 h
     refine ⟨by show (12 : Int) ≠ 0; decide, ?_⟩
     unfold charM at hy
     split at hy
     ·cases hy
     ·rename_i hl
      obtain ⟨v, hv, rfl⟩ := Option.map_eq_some_iff.1 hy
      have hr := runeL_le (t := r.drop 2) (by intro e; have := congrArg List.length e; rw [List.length_drop, List.length_nil] at this; omega)
      rw [List.length_drop] at hr
      have h5 := word_end (r.drop (2 + (runeL (r.drop 2)).2))
      rw [List.length_drop, getD_drop] at h5
      show 2 + (runeL (r.drop 2)).2 + wordN (r.drop (2 + (runeL (r.drop 2)).2)) = r.length \/ _
      rcases h5 with h5 | h5
      ·exact .inl (by omega)
      ·exact .inr (.inl h5)
    ·split at h
     ·rename_i y hy
      cases h
      have := labM_end hy
      refine ⟨?_, .inr (.inr this.1)⟩
      show ((y.1 : Nat) : Int) ≠ 0
      omega
     ·obtain ⟨y, hy, rfl⟩ := Option.map_eq_some_iff.1 h
      exact ⟨by show (10 : Int) ≠ 0; decide, hw.elim .inl (fun h => .inr (.inl h))⟩
theorem tkM_end {r : List Nat} {x : Tkn} (h : tkM r = some x) : TkEnd r x := by
 unfold tkM at h
 split at h
 ·rename_i h1; cases h; exact ⟨by decide, .inr (.inr (by show r.getD 0 0 < 128; omega))⟩
 ·split at h
  ·rename_i h1; cases h; exact ⟨by decide, .inr (.inr (by show r.getD 0 0 < 128; omega))⟩
  ·split at h
   ·rename_i h1
    split at h
    ·rename_i h2
     cases h
     rw [hasB_two0] at h2
     have := of_decide_eq_true h2
     exact ⟨by show (5 : Int) ≠ 0; decide, .inr (.inr (by show r.getD 1 0 < 128; omega))⟩
    ·cases h; exact ⟨by show (5 : Int) ≠ 0; decide, .inr (.inr (by show r.getD 0 0 < 128; omega))⟩
   ·split at h
    ·obtain ⟨y, hy, rfl⟩ := Option.map_eq_some_iff.1 h
     have := textM_end hy
     exact ⟨by show (13 : Int) ≠ 0; decide, .inr (.inr (by show r.getD (y.2 - 1) 0 < 128; omega))⟩
    ·split at h
     ·exact hashM_end h
     ·exact otherM_end h
end Go.Proofs.YtbkfinjajkjhaaaGreatDoor
