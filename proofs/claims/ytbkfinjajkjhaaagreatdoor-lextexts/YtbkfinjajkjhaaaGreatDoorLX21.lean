import Derived.Test.YtbkfinjajkjhaaaGreatDoorLX19
import Derived.Test.YtbkfinjajkjhaaaGreatDoorLX12
import Derived.Test.YtbkfinjajkjhaaaGreatDoorLX11
set_option linter.unusedVariables false
set_option linter.unusedSimpArgs false
set_option maxRecDepth 100000
namespace Go.Proofs.YtbkfinjajkjhaaaGreatDoor
open Go.RowKit
theorem txL_open {l : List Nat} (hd : Dg 256 l) : ∀ (f k : Nat) (T : ByteArray) (c : Nat), l.length <= k + f -> k <= l.length -> te l k = l.length -> Vd (l.drop k) -> txL l k T c = none
 | 0, k, T, c, h, hk, _, _ => txL_end (by omega)
 | f + 1, k, T, c, h, hk, hte, hv => by
  by_cases hlt : k < l.length
  ·rw [txL_go hlt]
   have ha := te_at hlt
   have hne : l.drop k ≠ [] := by intro e; have := congrArg List.length e; rw [List.length_drop, List.length_nil] at this; omega
   have e0 : (l.drop k).getD 0 0 = l.getD k 0 := by rw [getD_drop]; rfl
   by_cases h34 : l.getD k 0 = 34
   ·rw [h34, if_neg (by decide), if_pos rfl] at ha; omega
   ·rw [if_neg h34]
    by_cases h92 : l.getD k 0 = 92
    ·have hi : itemM (l.drop k) = escV (l.drop k) := by unfold itemM; rw [if_pos (by rw [e0]; exact h92)]
     rw [hi]
     unfold escV
     cases hM : escM (l.drop k) with
     | none => exact if_pos rfl
     | some m =>
      obtain ⟨v, n⟩ := m
      obtain ⟨g1, g2, g3, g4⟩ := escM_bytes (by rw [e0]; exact h92) hM
      rw [List.length_drop] at g2
      show (if n = 0 then none else txL l (k + n) (T ++ Utf8.encode (v : Int)) (c + 1)) = none
      rw [if_neg (by omega)]
      have := te_skip (n - 2) l (k + 2) (by omega) (fun j hj => by
       have := g4 (2 + j) (by omega) (by omega)
       rw [getD_drop, show k + (2 + j) = k + 2 + j by omega] at this
       exact this)
      rw [show k + 2 + (n - 2) = k + n by omega] at this
      rw [if_pos h92, this] at ha
      have hvd := hv.drop n (by rw [List.length_drop]; omega) (.inr (.inr (.inr (g3 (n - 1) (by omega)))))
      rw [List.drop_drop] at hvd
      exact txL_open hd f (k + n) _ _ (by omega) (by omega) (by omega) hvd
    ·have hi : itemM (l.drop k) = decN (l.drop k) := by unfold itemM; rw [if_neg (by rw [e0]; exact h92), runeL_dec (hd.drop k), if_neg (hv.first hne)]
     have hdl := decN_le hne
     rw [List.length_drop] at hdl
     rw [hi, if_neg (by omega)]
     have hsp := decN_split hne
     have hsk : te l k = te l (k + (decN (l.drop k)).2) := te_skip _ l k (by omega) (fun j hj => by
      rw [e0] at hsp
      rcases hsp with ⟨h1, h2⟩ | ⟨h1, h2, h3⟩
      ·obtain rfl : j = 0 := by omega
       exact ⟨h92, h34⟩
      ·have := h3 j hj
       rw [getD_drop] at this
       omega)
     have hvt := hv.tail hne
     rw [List.drop_drop] at hvt
     exact txL_open hd f _ _ _ (by omega) (by omega) (by omega) hvt
  ·exact txL_end hlt
def txtT (x : ByteArray × Nat) : Tkn := (13, 0, x.1, x.2)
set_option maxHeartbeats 8000000 in
theorem cutText_any (ao : Option Addr) (n cap : Nat) (l : List Nat) (w : World) (R : BRow w ao n cap l) (hT : LTabs w) (hsm : n <= 1000000) (hn : 1 <= n) (hv : Vd (l.drop 1)) : Calls Tryz.prog 62 #[.slice ao n cap] w (PTok w ((textM l 0).map txtT)) := by
 have HB0 : Hid (Below w.heap.size w (w.alloc (.cells #[.int .i64 0, .int .i64 0, .string ⟨#[]⟩, .int .i64 0, .int .i64 0] 31))) := Ba w _
 have RA := R.below HB0.out
 have CE := hid (textEnd_any ao n cap l _ RA (by omega))
 have HX : Hid (∀ W, Below (w.heap.size + 1) (w.alloc (.cells #[.int .i64 0, .int .i64 0, .string ⟨#[]⟩, .int .i64 0, .int .i64 0] 31)) W -> TxW w W) := fun W h => ⟨(TkBox.new w).on (by rw [size_alloc]; exact h), HB0.out.trans (h.mono (by omega))⟩
 have h0 := HX.out _ (Below.refl _ _)
 have hcap := R.fits
 obtain ⟨X, hX⟩ : ∃ X, X = textM l 0 := ⟨_, rfl⟩
 rw [<- hX]
 obtain ⟨E, hE⟩ : ∃ E, E = te l 1 := ⟨_, rfl⟩
 rw [<- hE] at CE
 have hl1 := te_le l.length l 1 (by omega)
 have hl2 := te_ge l.length l 1 (by omega) (by rw [R.len]; exact hn)
 rw [<- hE, R.len] at hl1
 rw [<- hE] at hl2
 by_cases hend : E = n
 ·have HN : Hid (X = none) := by
   unfold Hid; rw [hX]; unfold textM
   rw [txL_open R.dg l.length (0 + 1) ⟨#[]⟩ 0 (by omega) (by rw [R.len]; exact hn) (by rw [<- hE, R.len]; exact hend) hv]
   rfl
  have q1 : ((E : Int) == (n : Int)) = true := by simp; omega
  obtain ⟨⟨c0, c1, c2, c3, c4⟩, f0, f1', f2, f3, f4⟩ := h0.1.facts
  have h02 := hid h0.2
  clear hX hE hl1 hl2 RA R hT hv hend HX h0
  go_enter Tryz.func62, Tryz.ntmps62
  go_wp2_with fail
  go_at_call 80
  with_reducible refine CE.out.mono ?_
  rintro e wa ⟨rfl, rfl⟩
  go_wp2_with fail
  rw [HN.out]
  exact bodyPost_ret (v := .tuple #[tkV 0 0 ⟨#[]⟩ 0 0, .int .i64 0]) (by simp [results, Tryz.results62, go_sem, tkV, c0, c1, c2, c3, c4]) rfl (PTok.no (Ba w _))
 ·have q1 : ((E : Int) == (n : Int)) = false := by simp; omega
  have q2 : wrap64 ((E : Int) + 1) = (E : Int) + 1 := by unfold wrap64; omega
  have hs5 : ∀ W, (Instr.slice 22 (.slice ao n cap) (some (.int .i64 1)) (some (.int .i64 (E : Int))) none).run Tryz.prog W = .ok (.slice (adv ao cap 1) (E - 1) (cap - 1)) W := fun W => slice_part (w := W) (ao := ao) (n := n) (cap := cap) (k := 1) (m := E) hl2 (by omega)
  have hs6 : ∀ W, (Instr.sliceAt 22 (.slice ao n cap) (some (.int .i64 1)) (some (.int .i64 (E : Int))) none).run Tryz.prog W = .ok (.slice (adv ao cap 1) (E - 1) (cap - 1)) W := fun W => sliceAt_part (w := W) (ao := ao) (n := n) (cap := cap) (k := 1) (m := E) hl2 (by omega)
  obtain ⟨T, hTt⟩ : ∃ T, T = bstr ((l.drop 1).take (E - 1)) := ⟨_, rfl⟩
  have hbt : bs T = (l.drop 1).take (E - 1) := by rw [hTt, bs_bstr ((R.dg.drop 1).take _)]
  have hcv : (convert 22 9 (.slice (adv ao cap 1) (E - 1) (cap - 1))).run Tryz.prog (w.alloc (.cells #[.int .i64 0, .int .i64 0, .string ⟨#[]⟩, .int .i64 0, .int .i64 0] 31)) = .ok (.string T) (w.alloc (.cells #[.int .i64 0, .int .i64 0, .string ⟨#[]⟩, .int .i64 0, .int .i64 0] 31)) := by
   rw [hTt]; exact conv_any (RA.part (k := 1) (m := E) hl2 (by omega))
  have CS := hid (said_any l E T _ R.dg hbt hl2 (by rw [R.len]; omega) hE.symm hv (by rw [R.len]; exact hsm) (hT.below HB0.out))
  rw [<- hX, size_alloc] at CS
  obtain ⟨ax, hax⟩ : ∃ a, a = adv ao cap 1 := ⟨_, rfl⟩
  rw [<- hax] at hs5 hs6 hcv
  clear hX hE hl1 hl2 RA R hT hv hend h0 hTt hbt hax
  go_enter Tryz.func62, Tryz.ntmps62
  go_wp2_with fail
  go_at_call 80
  with_reducible refine CE.out.mono ?_
  rintro e wa ⟨rfl, rfl⟩
  go_wp2_with fail
  go_at_call 81
  with_reducible refine CS.out.mono ?_
  rintro e wb ⟨t, b, rfl, hx, bb⟩
  have HW := hid (HX.out wb bb)
  have HXX := hid hx
  obtain ⟨⟨c0, c1, c2, c3, c4⟩, f0, f1', f2, f3, f4⟩ := HW.out.1.facts
  clear bb hx CS CE
  cases b
  ·have HN : Hid (X = none) := HXX.out
   go_wp2_with fail
   rw [HN.out]
   exact bodyPost_ret (v := .tuple #[tkV 0 0 ⟨#[]⟩ 0 0, .int .i64 0]) (by simp [results, Tryz.results62, go_sem, tkV, c0, c1, c2, c3, c4]) rfl (PTok.no (below_set5 HW.out.2 (Nat.le_refl _) _ _ _ _ _))
  ·have HN : Hid (X = some (t, E + 1)) := HXX.out
   go_wp2_with fail
   rw [HN.out]
   exact bodyPost_ret (v := .tuple #[tkV 13 0 t 0 0, .int .i64 ((E : Int) + 1)]) (by simp [results, Tryz.results62, go_sem, tkV, c0, c1, c2, c3, c4, q2]) rfl (PTok.yes (by omega) (below_set5 HW.out.2 (Nat.le_refl _) _ _ _ _ _))
theorem hasB_two0 {l : List Nat} {a b : Nat} : hasB l [a, b] = decide (2 <= l.length /\ l.getD 0 0 = a /\ l.getD 1 0 = b) := by
 have := hasB_two (l := l) (a := a) (b := b) (k := 0)
 rw [List.drop_zero] at this
 rw [this]
theorem hasB_four {l : List Nat} (h : hasB l [35, 117, 56, 40] = true) : ∃ r, l = 35 :: 117 :: 56 :: 40 :: r := by
 unfold hasB at h
 have h1 := of_decide_eq_true h
 exact ⟨l.drop 4, by conv => lhs; rw [<- List.take_append_drop 4 l, show l.take 4 = [35, 117, 56, 40] from h1]
                     rfl⟩
theorem hash_u {l : List Nat} (h : l.getD 1 0 ≠ 117) : hasB l [35, 117, 56, 40] = false := by
 cases hh : hasB l [35, 117, 56, 40] with
 | false => rfl
 | true =>
  obtain ⟨r, rfl⟩ := hasB_four hh
  exact absurd rfl h
theorem truth_no {l : List Nat} (h1 : l.getD 1 0 ≠ 116) (h2 : l.getD 1 0 ≠ 102) : truthM (l.take (wordN l)) = none := by
 have key : ∀ t : List Nat, t.getD 1 0 ≠ l.getD 1 0 -> 1 < t.length -> l.take (wordN l) ≠ t := fun t ht hl e => by
  have h3 : (l.take (wordN l)).getD 1 0 = t.getD 1 0 := congrArg (fun x => List.getD x 1 0) e
  have h4 := congrArg List.length e
  rw [List.length_take] at h4
  rw [getD_take_lt l (by omega)] at h3
  exact ht h3.symm
 unfold truthM
 rw [if_neg (fun e => e.elim (key _ (fun x => h1 (by rw [<- x]; rfl)) (by decide)) (key _ (fun x => h1 (by rw [<- x]; rfl)) (by decide))), if_neg (fun e => e.elim (key _ (fun x => h2 (by rw [<- x]; rfl)) (by decide)) (key _ (fun x => h2 (by rw [<- x]; rfl)) (by decide)))]
theorem lab_no {l : List Nat} (h : digB (l.getD 1 0) = false) : labM l = none := by
 unfold labM
 have : dgA 9 (l.drop 1) 0 0 = (0, 0) := by
  unfold dgA
  rw [if_neg]
  rintro ⟨_, h1, h2⟩
  rw [getD_drop] at h1 h2
  unfold digB at h
  rw [show 1 + 0 = 1 from rfl] at h1 h2
  rw [decide_eq_true h1, decide_eq_true h2] at h
  cases h
 rw [this]
 unfold labF
 rw [if_pos (.inl rfl)]
theorem hash_one {l : List Nat} (h : l.length = 1) (h0 : l.getD 0 0 = 35) : hashM l = none := by
 obtain ⟨c, rfl⟩ : ∃ c, l = [c] := by
  match l, h with
  | [c], _ => exact ⟨c, rfl⟩
 obtain rfl : c = 35 := h0
 have h1 : labM [35] = none := lab_no (by decide)
 unfold hashM
 rw [h1]
 decide
theorem hash_40 {l : List Nat} (h : 2 <= l.length) (h0 : l.getD 0 0 = 35) (h1 : l.getD 1 0 = 40) : hashM l = some (3, 0, ⟨#[]⟩, 2) := by
 unfold hashM
 rw [if_pos (by rw [hasB_two0]; exact decide_eq_true ⟨h, h0, h1⟩)]
theorem hash_59 {l : List Nat} (h : 2 <= l.length) (h0 : l.getD 0 0 = 35) (h1 : l.getD 1 0 = 59) : hashM l = some (7, 0, ⟨#[]⟩, 2) := by
 unfold hashM
 rw [if_neg (by rw [hasB_two0, decide_eq_true_eq]; omega), hash_u (by omega), if_neg (by decide), if_pos (by rw [hasB_two0]; exact decide_eq_true ⟨h, h0, h1⟩)]
theorem hash_92 {l : List Nat} (h : 2 <= l.length) (h0 : l.getD 0 0 = 35) (h1 : l.getD 1 0 = 92) : hashM l = (charM l).map chrT := by
 unfold hashM
 rw [if_neg (by rw [hasB_two0, decide_eq_true_eq]; omega), hash_u (by omega), if_neg (by decide), if_neg (by rw [hasB_two0, decide_eq_true_eq]; omega), if_pos (by rw [hasB_two0]; exact decide_eq_true ⟨h, h0, h1⟩)]
 rfl
theorem hash_dig {l : List Nat} (h1 : digB (l.getD 1 0) = true) : hashM l = (labM l).map labT := by
 unfold digB at h1
 simp only [Bool.and_eq_true, decide_eq_true_eq] at h1
 unfold hashM
 rw [if_neg (by rw [hasB_two0, decide_eq_true_eq]; omega), hash_u (by omega), if_neg (by decide), if_neg (by rw [hasB_two0, decide_eq_true_eq]; omega), if_neg (by rw [hasB_two0, decide_eq_true_eq]; omega), truth_no (by omega) (by omega)]
 cases labM l <;> rfl
theorem hash_word {l : List Nat} (h1 : l.getD 1 0 ≠ 40) (h2 : l.getD 1 0 ≠ 59) (h3 : l.getD 1 0 ≠ 92) (h4 : digB (l.getD 1 0) = false) : hashM l = hwM l := by
 unfold hashM hwM
 rw [if_neg (by rw [hasB_two0, decide_eq_true_eq]; omega), if_neg (show ¬ hasB l [35, 59] = true by rw [hasB_two0, decide_eq_true_eq]; omega), if_neg (show ¬ hasB l [35, 92] = true by rw [hasB_two0, decide_eq_true_eq]; omega), lab_no h4]
 by_cases h : hasB l [35, 117, 56, 40] = true
 ·rw [if_pos h]
  obtain ⟨r, rfl⟩ := hasB_four h
  have hw : wordN (35 :: 117 :: 56 :: 40 :: r) = 3 := by simp [wordN, dlmB, blkB]
  rw [hw]
  simp [truthM]
 ·rw [if_neg h]
  have hno : ¬ (l.take (wordN l) = [35, 117, 56] /\ wordN l < l.length /\ l.getD (wordN l) 0 = 40) := by
   rintro ⟨e, e1, e2⟩
   have h5 := congrArg List.length e
   rw [List.length_take] at h5
   have h6 : wordN l = 3 := by simp at h5; omega
   rw [h6] at e e1 e2
   apply h
   unfold hasB
   apply decide_eq_true
   show l.take 4 = _
   have : l.take 4 = l.take 3 ++ [l.getD 3 0] := by
    rw [List.take_add_one, List.getD_eq_getElem?_getD, List.getElem?_eq_getElem e1]; rfl
   rw [this, e, e2]; rfl
  cases ht : truthM (l.take (wordN l)) with
  | some n => rfl
  | none => rw [if_neg hno]; rfl
set_option maxHeartbeats 8000000 in
theorem cutHash_any (ao : Option Addr) (n cap : Nat) (l : List Nat) (w : World) (R : BRow w ao n cap l) (hT : LTabs w) (hsm : n <= 1000000) (hn : 1 <= n) (h0 : l.getD 0 0 = 35) (hv : l.getD 1 0 = 92 -> Vd (l.drop 2)) : Calls Tryz.prog 63 #[.slice ao n cap] w (PTok w (hashM l)) := by
 have HB0 : Hid (Below w.heap.size w (w.alloc (.cells #[.int .i64 0, .int .i64 0, .string ⟨#[]⟩, .int .i64 0, .int .i64 0] 31))) := Ba w _
 have RA := R.below HB0.out
 have HX : Hid (∀ W, Below (w.heap.size + 1) (w.alloc (.cells #[.int .i64 0, .int .i64 0, .string ⟨#[]⟩, .int .i64 0, .int .i64 0] 31)) W -> TxW w W) := fun W h => ⟨(TkBox.new w).on (by rw [size_alloc]; exact h), HB0.out.trans (h.mono (by omega))⟩
 have hx0 := HX.out _ (Below.refl _ _)
 obtain ⟨⟨c0, c1, c2, c3, c4⟩, f0, f1', f2, f3, f4⟩ := hx0.1.facts
 have H02 := hid hx0.2
 clear hx0
 by_cases hn1 : n = 1
 ·subst hn1
  rw [hash_one R.len h0]
  clear RA R hT hv HX
  go_enter Tryz.func63, Tryz.ntmps63
  go_wp2_with fail
  exact bodyPost_ret (v := .tuple #[tkV 0 0 ⟨#[]⟩ 0 0, .int .i64 0]) (by simp [results, Tryz.results63, go_sem, tkV, c0, c1, c2, c3, c4]) rfl (PTok.no (Ba w _))
 have hn2 : 2 <= n := by omega
 have hl2 : 2 <= l.length := by rw [R.len]; exact hn2
 obtain ⟨b, o, rfl, hb, hc⟩ := RA.rd.some (by rw [R.len]; omega)
 have hc1 := hc 1 (by rw [R.len]; omega)
 have n1 : ((n : Int) == 1) = false := by simp; omega
 have n2 : (1 : Int) < (n : Int) := by omega
 have hf := R.fits
 have hm := R.most
 unfold maxLen at hm
 obtain ⟨x, hx⟩ : ∃ x, x = l.getD 1 0 := ⟨_, rfl⟩
 rw [<- hx] at hc1
 by_cases e1 : x = 40
 ·rw [hash_40 hl2 h0 (hx.symm.trans e1)]
  subst e1
  clear RA R hT hv HX hx hc
  go_enter Tryz.func63, Tryz.ntmps63
  go_wp2_with fail
  exact bodyPost_ret (v := .tuple #[tkV 3 0 ⟨#[]⟩ 0 0, .int .i64 2]) (by simp [results, Tryz.results63, go_sem, tkV, c0, c1, c2, c3, c4]) rfl (PTok.yes rfl (Ba w _))
 have t1 : ((x : Int) == 40) = false := by simp; omega
 by_cases e2 : x = 59
 ·rw [hash_59 hl2 h0 (hx.symm.trans e2)]
  subst e2
  clear RA R hT hv HX hx hc
  go_enter Tryz.func63, Tryz.ntmps63
  go_wp2_with fail
  exact bodyPost_ret (v := .tuple #[tkV 7 0 ⟨#[]⟩ 0 0, .int .i64 2]) (by simp [results, Tryz.results63, go_sem, tkV, c0, c1, c2, c3, c4]) rfl (PTok.yes rfl (Ba w _))
 have t2 : ((x : Int) == 59) = false := by simp; omega
 by_cases e3 : x = 92
 ·have CC := hid (cutChar_any _ _ _ _ _ RA (hT.below HB0.out) hsm hn2 (hv (hx.symm.trans e3)))
  rw [<- hash_92 hl2 h0 (hx.symm.trans e3)] at CC
  obtain ⟨A, hA⟩ : ∃ A, A = hashM l := ⟨_, rfl⟩
  rw [<- hA] at CC ⊢
  subst e3
  clear RA R hT hv hx hc hA c0 c1 c2 c3 c4 f0 f1' f2 f3 f4
  go_enter Tryz.func63, Tryz.ntmps63
  go_wp2_with fail
  go_at_call 82
  with_reducible refine CC.out.mono ?_
  rintro e wa ⟨k, m, t, f, u, q, rfl, hp1, hp2, ba⟩
  have HP1 := hid hp1
  have HP2 := hid hp2
  rw [size_alloc] at ba
  have HW := hid (HX.out wa ba)
  obtain ⟨⟨c0, c1, c2, c3, c4⟩, f0, f1', f2, f3, f4⟩ := HW.out.1.facts
  clear ba CC hp1 hp2
  unfold tkV
  go_wp2_with fail
  exact bodyPost_ret (v := .tuple #[tkV k m t f u, .int .i64 q]) (by simp [results, Tryz.results63, go_sem, tkV, c0, c1, c2, c3, c4]) rfl ⟨k, m, t, f, u, q, rfl, HP1.out, HP2.out, below_set5 HW.out.2 (Nat.le_refl _) _ _ _ _ _⟩
 have t3 : ((x : Int) == 92) = false := by simp; omega
 have CD := hid (fun W => isDigit_any x W)
 obtain ⟨d, hd⟩ : ∃ d, d = digB x := ⟨_, rfl⟩
 rw [<- hd] at CD
 cases d
 ·have CC := hid (cutHashWord_any _ _ _ _ _ RA (hT.below HB0.out) (by omega))
  rw [<- hash_word (l := l) (by omega) (by omega) (by omega) (by rw [<- hx]; exact hd.symm)] at CC
  obtain ⟨A, hA⟩ : ∃ A, A = hashM l := ⟨_, rfl⟩
  rw [<- hA] at CC ⊢
  clear RA R hT hv hx hc hA c0 c1 c2 c3 c4 f0 f1' f2 f3 f4 e1 e2 e3 hd
  go_enter Tryz.func63, Tryz.ntmps63
  go_wp2_with fail
  go_at_call 83
  with_reducible refine (CD.out _).mono ?_
  rintro e wd ⟨rfl, rfl⟩
  go_wp2_with fail
  go_at_call 85
  with_reducible refine CC.out.mono ?_
  rintro e wa ⟨k, m, t, f, u, q, rfl, hp1, hp2, ba⟩
  have HP1 := hid hp1
  have HP2 := hid hp2
  rw [size_alloc] at ba
  have HW := hid (HX.out wa ba)
  obtain ⟨⟨c0, c1, c2, c3, c4⟩, f0, f1', f2, f3, f4⟩ := HW.out.1.facts
  clear ba CC hp1 hp2
  unfold tkV
  go_wp2_with fail
  exact bodyPost_ret (v := .tuple #[tkV k m t f u, .int .i64 q]) (by simp [results, Tryz.results63, go_sem, tkV, c0, c1, c2, c3, c4]) rfl ⟨k, m, t, f, u, q, rfl, HP1.out, HP2.out, below_set5 HW.out.2 (Nat.le_refl _) _ _ _ _ _⟩
 ·have CC := hid (cutLabel_any _ _ _ _ _ RA hn2 (by rw [<- hx]; exact hd.symm))
  rw [<- hash_dig (l := l) (by rw [<- hx]; exact hd.symm)] at CC
  obtain ⟨A, hA⟩ : ∃ A, A = hashM l := ⟨_, rfl⟩
  rw [<- hA] at CC ⊢
  clear RA R hT hv hx hc hA c0 c1 c2 c3 c4 f0 f1' f2 f3 f4 e1 e2 e3 hd
  go_enter Tryz.func63, Tryz.ntmps63
  go_wp2_with fail
  go_at_call 83
  with_reducible refine (CD.out _).mono ?_
  rintro e wd ⟨rfl, rfl⟩
  go_wp2_with fail
  go_at_call 84
  with_reducible refine CC.out.mono ?_
  rintro e wa ⟨k, m, t, f, u, q, rfl, hp1, hp2, ba⟩
  have HP1 := hid hp1
  have HP2 := hid hp2
  rw [size_alloc] at ba
  have HW := hid (HX.out wa ba)
  obtain ⟨⟨c0, c1, c2, c3, c4⟩, f0, f1', f2, f3, f4⟩ := HW.out.1.facts
  clear ba CC hp1 hp2
  unfold tkV
  go_wp2_with fail
  exact bodyPost_ret (v := .tuple #[tkV k m t f u, .int .i64 q]) (by simp [results, Tryz.results63, go_sem, tkV, c0, c1, c2, c3, c4]) rfl ⟨k, m, t, f, u, q, rfl, HP1.out, HP2.out, below_set5 HW.out.2 (Nat.le_refl _) _ _ _ _ _⟩
end Go.Proofs.YtbkfinjajkjhaaaGreatDoor
