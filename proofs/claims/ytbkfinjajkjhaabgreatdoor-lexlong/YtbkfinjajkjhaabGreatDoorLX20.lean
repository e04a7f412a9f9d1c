import Derived.Test.YtbkfinjajkjhaabGreatDoorLX19
set_option linter.unusedVariables false
set_option linter.unusedSimpArgs false
set_option maxRecDepth 100000
namespace Go.Proofs.YtbkfinjajkjhaabGreatDoor
open Go.RowKit
theorem txL_open {l : List Nat} (hd : Dg 256 l) : ∀ (f k : Nat) (T : ByteArray) (c : Nat), l.length <= k + f -> k <= l.length -> te l k = l.length -> Vd (l.drop k) -> txL l k T c = none
 | 0, k, T, c, h, hk, _, _ => txL_end (by omega)
 | f + 1, k, T, c, h, hk, hte, hv => by
  by_cases hlt : k < l.length
  ·rw [txL_go hlt]
   have ha := te_at hlt
   have hne : l.drop k ≠ [] := by intro e; have := congrArg List.length e; rw [List.length_drop, List.length_nil] at this; omega
   have e0 : (l.drop k).getD 0 0 = l.getD k 0 := by rw [getD_drop]; rfl
   by_cases h34 : l.getD k 0 = 34
   ·rw [h34, if_neg (by decide), if_pos rfl] at ha; omega
   ·rw [if_neg h34]
    by_cases h92 : l.getD k 0 = 92
    ·have hi : itemM (l.drop k) = escV (l.drop k) := by unfold itemM; rw [if_pos (by rw [e0]; exact h92)]
     rw [hi]
     unfold escV
     cases hM : escM (l.drop k) with
     | none => exact if_pos rfl
     | some m =>
      obtain ⟨v, n⟩ := m
      obtain ⟨g1, g2, g3, g4⟩ := escM_bytes (by rw [e0]; exact h92) hM
      rw [List.length_drop] at g2
      show (if n = 0 then none else txL l (k + n) (T ++ Utf8.encode (v : Int)) (c + 1)) = none
      rw [if_neg (by omega)]
      have := te_skip (n - 2) l (k + 2) (by omega) (fun j hj => by
       have := g4 (2 + j) (by omega) (by omega)
       rw [getD_drop, show k + (2 + j) = k + 2 + j by omega] at this
       exact this)
      rw [show k + 2 + (n - 2) = k + n by omega] at this
      rw [if_pos h92, this] at ha
      have hvd := hv.drop n (by rw [List.length_drop]; omega) (.inr (.inr (.inr (g3 (n - 1) (by omega)))))
      rw [List.drop_drop] at hvd
      exact txL_open hd f (k + n) _ _ (by omega) (by omega) (by omega) hvd
    ·have hi : itemM (l.drop k) = decN (l.drop k) := by unfold itemM; rw [if_neg (by rw [e0]; exact h92), runeL_dec (hd.drop k), if_neg (hv.first hne)]
     have hdl := decN_le hne
     rw [List.length_drop] at hdl
     rw [hi, if_neg (by omega)]
     have hsp := decN_split hne
     have hsk : te l k = te l (k + (decN (l.drop k)).2) := te_skip _ l k (by omega) (fun j hj => by
      rw [e0] at hsp
      rcases hsp with ⟨h1, h2⟩ | ⟨h1, h2, h3⟩
      ·obtain rfl : j = 0 := by omega
       exact ⟨h92, h34⟩
      ·have := h3 j hj
       rw [getD_drop] at this
       omega)
     have hvt := hv.tail hne
     rw [List.drop_drop] at hvt
     exact txL_open hd f _ _ _ (by omega) (by omega) (by omega) hvt
  ·exact txL_end hlt
def txtT (x : ByteArray × Nat) : Tkn := (13, 0, x.1, x.2)
set_option maxHeartbeats 8000000 in
theorem cutText_any (ao : Option Addr) (n cap : Nat) (l : List Nat) (w : World) (R : BRow w ao n cap l) (hT : LTabs w) (hsm : n <= 1000000) (hn : 1 <= n) (hv : Vd (l.drop 1)) : Calls Tryz.prog 19 #[.slice ao n cap] w (PTok w ((textM l 0).map txtT)) := by
 have HB0 : Hid (Below w.heap.size w (w.alloc (.cells #[.int .i64 0, .int .i64 0, .string ⟨#[]⟩, .int .i64 0, .int .i64 0] 29))) := Ba w _
 have RA := R.below HB0.out
 have CE := hid (textEnd_any ao n cap l _ RA (by omega))
 have HX : Hid (∀ W, Below (w.heap.size + 1) (w.alloc (.cells #[.int .i64 0, .int .i64 0, .string ⟨#[]⟩, .int .i64 0, .int .i64 0] 29)) W -> TxW w W) := fun W h => ⟨(TkBox.new w).on (by rw [size_alloc]; exact h), HB0.out.trans (h.mono (by omega))⟩
 have h0 := HX.out _ (Below.refl _ _)
 have hcap := R.fits
 obtain ⟨X, hX⟩ : ∃ X, X = textM l 0 := ⟨_, rfl⟩
 rw [<- hX]
 obtain ⟨E, hE⟩ : ∃ E, E = te l 1 := ⟨_, rfl⟩
 rw [<- hE] at CE
 have hl1 := te_le l.length l 1 (by omega)
 have hl2 := te_ge l.length l 1 (by omega) (by rw [R.len]; exact hn)
 rw [<- hE, R.len] at hl1
 rw [<- hE] at hl2
 by_cases hend : E = n
 ·have HN : Hid (X = none) := by
   unfold Hid; rw [hX]; unfold textM
   rw [txL_open R.dg l.length (0 + 1) ⟨#[]⟩ 0 (by omega) (by rw [R.len]; exact hn) (by rw [<- hE, R.len]; exact hend) hv]
   rfl
  have q1 : ((E : Int) == (n : Int)) = true := by simp; omega
  obtain ⟨⟨c0, c1, c2, c3, c4⟩, f0, f1', f2, f3, f4⟩ := h0.1.facts
  have h02 := hid h0.2
  clear hX hE hl1 hl2 RA R hT hv hend HX h0
  go_enter Tryz.func19, Tryz.ntmps19
  go_wp2_with fail
  go_at_call 27
  with_reducible refine CE.out.mono ?_
  rintro e wa ⟨rfl, rfl⟩
  go_wp2_with fail
  rw [HN.out]
  exact bodyPost_ret (v := .tuple #[tkV 0 0 ⟨#[]⟩ 0 0, .int .i64 0]) (by simp [results, Tryz.results19, go_sem, tkV, c0, c1, c2, c3, c4]) rfl (PTok.no (Ba w _))
 ·have q1 : ((E : Int) == (n : Int)) = false := by simp; omega
  have q2 : wrap64 ((E : Int) + 1) = (E : Int) + 1 := by unfold wrap64; omega
  have hs5 : ∀ W, (Instr.slice 22 (.slice ao n cap) (some (.int .i64 1)) (some (.int .i64 (E : Int))) none).run Tryz.prog W = .ok (.slice (adv ao cap 1) (E - 1) (cap - 1)) W := fun W => slice_part (w := W) (ao := ao) (n := n) (cap := cap) (k := 1) (m := E) hl2 (by omega)
  have hs6 : ∀ W, (Instr.sliceAt 22 (.slice ao n cap) (some (.int .i64 1)) (some (.int .i64 (E : Int))) none).run Tryz.prog W = .ok (.slice (adv ao cap 1) (E - 1) (cap - 1)) W := fun W => sliceAt_part (w := W) (ao := ao) (n := n) (cap := cap) (k := 1) (m := E) hl2 (by omega)
  obtain ⟨T, hTt⟩ : ∃ T, T = bstr ((l.drop 1).take (E - 1)) := ⟨_, rfl⟩
  have hbt : bs T = (l.drop 1).take (E - 1) := by rw [hTt, bs_bstr ((R.dg.drop 1).take _)]
  have hcv : (convert 22 9 (.slice (adv ao cap 1) (E - 1) (cap - 1))).run Tryz.prog (w.alloc (.cells #[.int .i64 0, .int .i64 0, .string ⟨#[]⟩, .int .i64 0, .int .i64 0] 29)) = .ok (.string T) (w.alloc (.cells #[.int .i64 0, .int .i64 0, .string ⟨#[]⟩, .int .i64 0, .int .i64 0] 29)) := by
   rw [hTt]; exact conv_any (RA.part (k := 1) (m := E) hl2 (by omega))
  have CS := hid (said_any l E T _ R.dg hbt hl2 (by rw [R.len]; omega) hE.symm hv (by rw [R.len]; exact hsm) (hT.below HB0.out))
  rw [<- hX, size_alloc] at CS
  obtain ⟨ax, hax⟩ : ∃ a, a = adv ao cap 1 := ⟨_, rfl⟩
  rw [<- hax] at hs5 hs6 hcv
  clear hX hE hl1 hl2 RA R hT hv hend h0 hTt hbt hax
  go_enter Tryz.func19, Tryz.ntmps19
  go_wp2_with fail
  go_at_call 27
  with_reducible refine CE.out.mono ?_
  rintro e wa ⟨rfl, rfl⟩
  go_wp2_with fail
  go_at_call 28
  with_reducible refine CS.out.mono ?_
  rintro e wb ⟨t, b, rfl, hx, bb⟩
  have HW := hid (HX.out wb bb)
  have HXX := hid hx
  obtain ⟨⟨c0, c1, c2, c3, c4⟩, f0, f1', f2, f3, f4⟩ := HW.out.1.facts
  clear bb hx CS CE
  cases b
  ·have HN : Hid (X = none) := HXX.out
   go_wp2_with fail
   rw [HN.out]
   exact bodyPost_ret (v := .tuple #[tkV 0 0 ⟨#[]⟩ 0 0, .int .i64 0]) (by simp [results, Tryz.results19, go_sem, tkV, c0, c1, c2, c3, c4]) rfl (PTok.no (below_set5 HW.out.2 (Nat.le_refl _) _ _ _ _ _))
  ·have HN : Hid (X = some (t, E + 1)) := HXX.out
   go_wp2_with fail
   rw [HN.out]
   exact bodyPost_ret (v := .tuple #[tkV 13 0 t 0 0, .int .i64 ((E : Int) + 1)]) (by simp [results, Tryz.results19, go_sem, tkV, c0, c1, c2, c3, c4, q2]) rfl (PTok.yes (by omega) (below_set5 HW.out.2 (Nat.le_refl _) _ _ _ _ _))
end Go.Proofs.YtbkfinjajkjhaabGreatDoor
