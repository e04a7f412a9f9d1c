import Derived.Test.YtbkfinjajkjhaabGreatDoorW12
set_option linter.unusedVariables false
set_option linter.unusedSimpArgs false
namespace Go.Proofs.YtbkfinjajkjhaabGreatDoor
open Go.RowKit
def digitsB (radix : Int) (l : List Nat) : Bool := l.all (fun c => decide ((dgt c : Int) < radix)) && decide (l ≠ [])
def ParsePost (w : World) (s : List Nat) (radix : Int) (e : Ending) (w' : World) : Prop :=
 ∃ x en, e = .returned (.tuple #[x, .int .i64 en]) /\ Below w.heap.size w w' /\
  ((¬ (2 <= radix /\ radix <= 36) /\ x = .agg #[.bool false, .slice none 0 0] /\ en = 1) \/
   ((2 <= radix /\ radix <= 36) /\ digitsB radix (cutS s).2 = false /\ x = .agg #[.bool false, .slice none 0 0] /\ en = 12) \/
   ((2 <= radix /\ radix <= 36) /\ digitsB radix (cutS s).2 = true /\ Ans w' x en (cutS s).1 (hv radix.toNat (cutS s).2)))
set_option maxHeartbeats 1000000 in
theorem parse_any (s : ByteArray) (radix : Int) (w : World) (hs : s.size <= maxLen) :
  Calls Tryz.prog 34 #[.string s, .int .i64 radix] w (ParsePost w (bs s) radix) := by
 by_cases hr : 2 <= radix /\ radix <= 36
 ·obtain ⟨hr1, hr2⟩ := hr
  obtain ⟨rx, rfl⟩ := Int.eq_ofNat_of_zero_le (by omega : 0 <= radix)
  have HC : Hid (∀ wx, Calls Tryz.prog 45 #[.int .i64 rx] wx fun e w' => e = .returned (.bool true) /\ w' = wx) := fun wx => (isRadix_any rx wx).mono fun e w' ⟨h1, h2⟩ => ⟨by rw [h1]; simp; omega, h2⟩
  go_enter Tryz.func34, Tryz.ntmps34
  go_wp2_with fail
  refine (HC.out _).mono ?_
  rintro e wx ⟨rfl, hwx⟩
  rw [hwx]
  clear hwx
  go_wp2_with fail
  refine (cutSign_any s _ hs).mono ?_
  rintro e w1 ⟨t, rfl, ht, hb1⟩
  have htl : t.size <= s.size := by rw [<- bs_length, <- bs_length, ht]; exact cutS_len _
  have X := hid ((Box.new 56 w false none 0 0).on hb1)
  have HB1 := hid (Bt (Ba w (.cells #[.bool false, .slice none 0 0] 56)) hb1)
  obtain ⟨ng, hng⟩ : ∃ ng, ng = (cutS (bs s)).1 := ⟨_, rfl⟩
  rw [<- hng]
  have HNG := hid hng
  have HT := hid ht
  have hts : t.size <= maxLen := Nat.le_trans htl hs
  obtain ⟨ad, had⟩ : ∃ ad, ad = ((bs t).all (fun c => decide (dgt c < rx)) && decide (bs t ≠ [])) := ⟨_, rfl⟩
  have HAD : Hid (digitsB (rx : Int) (cutS (bs s)).2 = ad) := by
   unfold Hid digitsB
   rw [had, <- ht]
   simp
  have HAC : Hid (∀ wx, Calls Tryz.prog 47 #[.string t, .int .i64 rx] wx fun e w' => e = .returned (.bool ad) /\ w' = wx) := fun wx => by rw [had]; exact allDigits_any t rx wx hts (by omega)
  have HAL : Hid (ad = true -> ∀ j, j < t.size -> dgt ((bs t).getD j 0) < rx) := by
   unfold Hid
   intro h j hj
   rw [had, Bool.and_eq_true, List.all_eq_true] at h
   have := h.1 _ (getD_mem (l := bs t) (k := j) (by rw [bs_length]; exact hj))
   simpa using this
  clear hng ht hb1 htl had
  go_wp2_with fail
  refine (HAC.out _).mono ?_
  rintro e wx2 ⟨rfl, hwx⟩
  rw [hwx]
  clear hwx
  obtain ⟨q0, q1⟩ := X.out.c
  obtain ⟨f0, f1⟩ := X.out.f
  cases ad
  ·go_wp2
   have y := X.out.set2 false none 0 0
   obtain ⟨y0, y1⟩ := y.c
   exact bodyPost_ret (v := .tuple #[.agg #[.bool false, .slice none 0 0], .int .i64 12]) (by simp [results, Tryz.results34, go_sem, y0, y1]) rfl ⟨_, _, rfl, (HB1.out.setCell (Nat.le_refl _) _).setCell (Nat.le_refl _) _, .inr (.inl ⟨⟨hr1, hr2⟩, HAD.out, rfl, rfl⟩)⟩
  ·clear q0 q1 f0 f1
   go_wp2_with fail
   refine (rowOf_any t rx w1 hts (by omega) (by omega) (HAL.out (by first | rfl | trivial))).mono ?_
   rintro e w2 ⟨hp, hb2⟩
   have X2 := hid (X.out.on hb2)
   have HB2 := hid (Bt HB1.out hb2)
   rw [HT.out] at hp
   rcases hp with ⟨hnb, ao, n, cap, r, rfl, hR, htr, hvr, hn⟩ | ⟨hbig, rfl⟩
   ·have HNB := hid hnb
    have HVR := hid hvr
    have HRR := hid hR
    clear hb2 hnb hvr hR htr
    go_wp2_with fail
    refine (whole_any ng ao n cap r w2 HRR.out).mono ?_
    rintro e w3 ⟨x, l, rfl, hI, htl, hvl, hll, hb3⟩
    obtain ⟨ax, nx, cx, sg, rfl, HSG, Rx⟩ := hI.open_
    have X3 := hid (X2.out.on hb3)
    obtain ⟨q0, q1⟩ := X3.out.c
    obtain ⟨f0, f1⟩ := X3.out.f
    have HB3 := hid (Bt HB2.out hb3)
    have HTL := hid htl
    have HVL := hid hvl
    have HRx := hid Rx
    clear hI htl hvl hb3 Rx
    go_wp2
    have y := X3.out.set2 sg ax nx cx
    obtain ⟨y0, y1⟩ := y.c
    refine bodyPost_ret (v := .tuple #[.agg #[.bool sg, .slice ax nx cx], .int .i64 0]) (by simp [results, Tryz.results34, go_sem, y0, y1]) rfl ⟨_, _, rfl, (HB3.out.setCell (Nat.le_refl _) _).setCell (Nat.le_refl _) _, .inr (.inr ⟨⟨hr1, hr2⟩, HAD.out, .inl ⟨?_, rfl, l, ⟨ax, nx, cx, ?_, HRx.out.setBox2 X3.out _ _⟩, HTL.out, ?_⟩⟩)⟩
    ·simpa using HNB.out
    ·rw [HSG.out, HNG.out]
    ·rw [HVL.out, HVR.out]; simp
   ·obtain ⟨q0, q1⟩ := X2.out.c
    obtain ⟨f0, f1⟩ := X2.out.f
    have HBG := hid hbig
    clear hb2 hbig
    go_wp2
    have y := X2.out.set2 false none 0 0
    obtain ⟨y0, y1⟩ := y.c
    refine bodyPost_ret (v := .tuple #[.agg #[.bool false, .slice none 0 0], .int .i64 10]) (by simp [results, Tryz.results34, go_sem, y0, y1]) rfl ⟨_, _, rfl, (HB2.out.setCell (Nat.le_refl _) _).setCell (Nat.le_refl _) _, .inr (.inr ⟨⟨hr1, hr2⟩, HAD.out, .inr ⟨?_, rfl, rfl⟩⟩)⟩
    simpa using HBG.out
 ·have HC : Hid (∀ wx, Calls Tryz.prog 45 #[.int .i64 radix] wx fun e w' => e = .returned (.bool false) /\ w' = wx) := fun wx => (isRadix_any radix wx).mono fun e w' ⟨h1, h2⟩ => ⟨by rw [h1]; simp; omega, h2⟩
  have HR := hid hr
  clear hr
  go_enter Tryz.func34, Tryz.ntmps34
  go_wp2_with (go_at_call 45; refine (HC.out _).mono ?_; rintro e wx ⟨rfl, hwx⟩; rw [hwx]; clear hwx)
  exact bodyPost_ret (v := .tuple #[.agg #[.bool false, .slice none 0 0], .int .i64 1]) (by simp [results, Tryz.results34, go_sem]) rfl ⟨_, _, rfl, Ba _ _, .inl ⟨HR.out, rfl, rfl⟩⟩
end Go.Proofs.YtbkfinjajkjhaabGreatDoor
