import Derived.Test.YtbkfinjajkjhaaaGreatDoorW11
set_option linter.unusedVariables false
set_option linter.unusedSimpArgs false
namespace Go.Proofs.YtbkfinjajkjhaaaGreatDoor
open Go.RowKit
def hv (radix : Nat) (l : List Nat) : Nat := l.foldl (fun a c => a * radix + dgt c) 0
theorem hv_snoc (radix : Nat) (l : List Nat) (c : Nat) : hv radix (l ++ [c]) = hv radix l * radix + dgt c := by simp [hv]
theorem hv_take_succ (radix : Nat) (l : List Nat) (k : Nat) (h : k < l.length) : hv radix (l.take (k + 1)) = hv radix (l.take k) * radix + dgt (l.getD k 0) := by
 rw [take_snoc l k h, hv_snoc]
theorem hv_mono (radix : Nat) (hr : 1 <= radix) (l : List Nat) : ∀ k j, k + j <= l.length -> hv radix (l.take k) <= hv radix (l.take (k + j))
 | k, 0, _ => Nat.le_refl _
 | k, j + 1, h => by
  have ih := hv_mono radix hr l k j (by omega)
  rw [<- Nat.add_assoc, hv_take_succ radix l (k + j) (by omega)]
  have : hv radix (l.take (k + j)) * 1 <= hv radix (l.take (k + j)) * radix := Nat.mul_le_mul_left _ hr
  omega
theorem tr_of_ge {B : Nat} {l l' : List Nat} (hB : 1 < B) (hl : l.length = l'.length) (ht : Tr l) (hd : Dg B l') (h : val B l <= val B l') : Tr l' := by
 by_cases h0 : l' = []
 ·exact .inl h0
 ·refine .inr fun hz => ?_
  have hn : 0 < l'.length := List.length_pos_iff.2 h0
  have h1 := ht.pos (B := B) (by omega) (by intro e; rw [e] at hl; simp at hl; omega)
  have e1 : val B l' = val B (l'.take (l'.length - 1)) := by
   have h2 := val_take_zero B l' (l'.length - 1) (by omega) hz
   rw [show l'.length - 1 + 1 = l'.length by omega, List.take_of_length_le (Nat.le_refl _)] at h2
   exact h2
  have h3 := val_lt (hd.take (l'.length - 1))
  rw [List.length_take, Nat.min_eq_left (by omega), <- e1, <- hl] at h3
  omega
theorem tr_snoc {l : List Nat} {c : Nat} (h : c ≠ 0) : Tr (l ++ [c]) := .inr (by rw [getD_append_at (by simp)]; exact h)
theorem big_of {l : List Nat} {c v : Nat} (hl : l.length = 40) (hc : c ≠ 0) (h : val B32 l + B32 ^ 40 * c = v) : Big v := by
 unfold Big
 have : B32 ^ 40 * 1 <= B32 ^ 40 * c := Nat.mul_le_mul_left _ (by omega)
 omega
def RowPost (w : World) (v : Nat) (e : Ending) (w' : World) : Prop :=
 ((¬ Big v /\ ∃ ao n cap r, e = .returned (.tuple #[.slice ao n cap, .bool true]) /\ Row .u32 B32 w' ao n cap r /\ Tr r /\ val B32 r = v /\ n <= 40) \/ (Big v /\ e = .returned (.tuple #[.slice none 0 0, .bool false]))) /\ Below w.heap.size w w'
set_option maxHeartbeats 2000000 in
theorem rowOf_any (s : ByteArray) (radix : Nat) (w : World) (hs : s.size <= maxLen) (hr1 : 2 <= radix) (hr2 : radix <= 36) (hd : ∀ j, j < s.size -> dgt ((bs s).getD j 0) < radix) :
  Calls Tryz.prog 106 #[.string s, .int .i64 radix] w (RowPost w (hv radix (bs s))) := by
 unfold maxLen at hs
 have HD := hid hd
 clear hd
 have hrb : radix < 4294967296 := by omega
 go_enter Tryz.func106, Tryz.ntmps106
 go_wp2
 go_loopw [6, 7, 8] (fun v i _ wr => ∃ k n : Nat, ∃ r : List Nat, k <= s.size /\ i = .int .i64 k /\ n <= 40 /\ Hid (wr.ownsRow w.heap.size 97 1 v n (cs .u32 r) /\ Dg B32 r /\ Tr r /\ val B32 r = hv radix ((bs s).take k) /\ Below w.heap.size w wr)) (fun _ i _ _ => s.size - (intOf i).toNat)
 case atStart => exact ⟨0, 0, [], Nat.zero_le _, rfl, by omega, World.ownsRow_nil _ _ _ _, Dg.nil _, Tr.nil, rfl, Below.refl _ _⟩
 case round =>
  obtain ⟨k, n, r, hk, rfl, hn, hI⟩ := hrel
  have hlr : r.length = n := by have := hI.out.1.1; rw [cs_length] at this; omega
  have HLR := hid hlr
  clear hlr
  by_cases hlt : k < s.size
  ·have hgk := bs_get s k hlt
   obtain ⟨d, hdd⟩ : ∃ d, d = dgt (s[k]'hlt).toNat := ⟨_, rfl⟩
   have hd36 : d <= 36 := by rw [hdd]; exact dgt_le _
   have HC : Hid (∀ wx, Calls Tryz.prog 132 #[.int .u8 ((s[k]'hlt).toNat : Nat)] wx fun e w' => e = .returned (.int .i64 d) /\ w' = wx) := fun wx => by rw [hdd]; exact digitOf_any _ (s[k]'hlt).toNat_lt wx
   have HV : Hid (hv radix ((bs s).take (k + 1)) = val B32 r * radix + d) := by
    unfold Hid; rw [hv_take_succ radix _ k (by rw [bs_length]; exact hlt), hgk, <- hdd, hI.out.2.2.2.1]
   clear hdd hgk
   have hsz : Hid (w.heap.size <= wr.heap.size) := hI.out.2.2.2.2.size
   by_cases hn0 : n = 0
   ·subst hn0
    have hrn : r = [] := List.length_eq_zero_iff.1 HLR.out
    subst hrn
    obtain ⟨ao, cap, hu, hO⟩ := own_of hI.out.1 hI.out.2.1
    subst hu
    have HB := hid hI.out.2.2.2.2
    have HOW := hid hI.out.1
    clear hO hI
    by_cases hd0 : d = 0
    ·subst hd0
     go_wp2_with (first | (go_at_call 132; refine (HC.out _).mono ?_; rintro e wx ⟨rfl, hwx⟩; rw [hwx]; clear hwx) | (go_at_call 133; refine (mulSmall_none ao cap radix 0 _ hrb (by decide)).mono ?_; rintro e wx ⟨rfl, hwx⟩; rw [hwx]; clear hwx))
     go_roundw
     case rel => exact ⟨k + 1, 0, [], by omega, by go_num, by omega, HOW.out, Dg.nil _, Tr.nil, by rw [HV.out]; simp [val], HB.out⟩
     case measure => simp [intOf]; omega
    ·have e0 : ((d : Int) == 0) = false := by simp; omega
     go_wp2_with (first | (go_at_call 132; refine (HC.out _).mono ?_; rintro e wx ⟨rfl, hwx⟩; rw [hwx]; clear hwx) | (go_at_call 133; refine (mulSmall_none ao cap radix d _ hrb (by unfold B32; omega)).mono ?_; rintro e wx ⟨rfl, hwx⟩; rw [hwx]; clear hwx) | (at_builtin; refine app1 rfl _ _ 53 rfl w.heap.size 97 .u32 4 (by decide) Tryz.underlying53 info_u32 _ 0 [] rfl (HOW.out.alloc _) ⟨wr.heap.size, 0, none⟩ 1 d rfl (cell_new _ _ _) (by omega) (by have := hsz.out; simp; omega) ?_; intro g cap' w2 hown hbel))
     refine ⟨⟨k + 1, 1, [d], by omega, by go_num, by omega, hown, Dg.one (by unfold B32; omega), tr_snoc (l := []) hd0, by rw [HV.out]; simp [val], (HB.out.alloc hsz.out _).trans hbel⟩, by simp [intOf]; omega⟩
   ·obtain ⟨g, cap, cur, hu, hg, hnc, hcm, hcs, hW⟩ := owns_win hI.out.1 (by omega)
    subst hu
    have hdgr := hI.out.2.1
    have htr := hI.out.2.2.1
    have HB := hid hI.out.2.2.2.2
    have HM : Hid (∀ wx, wx = wr -> Calls Tryz.prog 133 #[.slice (some ⟨g, 0, none⟩) n cap, .int .u32 radix, .int .u32 d] wx fun e w' => ∃ l' c, e = .returned (.int .u32 (c : Nat)) /\ Onto .u32 97 g 0 n wr w' cur l' /\ Dg B32 l' /\ c < B32 /\ val B32 l' + B32 ^ n * c = val B32 r * radix + d) := fun wx hwx => by
     subst hwx; exact mulSmall_any g 0 n cap cur r radix d _ hW hdgr (by unfold maxLen; omega) hrb (by unfold B32; omega)
    have HTR := hid htr
    have HG := hid hg
    have HX := hid (And.intro hnc (And.intro hcm hcs))
    have hcap2 : cap <= 9223372036854775807 := by unfold maxLen at hcm; omega
    clear hI hdgr htr hW hg hcm hcs
    go_wp2_with (go_at_call 132; refine (HC.out _).mono ?_; rintro e wx ⟨rfl, hwx⟩; rw [hwx]; clear hwx)
    refine (HM.out _ rfl).mono ?_
    rintro e w1 ⟨l', c, rfl, hO, hd', hcb, hval⟩
    have hlen' := hO.len
    have HOW := hid (owns_onto HG.out HX.out.1 HX.out.2.1 HX.out.2.2 hO)
    have HB1 := hid (HB.out.trans (hO.below HG.out))
    have HD' := hid hd'
    have HVAL := hid hval
    have HL' := hid hlen'
    have hsz1 : Hid (w.heap.size <= w1.heap.size) := HB1.out.size
    unfold B32 at hcb
    clear hO hd' hval hlen'
    by_cases hc0 : c = 0
    ·subst hc0
     have HTR' : Hid (Tr l') := by
      refine tr_of_ge (B := B32) (by decide) (by rw [HLR.out, HL'.out]) HTR.out HD'.out ?_
      have h1 := HVAL.out
      have h2 : val B32 r * 1 <= val B32 r * radix := Nat.mul_le_mul_left _ (by omega)
      simp at h1
      omega
     go_wp2
     go_roundw
     case rel => exact ⟨k + 1, n, l', by omega, by go_num, hn, HOW.out, HD'.out, HTR'.out, by rw [HV.out, <- HVAL.out]; simp, HB1.out⟩
     case measure => simp [intOf]; omega
    ·have e0 : ((c : Int) == 0) = false := by simp; omega
     by_cases hn40 : n = 40
     ·subst hn40
      have HBIG : Hid (Big (hv radix (bs s))) := by
       have h1 : Big (hv radix ((bs s).take (k + 1))) := by rw [HV.out]; exact big_of HL'.out hc0 HVAL.out
       have h2 := hv_mono radix (by omega) (bs s) (k + 1) (s.size - (k + 1)) (by rw [bs_length]; omega)
       rw [show k + 1 + (s.size - (k + 1)) = s.size by omega, List.take_of_length_le (l := bs s) (i := s.size) (by rw [bs_length]; exact Nat.le_refl _)] at h2
       unfold Hid Big at *
       omega
      go_wp2
      go_ret2
      exact ⟨.inr ⟨HBIG.out, rfl⟩, HB1.out⟩
     ·have e40 : ((n : Int) == 40) = false := by simp; omega
      go_wp2_with (at_builtin; refine app1 rfl _ _ 53 rfl w.heap.size 97 .u32 4 (by decide) Tryz.underlying53 info_u32 _ n l' rfl (HOW.out.alloc _) ⟨w1.heap.size, 0, none⟩ 1 c rfl (cell_new _ _ _) (by omega) (by have := hsz1.out; simp; omega) ?_; intro g2 cap2 w2 hown hbel)
      refine ⟨⟨k + 1, n + 1, l' ++ [c], by omega, by go_num, by omega, hown, HD'.out.append (Dg.one (by unfold B32; omega)), tr_snoc hc0, ?_, (HB1.out.alloc hsz1.out _).trans hbel⟩, by simp [intOf]; omega⟩
      rw [HV.out, <- HVAL.out, val_snoc, HL'.out]
  ·obtain rfl : k = s.size := by omega
   obtain ⟨ao, cap, hu, hO⟩ := own_of hI.out.1 hI.out.2.1
   subst hu
   have HO := hid hO
   clear hO
   go_wp2
   go_ret2
   obtain ⟨_, h2, h3, h4, h5⟩ := hI.out
   rw [List.take_of_length_le (by rw [bs_length]; exact Nat.le_refl _)] at h4
   exact ⟨.inl ⟨by rw [<- h4, <- small_len h2 h3, HLR.out]; exact hn, ao, n, cap, r, rfl, HO.out.row, h3, h4, hn⟩, h5⟩
def digitsB (radix : Int) (l : List Nat) : Bool := l.all (fun c => decide ((dgt c : Int) < radix)) && decide (l ≠ [])
def ParsePost (w : World) (s : List Nat) (radix : Int) (e : Ending) (w' : World) : Prop :=
 ∃ x en, e = .returned (.tuple #[x, .int .i64 en]) /\ Below w.heap.size w w' /\
  ((¬ (2 <= radix /\ radix <= 36) /\ x = .agg #[.bool false, .slice none 0 0] /\ en = 1) \/
   ((2 <= radix /\ radix <= 36) /\ digitsB radix (cutS s).2 = false /\ x = .agg #[.bool false, .slice none 0 0] /\ en = 12) \/
   ((2 <= radix /\ radix <= 36) /\ digitsB radix (cutS s).2 = true /\ Ans w' x en (cutS s).1 (hv radix.toNat (cutS s).2)))
set_option maxHeartbeats 1000000 in
theorem parse_any (s : ByteArray) (radix : Int) (w : World) (hs : s.size <= maxLen) :
  Calls Tryz.prog 87 #[.string s, .int .i64 radix] w (ParsePost w (bs s) radix) := by
 by_cases hr : 2 <= radix /\ radix <= 36
 ·obtain ⟨hr1, hr2⟩ := hr
  obtain ⟨rx, rfl⟩ := Int.eq_ofNat_of_zero_le (by omega : 0 <= radix)
  have HC : Hid (∀ wx, Calls Tryz.prog 103 #[.int .i64 rx] wx fun e w' => e = .returned (.bool true) /\ w' = wx) := fun wx => (isRadix_any rx wx).mono fun e w' ⟨h1, h2⟩ => ⟨by rw [h1]; simp; omega, h2⟩
  go_enter Tryz.func87, Tryz.ntmps87
  go_wp2_with fail
  refine (HC.out _).mono ?_
  rintro e wx ⟨rfl, hwx⟩
  rw [hwx]
  clear hwx
  go_wp2_with fail
  refine (cutSign_any s _ hs).mono ?_
  rintro e w1 ⟨t, rfl, ht, hb1⟩
  have htl : t.size <= s.size := by rw [<- bs_length, <- bs_length, ht]; exact cutS_len _
  have X := hid ((Box.new 55 w false none 0 0).on hb1)
  have HB1 := hid (Bt (Ba w (.cells #[.bool false, .slice none 0 0] 55)) hb1)
  obtain ⟨ng, hng⟩ : ∃ ng, ng = (cutS (bs s)).1 := ⟨_, rfl⟩
  rw [<- hng]
  have HNG := hid hng
  have HT := hid ht
  have hts : t.size <= maxLen := Nat.le_trans htl hs
  obtain ⟨ad, had⟩ : ∃ ad, ad = ((bs t).all (fun c => decide (dgt c < rx)) && decide (bs t ≠ [])) := ⟨_, rfl⟩
  have HAD : Hid (digitsB (rx : Int) (cutS (bs s)).2 = ad) := by
   unfold Hid digitsB
   rw [had, <- ht]
   simp
  have HAC : Hid (∀ wx, Calls Tryz.prog 105 #[.string t, .int .i64 rx] wx fun e w' => e = .returned (.bool ad) /\ w' = wx) := fun wx => by rw [had]; exact allDigits_any t rx wx hts (by omega)
  have HAL : Hid (ad = true -> ∀ j, j < t.size -> dgt ((bs t).getD j 0) < rx) := by
   unfold Hid
   intro h j hj
   rw [had, Bool.and_eq_true, List.all_eq_true] at h
   have := h.1 _ (getD_mem (l := bs t) (k := j) (by rw [bs_length]; exact hj))
   simpa using this
  clear hng ht hb1 htl had
  go_wp2_with fail
  refine (HAC.out _).mono ?_
  rintro e wx2 ⟨rfl, hwx⟩
  rw [hwx]
  clear hwx
  obtain ⟨q0, q1⟩ := X.out.c
  obtain ⟨f0, f1⟩ := X.out.f
  cases ad
  ·go_wp2
   have y := X.out.set2 false none 0 0
   obtain ⟨y0, y1⟩ := y.c
   exact bodyPost_ret (v := .tuple #[.agg #[.bool false, .slice none 0 0], .int .i64 12]) (by simp [results, Tryz.results87, go_sem, y0, y1]) rfl ⟨_, _, rfl, (HB1.out.setCell (Nat.le_refl _) _).setCell (Nat.le_refl _) _, .inr (.inl ⟨⟨hr1, hr2⟩, HAD.out, rfl, rfl⟩)⟩
  ·clear q0 q1 f0 f1
   go_wp2_with fail
   refine (rowOf_any t rx w1 hts (by omega) (by omega) (HAL.out (by first | rfl | trivial))).mono ?_
   rintro e w2 ⟨hp, hb2⟩
   have X2 := hid (X.out.on hb2)
   have HB2 := hid (Bt HB1.out hb2)
   rw [HT.out] at hp
   rcases hp with ⟨hnb, ao, n, cap, r, rfl, hR, htr, hvr, hn⟩ | ⟨hbig, rfl⟩
   ·have HNB := hid hnb
    have HVR := hid hvr
    have HRR := hid hR
    clear hb2 hnb hvr hR htr
    go_wp2_with fail
    refine (whole_any ng ao n cap r w2 HRR.out).mono ?_
    rintro e w3 ⟨x, l, rfl, hI, htl, hvl, hll, hb3⟩
    obtain ⟨ax, nx, cx, sg, rfl, HSG, Rx⟩ := hI.open_
    have X3 := hid (X2.out.on hb3)
    obtain ⟨q0, q1⟩ := X3.out.c
    obtain ⟨f0, f1⟩ := X3.out.f
    have HB3 := hid (Bt HB2.out hb3)
    have HTL := hid htl
    have HVL := hid hvl
    have HRx := hid Rx
    clear hI htl hvl hb3 Rx
    go_wp2
    have y := X3.out.set2 sg ax nx cx
    obtain ⟨y0, y1⟩ := y.c
    refine bodyPost_ret (v := .tuple #[.agg #[.bool sg, .slice ax nx cx], .int .i64 0]) (by simp [results, Tryz.results87, go_sem, y0, y1]) rfl ⟨_, _, rfl, (HB3.out.setCell (Nat.le_refl _) _).setCell (Nat.le_refl _) _, .inr (.inr ⟨⟨hr1, hr2⟩, HAD.out, .inl ⟨?_, rfl, l, ⟨ax, nx, cx, ?_, HRx.out.setBox2 X3.out _ _⟩, HTL.out, ?_⟩⟩)⟩
    ·simpa using HNB.out
    ·rw [HSG.out, HNG.out]
    ·rw [HVL.out, HVR.out]; simp
   ·obtain ⟨q0, q1⟩ := X2.out.c
    obtain ⟨f0, f1⟩ := X2.out.f
    have HBG := hid hbig
    clear hb2 hbig
    go_wp2
    have y := X2.out.set2 false none 0 0
    obtain ⟨y0, y1⟩ := y.c
    refine bodyPost_ret (v := .tuple #[.agg #[.bool false, .slice none 0 0], .int .i64 10]) (by simp [results, Tryz.results87, go_sem, y0, y1]) rfl ⟨_, _, rfl, (HB2.out.setCell (Nat.le_refl _) _).setCell (Nat.le_refl _) _, .inr (.inr ⟨⟨hr1, hr2⟩, HAD.out, .inr ⟨?_, rfl, rfl⟩⟩)⟩
    simpa using HBG.out
 ·have HC : Hid (∀ wx, Calls Tryz.prog 103 #[.int .i64 radix] wx fun e w' => e = .returned (.bool false) /\ w' = wx) := fun wx => (isRadix_any radix wx).mono fun e w' ⟨h1, h2⟩ => ⟨by rw [h1]; simp; omega, h2⟩
  have HR := hid hr
  clear hr
  go_enter Tryz.func87, Tryz.ntmps87
  go_wp2_with (go_at_call 103; refine (HC.out _).mono ?_; rintro e wx ⟨rfl, hwx⟩; rw [hwx]; clear hwx)
  exact bodyPost_ret (v := .tuple #[.agg #[.bool false, .slice none 0 0], .int .i64 1]) (by simp [results, Tryz.results87, go_sem]) rfl ⟨_, _, rfl, Ba _ _, .inl ⟨HR.out, rfl, rfl⟩⟩
end Go.Proofs.YtbkfinjajkjhaaaGreatDoor
