import Derived.Test.YticimejfjjmikaaGreatDoorW14
import Derived.Test.YticimejfjjmikaaGreatDoorW6
import Derived.Test.YticimejfjjmikaaGreatDoorX0
import Derived.Test.YticimejfjjmikaaGreatDoorW11
import Derived.Laws.Bits128
set_option linter.unusedVariables false
set_option linter.unusedSimpArgs false
namespace Go.Proofs.YticimejfjjmikaaGreatDoor
open Go.RowKit
def sgn (neg : Bool) (v : Nat) : Int := if neg then - (v : Int) else v
theorem map_toNat_inj : ∀ {a b : List UInt8}, a.map UInt8.toNat = b.map UInt8.toNat -> a = b
 | [], [], _ => rfl
 | [], _ :: _, h => by simp at h
 | _ :: _, [], h => by simp at h
 | x :: a, y :: b, h => by
  simp only [List.map_cons, List.cons.injEq] at h
  rw [UInt8.toNat_inj.1 h.1, map_toNat_inj h.2]
def RPrint (w : World) (neg : Bool) (v : Nat) (radix : Nat) (e : Ending) (w' : World) : Prop :=
 ∃ s D, e = .returned (.tuple #[.string s, .int .i64 0]) /\ Dg radix D /\ Tr D /\ val radix D = v /\ bs s = (if D = [] then [48] else (if neg then [45] else []) ++ (D.map chr).reverse) /\ Below w.heap.size w w'
theorem or_i64_8 (a d : Nat) (h1 : a < 36) (h2 : d < 256) : bits .or .i64 ((a : Int) * 256) (d : Int) = ((a * 256 + d : Nat) : Int) := by
 rw [show ((a : Int) * 256) = ((a * 256 : Nat) : Int) by omega]
 have h3 : (BitVec.ofInt 64 ((a * 256 : Nat) : Int)).toNat = a * 256 := by
  rw [BitVec.ofInt_natCast, BitVec.toNat_ofNat]; exact Nat.mod_eq_of_lt (by omega)
 have h4 : (BitVec.ofInt 64 ((d : Nat) : Int)).toNat = d := by
  rw [BitVec.ofInt_natCast, BitVec.toNat_ofNat]; exact Nat.mod_eq_of_lt (by omega)
 show IntKind.i64.wrap ((BitVec.ofInt 64 ((a * 256 : Nat) : Int) ||| BitVec.ofInt 64 (d : Int)).toNat : Int) = _
 rw [BitVec.toNat_or, h3, h4, nat_join 8 _ _ (by omega) (by omega), IntKind.wrap_i64]
 omega
theorem dt_slice (d : Nat) (h : d < 36) : bs (digitText.extract d (d + 1)) = [chr d] := by
 have : ∀ d : Fin 36, bs (digitText.extract d.1 (d.1 + 1)) = [chr d.1] := by decide
 exact this ⟨d, h⟩
theorem bs_append (s t : ByteArray) : bs (s ++ t) = bs s ++ bs t := by
 unfold bs; simp
theorem pow_bound8 {l : List Nat} (h : Dg 256 l) (hl : l.length <= 160) : ∃ N, N <= 1280 /\ val 256 l < 2 ^ N := by
 refine ⟨8 * l.length, by omega, ?_⟩
 have := val_lt h
 rw [show 256 = 2 ^ 8 from rfl, <- Nat.pow_mul] at this
 exact this
set_option maxRecDepth 100000 in
set_option maxHeartbeats 4000000 in
theorem rprint_any (neg : Bool) (ao : Option Addr) (n cap : Nat) (l : List Nat) (radix : Nat) (w : World) (R : Row .u32 B32 w ao n cap l) (hn40 : n <= 40) (hr1 : 2 <= radix) (hr2 : radix <= 36) :
  Calls Tryz.prog 81 #[.agg #[.bool neg, .slice ao n cap], .int .i64 radix] w (RPrint w neg (val B32 l) radix) := by
 have HR := hid R
 clear R
 have e1 : decide ((radix : Int) < 2) = false := by simp; omega
 have e2 : decide ((36 : Int) < radix) = false := by simp; omega
 go_enter Tryz.func81, Tryz.ntmps81
 go_wp2_with fail
 have X0 := Box.new 104 w neg ao n cap
 have hb0 := Ba w (.cells #[.bool neg, .slice ao n cap] 104)
 have hsz0 := size_alloc w (.cells #[.bool neg, .slice ao n cap] 104)
 generalize w.alloc (.cells #[.bool neg, .slice ao n cap] 104) = W0 at *
 refine (bytes_any neg ao n cap l W0 (HR.out.below hb0) (by omega)).mono ?_
 rintro e w1 ⟨m1, ao1, cap1, l1, rfl, hm1, hO1, ht1, hv1, b1⟩
 rw [hsz0] at hO1
 have X1 := hid (X0.on b1)
 have HB1 := hid (Bt hb0 b1)
 have HO1 := hid hO1
 have HT1 := hid ht1
 have HV1 := hid hv1
 clear X0 hb0 hsz0 hO1 ht1 hv1 b1
 obtain ⟨N, hN, hNv⟩ := pow_bound8 HO1.out.row.dg (by rw [HO1.out.row.len]; omega)
 have HNV := hid hNv
 clear hNv
 go_wp2
 go_loopg [6, 7, 8, 9] N (fun gk b s _ _ wr => ∃ m c : Nat, ∃ ad : Option Addr, ∃ r D : List Nat, ∃ S : ByteArray, b = .slice ad m c /\ s = .string S /\ m <= 160 /\ c <= maxLen /\ D.length + gk <= N /\ Hid (Own .u8 5 256 (w.heap.size + 1) wr ad m c r /\ Tr r /\ bs S = (D.map chr).reverse /\ Dg radix D /\ (r = [] -> Tr D) /\ val radix D + radix ^ D.length * val 256 r = val B32 l /\ Box 104 wr w.heap.size neg ao n cap /\ Below w.heap.size w wr /\ val 256 r < 2 ^ gk))
 case atStart =>
  exact ⟨m1, cap1, ao1, l1, [], ⟨#[]⟩, rfl, rfl, by omega, HO1.out.row.most, by simp, HO1.out, HT1.out, rfl, Dg.nil _, fun _ => Tr.nil, by simp [val]; exact HV1.out, X1.out, HB1.out, HNV.out⟩
 case round =>
  obtain ⟨m, c, ad, r, D, S, rfl, rfl, hm, hc, hDk, hI⟩ := hrel
  unfold maxLen at hc
  obtain ⟨i1, i2, i3, i4, i5, i6, i7, i8, i9⟩ := hI.out
  clear hI
  by_cases hm0 : m = 0
  ·subst hm0
   have hrn : r = [] := List.length_eq_zero_iff.1 i1.row.len
   subst hrn
   have HT := hid (i5 rfl)
   have HV : Hid (val radix D = val B32 l) := by have := i6; simp [val] at this; exact this
   have HDg := hid i4
   have HBS := hid i3
   have HBL := hid i8
   have HBX := hid i7
   obtain ⟨c0, c1⟩ := HBX.out.c
   clear i1 i2 i3 i4 i5 i6 i7 i8 i9
   by_cases hD : D = []
   ·subst hD
    have hem : S.toList.isEmpty = true := by rw [empty_iff]; have := HBS.out; rw [<- bs_length, this]; rfl
    go_wp2
    go_ret2
    exact ⟨_, [], rfl, Dg.nil _, Tr.nil, HV.out, by rw [if_pos rfl]; rfl, HBL.out⟩
   ·have hem : S.toList.isEmpty = false := by
     rw [empty_iff, <- bs_length, HBS.out]; simp [hD]
    cases neg
    ·go_wp2
     go_ret2
     exact ⟨S, D, rfl, HDg.out, HT.out, HV.out, by rw [HBS.out, if_neg hD]; rfl, HBL.out⟩
    ·have hSz : S.size <= 1280 := by rw [<- bs_length, HBS.out]; simp; omega
     have hcat : ¬ 9223372036854775807 < 1 + S.size := by omega
     go_wp2
     go_ret2
     exact ⟨_, D, rfl, HDg.out, HT.out, HV.out, by rw [if_neg hD, bs_append, HBS.out]; rfl, HBL.out⟩
  ·have e0 : decide ((0 : Int) < m) = true := by simp; omega
   obtain ⟨g, cur, hu, hg, hW⟩ := i1.own.resolve_left hm0
   subst hu
   have HG := hid hg
   have HW := hid hW
   have HDr := hid i1.row.dg
   have HLr := hid i1.row.len
   have hcf := i1.row.fits
   have I := hid (And.intro i2 (And.intro i3 (And.intro i4 (And.intro i6 (And.intro i7 (And.intro i8 i9))))))
   clear i1 i2 i3 i4 i5 i6 i7 i8 i9 hg hW
   obtain ⟨wo, hwo⟩ : ∃ wo : World, Hid (wo = wr) := ⟨_, rfl⟩
   go_wp2
   go_loopw [8, 9] (fun t i wx => ∃ j rr : Nat, ∃ q : List Nat, j <= m /\ i = .int .i64 ((j : Int) - 1) /\ t = .int .i64 rr /\ rr < radix /\ Hid (q.length = m - j /\ Dg 256 q /\ val 256 (r.drop j) = val 256 q * radix + rr /\ Onto .u8 5 g 0 m wo wx cur (r.take j ++ q))) (fun _ i _ => (intOf i + 1).toNat)
   case atStart => exact ⟨m, 0, [], Nat.le_refl _, rfl, rfl, by omega, by simp, Dg.nil _, by rw [List.drop_eq_nil_of_le (by rw [HLr.out]; omega)]; simp [val], by
    rw [List.take_of_length_le (by rw [HLr.out]; omega), List.append_nil, hwo.out]; exact HW.out.onto⟩
   case round =>
    obtain ⟨j, rr, q, hj, rfl, rfl, hrr, hH⟩ := hrel
    by_cases hz : j = 0
    ·subst hz
     obtain ⟨h1, h2, h3, h4⟩ := hH.out
     rw [List.take_zero, List.nil_append] at h4
     rw [List.drop_zero] at h3
     have HQL := hid h1
     have HQD := hid h2
     have HQV := hid h3
     have HQO := hid h4
     have HRow : Hid (Row .u8 256 wr (some ⟨g, 0, none⟩) m c q) := by
      obtain ⟨cur2, hW2, _, _⟩ := h4.row
      exact ⟨hW2.len, hcf, by unfold maxLen; omega, fun h => (by cases h), h2, hW2.rd⟩
     have hb' : Below (w.heap.size + 1) wo wr := h4.below HG.out
     have HBX := hid ((show Box 104 wo w.heap.size neg ao n cap by rw [hwo.out]; exact I.out.2.2.2.2.1).below hb' (Nat.lt_succ_self _))
     have HBL := hid ((show Below w.heap.size w wo by rw [hwo.out]; exact I.out.2.2.2.2.2.1).trans (hb'.mono (Nat.le_succ _)))
     have hszr : Hid (w.heap.size + 1 <= wr.heap.size) := HBX.out.lt
     clear h1 h2 h3 h4 hb' hH
     go_wp2_with fail
     refine (rtrim_any (some ⟨g, 0, none⟩) m c q wr HRow.out (by omega)).mono ?_
     rintro e w3 ⟨m', ao', cap', hm', rfl, hO', ht', hv', b3⟩
     have HO' := hid (hO'.base hszr.out)
     have HT' := hid ht'
     have HV' := hid hv'
     have HBX3 := hid (HBX.out.on b3)
     have HBL3 := hid (Bt HBL.out b3)
     have hdt := dt_slice rr (by omega)
     have HDT := hid hdt
     have hSz : S.size <= 1280 := by rw [<- bs_length, I.out.2.1]; simp; omega
     have hcat : ¬ 9223372036854775807 < min (rr + 1) 36 - rr + S.size := by omega
     clear hO' ht' hv' b3 hdt
     go_wp2
     have hne := I.out.1.ne_zero (B := 256) (by decide) (fun e => hm0 (by rw [<- HLr.out, e]; rfl))
     have hhalf := half_lt hr1 hne I.out.2.2.2.2.2.2
     have hvq : val 256 q = val 256 r / radix := by
      rw [HQV.out, Nat.mul_comm, Nat.mul_add_div (by omega), Nat.div_eq_of_lt hrr, Nat.add_zero]
     have hrq : rr = val 256 r % radix := by
      rw [HQV.out, Nat.mul_comm, Nat.mul_add_mod, Nat.mod_eq_of_lt hrr]
     go_roundg (gk - 1)
     case measure => have := hhalf.1; omega
     case rel =>
      refine ⟨m', cap', ao', q.take m', D ++ [rr], _, rfl, rfl, by omega, HO'.out.row.most, by simp; omega, HO'.out, HT'.out, ?_, I.out.2.2.1.append (Dg.one hrr), ?_, ?_, HBX3.out, HBL3.out, ?_⟩
      ·have h5 := HDT.out
       unfold digitText at h5
       rw [bs_append, h5, I.out.2.1]; simp
      ·intro hnil
       refine tr_snoc fun hd0 => ?_
       have h1 : val 256 q = 0 := by rw [<- HV'.out, hnil]; rfl
       have h2 := HQV.out
       rw [h1, hd0] at h2
       simp at h2
       exact hne h2
      ·rw [val_snoc, List.length_append, HV'.out, hvq]
       show val radix D + radix ^ D.length * rr + radix ^ (D.length + 1) * (val 256 r / radix) = _
       rw [Nat.pow_succ, hrq]
       exact print_val I.out.2.2.2.1
      ·rw [HV'.out, hvq]; exact hhalf.2
    ·obtain ⟨p, rfl⟩ : ∃ p, j = p + 1 := ⟨j - 1, by omega⟩
     obtain ⟨d, hd⟩ : ∃ d, d = r.getD p 0 := ⟨_, rfl⟩
     have hll : p < r.length := by rw [HLr.out]; omega
     have hdb : d < 256 := by rw [hd]; exact HDr.out.getD _ hll
     have hc : wr.cell? ⟨g, p, none⟩ = some (.int .u8 d) := by
      have := hH.out.2.2.2.cell (i := p) (by omega)
      rw [getD_append_left (by rw [List.length_take]; omega), getD_take (by omega), <- hd, Nat.zero_add] at this
      exact this
     have hf : wr.frozen? ⟨g, p, none⟩ = false := hH.out.2.2.2.frozen _
     have H1 := hid hd
     have HP := hid hll
     clear hd hll
     have hor := or_i64_8 rr d (by omega) hdb
     obtain ⟨t, ht⟩ : ∃ t, t = rr * 256 + d := ⟨_, rfl⟩
     rw [<- ht] at hor
     obtain ⟨Q, hQ⟩ : ∃ Q, Q = t / radix := ⟨_, rfl⟩
     have hQ2 : (t : Int).tdiv radix = (Q : Int) := by rw [hQ]; rfl
     have hR2 : (t : Int).tmod radix = ((t % radix : Nat) : Int) := rfl
     have hRv : t % radix < radix := Nat.mod_lt _ (by omega)
     have hQb : Q < 256 := by
      rw [hQ, Nat.div_lt_iff_lt_mul (by omega)]
      have : (rr + 1) * 256 <= radix * 256 := Nat.mul_le_mul_right _ hrr
      rw [Nat.add_mul] at this
      rw [Nat.mul_comm 256 radix]
      omega
     have HT := hid ht
     have HQ := hid hQ
     have htb : t < 10000 := by omega
     clear ht hQ
     go_wp2
     obtain ⟨h1, h2, h3, h4⟩ := hH.out
     refine ⟨⟨p, t % radix, Q :: q, by omega, rfl, rfl, hRv, ?_, ?_, ?_, ?_⟩, by simp [intOf] <;> omega⟩
     ·simp [h1]; omega
     ·exact fun x hx => by rcases List.mem_cons.1 hx with rfl | hx; exact hQb; exact h2 x hx
     ·rw [divStep (by omega) p r HP.out h3 hrr, <- H1.out, val_cons, <- HT.out, <- HQ.out]
     ·rw [<- set_take_append HP.out]
      have := h4.store (i := p) (by omega) Q
      rw [Nat.zero_add] at this
      exact this
theorem Tr.tail {a : Nat} {t : List Nat} (h : Tr (a :: t)) : Tr t := by
 cases t with
 | nil => exact .inl rfl
 | cons c t =>
  rcases h with h | h
  ·cases h
  ·refine .inr ?_
   simpa using h
theorem digits_unique {B : Nat} (hB : 1 < B) : ∀ {D D' : List Nat}, Dg B D -> Dg B D' -> Tr D -> Tr D' -> val B D = val B D' -> D = D'
 | [], [], _, _, _, _, _ => rfl
 | [], b :: t', _, _, _, h4, h => by
  have := h4.ne_zero (B := B) (by omega) (by simp)
  exact absurd h.symm this
 | a :: t, [], _, _, h3, _, h => by
  have := h3.ne_zero (B := B) (by omega) (by simp)
  exact absurd h this
 | a :: t, b :: t', h1, h2, h3, h4, h => by
  have ha : a < B := h1 a (by simp)
  have hb : b < B := h2 b (by simp)
  rw [val_cons, val_cons] at h
  have e1 : a = b := by
   have := congrArg (· % B) h
   simp only [Nat.add_mul_mod_self_left] at this
   rwa [Nat.mod_eq_of_lt ha, Nat.mod_eq_of_lt hb] at this
  subst e1
  have e2 : val B t = val B t' := Nat.eq_of_mul_eq_mul_left (show 0 < B by omega) (by omega)
  rw [digits_unique hB (fun x hx => h1 x (by simp [hx])) (fun x hx => h2 x (by simp [hx])) h3.tail h4.tail e2]
theorem bs_ext {s t : ByteArray} (h : bs s = bs t) : s = t := by
 cases s with | mk a => cases t with | mk b =>
 have : a.toList = b.toList := map_toNat_inj h
 rw [Array.toList_inj.1 this]
def Printed (neg : Bool) (v : Nat) (radix : Int) (s : ByteArray) (en : Int) : Prop :=
 (¬ (2 <= radix /\ radix <= 36) /\ bs s = [] /\ en = 1) \/
 ((2 <= radix /\ radix <= 36) /\ en = 0 /\ ∃ D, Dg radix.toNat D /\ Tr D /\ val radix.toNat D = v /\ bs s = (if D = [] then [48] else (if neg then [45] else []) ++ (D.map chr).reverse))
def PrPost (w : World) (neg : Bool) (v : Nat) (radix : Int) (e : Ending) (w' : World) : Prop := ∃ s en, e = .returned (.tuple #[.string s, .int .i64 en]) /\ Printed neg v radix s en /\ Below w.heap.size w w'
set_option maxHeartbeats 2000000 in
theorem print_all (neg : Bool) (ao : Option Addr) (n cap : Nat) (l : List Nat) (radix : Int) (w : World) (R : Row .u32 B32 w ao n cap l) (g1 : goodB neg l = true) :
  Calls Tryz.prog 160 #[.agg #[.bool neg, .slice ao n cap], .int .i64 radix] w (PrPost w neg (val B32 l) radix) := by
 by_cases hr : 2 <= radix /\ radix <= 36
 ·obtain ⟨rx, rfl⟩ := Int.eq_ofNat_of_zero_le (by omega : 0 <= radix)
  by_cases h0 : n = 0
  ·subst h0
   have HC : Hid (∀ wx, Calls Tryz.prog 183 #[.int .i64 rx] wx fun e w' => e = .returned (.bool true) /\ w' = wx) := fun wx => (isRadix_any rx wx).mono fun e w' ⟨h1, h2⟩ => ⟨by rw [h1]; simp; omega, h2⟩
   have hl : l = [] := List.length_eq_zero_iff.1 R.len
   subst hl
   have HR := hid R
   have G1 := hid g1
   have HRX := hid hr
   clear R g1 hr
   go_enter Tryz.func160, Tryz.ntmps160
   go_wp2_with fail
   refine (HC.out _).mono ?_
   rintro e wx ⟨rfl, hwx⟩
   rw [hwx]
   clear hwx
   go_wp2_with fail
   refine (good_any neg ao 0 cap [] _ (HR.out.below (Ba _ _))).mono ?_
   rintro e w1 ⟨rfl, hb1⟩
   rw [G1.out]
   have X1 := hid ((Box.new 104 w neg ao 0 cap).on hb1)
   have HB1 := hid (Bt (Ba w (.cells #[.bool neg, .slice ao 0 cap] 104)) hb1)
   obtain ⟨c0, c1⟩ := X1.out.c
   clear hb1
   go_wp2
   go_ret2
   exact ⟨_, _, rfl, .inr ⟨HRX.out, rfl, [], Dg.nil _, Tr.nil, rfl, by rw [if_pos rfl]; rfl⟩, HB1.out⟩
  ·refine (print_any neg ao n cap l rx w R g1 (by omega) (by omega) h0).mono fun e w' ⟨s, D, h1, h2, h3, h4, h5, h6⟩ => ⟨s, 0, h1, .inr ⟨hr, rfl, D, h2, h3, h4, ?_⟩, h6⟩
   have hD : D ≠ [] := by
    intro e
    subst e
    have := (goodB_tr g1).ne_zero (B := B32) (by decide) (fun e => h0 (by rw [<- R.len, e]; rfl))
    exact this h4.symm
   rw [h5, if_neg hD]
 ·have HC : Hid (∀ wx, Calls Tryz.prog 183 #[.int .i64 radix] wx fun e w' => e = .returned (.bool false) /\ w' = wx) := fun wx => (isRadix_any radix wx).mono fun e w' ⟨h1, h2⟩ => ⟨by rw [h1]; simp; omega, h2⟩
  have HR := hid hr
  clear hr R g1
  go_enter Tryz.func160, Tryz.ntmps160
  go_wp2_with (go_at_call 183; refine (HC.out _).mono ?_; rintro e wx ⟨rfl, hwx⟩; rw [hwx]; clear hwx)
  go_ret2
  exact ⟨_, _, rfl, .inl ⟨HR.out, rfl, rfl⟩, Ba _ _⟩
set_option maxHeartbeats 2000000 in
theorem rprint_all (neg : Bool) (ao : Option Addr) (n cap : Nat) (l : List Nat) (radix : Int) (w : World) (R : Row .u32 B32 w ao n cap l) (hn : n <= 40) :
  Calls Tryz.prog 81 #[.agg #[.bool neg, .slice ao n cap], .int .i64 radix] w (PrPost w neg (val B32 l) radix) := by
 by_cases hlo : radix < 2
 ·have e1 : decide (radix < 2) = true := by simp [hlo]
  have HN : Hid (¬ (2 <= radix /\ radix <= 36)) := fun h => by omega
  clear R
  go_enter Tryz.func81, Tryz.ntmps81
  go_wp2
  go_ret2
  exact ⟨_, _, rfl, .inl ⟨HN.out, rfl, rfl⟩, Ba _ _⟩
 by_cases hhi : 36 < radix
 ·have e1 : decide (radix < 2) = false := by simp; omega
  have e2 : decide (36 < radix) = true := by simp [hhi]
  have HN : Hid (¬ (2 <= radix /\ radix <= 36)) := fun h => by omega
  clear R
  go_enter Tryz.func81, Tryz.ntmps81
  go_wp2
  go_ret2
  exact ⟨_, _, rfl, .inl ⟨HN.out, rfl, rfl⟩, Ba _ _⟩
 obtain ⟨rx, rfl⟩ := Int.eq_ofNat_of_zero_le (by omega : 0 <= radix)
 exact (rprint_any neg ao n cap l rx w R hn (by omega) (by omega)).mono fun e w' ⟨s, D, h1, h2, h3, h4, h5, h6⟩ => ⟨s, 0, h1, .inr ⟨by omega, rfl, D, h2, h3, h4, h5⟩, h6⟩
structure Nd where
 kind : Int
 num : Int
 text : ByteArray
 kids : List Int
instance : Inhabited Nd := ⟨⟨0, 0, ByteArray.empty, []⟩⟩
def I64 (z : Int) : Prop := -9223372036854775808 <= z /\ z <= 9223372036854775807
structure IRow (w : World) (ao : Option Addr) (n cap : Nat) (l : List Int) : Prop where
 len : l.length = n
 fits : n <= cap
 most : cap <= maxLen
 nil_ : ao = none -> cap = 0
 bd : ∀ z ∈ l, I64 z
 rd : l = [] \/ ∃ b o, ao = some ⟨b, o, none⟩ /\ b < w.heap.size /\ ∀ i, i < l.length -> w.cell? ⟨b, o + i, none⟩ = some (.int .i64 (l.getD i 0))
theorem IRow.some {w : World} {ao : Option Addr} {n cap : Nat} {l : List Int} (h : IRow w ao n cap l) (hl : 0 < n) :
  ∃ b o, ao = some ⟨b, o, none⟩ /\ b < w.heap.size /\ ∀ i, i < n -> w.cell? ⟨b, o + i, none⟩ = some (.int .i64 (l.getD i 0)) := by
 rcases h.rd with e | h2
 ·have := h.len; simp [e] at this; omega
 ·rw [h.len] at h2; exact h2
theorem IRow.below {w w' : World} {ao : Option Addr} {n cap : Nat} {l : List Int} (h : IRow w ao n cap l) (hb : Below w.heap.size w w') : IRow w' ao n cap l := by
 refine ⟨h.len, h.fits, h.most, h.nil_, h.bd, ?_⟩
 rcases h.rd with e | ⟨b, o, e, hl, hc⟩
 ·exact .inl e
 ·exact .inr ⟨b, o, e, Nat.lt_of_lt_of_le hl hb.size, fun i hi => (hb.cell (p := ⟨b, o + i, none⟩) hl).trans (hc i hi)⟩
theorem IRow.nil (w : World) (ao : Option Addr) : IRow w ao 0 0 [] := ⟨rfl, Nat.le_refl _, Nat.zero_le _, fun _ => rfl, fun _ h => (by cases h), .inl rfl⟩
theorem IRow.get {w : World} {ao : Option Addr} {n cap : Nat} {l : List Int} (h : IRow w ao n cap l) {i : Nat} (hi : i < n) : I64 (l.getD i 0) := by
 have hi' : i < l.length := by rw [h.len]; exact hi
 rw [List.getD_eq_getElem?_getD, List.getElem?_eq_getElem hi']
 exact h.bd _ (List.getElem_mem hi')
def NdAt (w : World) (b o : Nat) (d : Nd) : Prop :=
 w.cell? ⟨b, o, none⟩ = some (.int .i64 d.kind) /\ w.cell? ⟨b, o + 1, none⟩ = some (.int .i64 d.num) /\ w.cell? ⟨b, o + 2, none⟩ = some (.string d.text) /\
  ∃ ao n cap, w.cell? ⟨b, o + 3, none⟩ = some (.slice ao n cap) /\ IRow w ao n cap d.kids
theorem NdAt.below {w w' : World} {b o : Nat} {d : Nd} (h : NdAt w b o d) (hl : b < w.heap.size) (hb : Below w.heap.size w w') : NdAt w' b o d := by
 obtain ⟨h1, h2, h3, ao, n, cap, h4, h5⟩ := h
 exact ⟨(hb.cell (p := ⟨b, o, none⟩) hl).trans h1, (hb.cell (p := ⟨b, o + 1, none⟩) hl).trans h2, (hb.cell (p := ⟨b, o + 2, none⟩) hl).trans h3, ao, n, cap, (hb.cell (p := ⟨b, o + 3, none⟩) hl).trans h4, h5.below hb⟩
def NdOk (d : Nd) : Prop := I64 d.kind /\ I64 d.num /\ d.text.size <= maxLen
structure NRow (w : World) (ao : Option Addr) (n cap : Nat) (l : List Nd) : Prop where
 len : l.length = n
 fits : n <= cap
 most : cap <= maxLen
 nil_ : ao = none -> cap = 0
 ok : ∀ d ∈ l, NdOk d
 rd : l = [] \/ ∃ b o, ao = some ⟨b, o, none⟩ /\ b < w.heap.size /\ ∀ i, i < l.length -> NdAt w b (o + i * 4) (l.getD i default)
theorem NRow.some {w : World} {ao : Option Addr} {n cap : Nat} {l : List Nd} (h : NRow w ao n cap l) (hl : 0 < n) :
  ∃ b o, ao = some ⟨b, o, none⟩ /\ b < w.heap.size /\ ∀ i, i < n -> NdAt w b (o + i * 4) (l.getD i default) := by
 rcases h.rd with e | h2
 ·have := h.len; simp [e] at this; omega
 ·rw [h.len] at h2; exact h2
theorem NRow.below {w w' : World} {ao : Option Addr} {n cap : Nat} {l : List Nd} (h : NRow w ao n cap l) (hb : Below w.heap.size w w') : NRow w' ao n cap l := by
 refine ⟨h.len, h.fits, h.most, h.nil_, h.ok, ?_⟩
 rcases h.rd with e | ⟨b, o, e, hl, hc⟩
 ·exact .inl e
 ·exact .inr ⟨b, o, e, Nat.lt_of_lt_of_le hl hb.size, fun i hi => (hc i hi).below hl hb⟩
theorem NRow.get {w : World} {ao : Option Addr} {n cap : Nat} {l : List Nd} (h : NRow w ao n cap l) {i : Nat} (hi : i < n) : NdOk (l.getD i default) := by
 have hi' : i < l.length := by rw [h.len]; exact hi
 rw [List.getD_eq_getElem?_getD, List.getElem?_eq_getElem hi']
 exact h.ok _ (List.getElem_mem hi')
theorem NRow.nil (w : World) (ao : Option Addr) : NRow w ao 0 0 [] := ⟨rfl, Nat.le_refl _, Nat.zero_le _, fun _ => rfl, fun _ h => (by cases h), .inl rfl⟩
def GVal (an : Option Addr) (nn cn : Nat) (ar : Option Addr) (nr cr : Nat) : Value := .agg #[.slice an nn cn, .slice ar nr cr]
structure GIs (w : World) (an : Option Addr) (nn cn : Nat) (ar : Option Addr) (nr cr : Nat) (ns : List Nd) (rs : List Int) : Prop where
 nodes : NRow w an nn cn ns
 roots : IRow w ar nr cr rs
theorem GIs.below {w w' : World} {an ar : Option Addr} {nn cn nr cr : Nat} {ns : List Nd} {rs : List Int} (h : GIs w an nn cn ar nr cr ns rs) (hb : Below w.heap.size w w') : GIs w' an nn cn ar nr cr ns rs := ⟨h.nodes.below hb, h.roots.below hb⟩
def GBox (t : TypeId) (w : World) (p : Nat) (an : Option Addr) (nn cn : Nat) (ar : Option Addr) (nr cr : Nat) : Prop := w.heap[p]? = some (.cells #[.slice an nn cn, .slice ar nr cr] t (0, 0))
theorem GBox.lt {t : TypeId} {w : World} {p : Nat} {an ar : Option Addr} {nn cn nr cr : Nat} (h : GBox t w p an nn cn ar nr cr) : p < w.heap.size := (Array.getElem?_eq_some_iff.1 h).1
theorem GBox.on {t : TypeId} {w w' : World} {p : Nat} {an ar : Option Addr} {nn cn nr cr : Nat} (h : GBox t w p an nn cn ar nr cr) (hb : Below w.heap.size w w') : GBox t w' p an nn cn ar nr cr := (hb.block p h.lt).trans h
theorem GBox.c {t : TypeId} {w : World} {p : Nat} {an ar : Option Addr} {nn cn nr cr : Nat} (h : GBox t w p an nn cn ar nr cr) : w.cell? ⟨p, 0, none⟩ = some (.slice an nn cn) /\ w.cell? ⟨p, 1, none⟩ = some (.slice ar nr cr) := ⟨blk_cell h 0, blk_cell h 1⟩
theorem GBox.new (t : TypeId) (w : World) (an ar : Option Addr) (nn cn nr cr : Nat) : GBox t (w.alloc (.cells #[.slice an nn cn, .slice ar nr cr] t)) w.heap.size an nn cn ar nr cr := blk_new _ _ _
def fixB (z : Int) : Bool := decide (-1152921504606846976 <= z) && decide (z < 1152921504606846976)
def nK (x : Int) : Int := (ofR x).1
def nN (x : Int) : Int := (ofR x).2.1
def limbB (x : Int) : Bool := decide (nK x = 1) && (decide (0 <= nN x) && decide (nN x < 4294967296))
def numNeg (l : List Int) : Bool := decide (nN (l.getD 0 0) = 1)
def numMag (l : List Int) : List Nat := (l.drop 1).map (fun y => (nN y).toNat)
def bigB (l : List Int) : Bool := decide (0 < l.length) && (l.all limbB && (decide (nN (l.getD 0 0) <= 1) && (goodB (numNeg l) (numMag l) && !fixB (sgn (numNeg l) (val B32 (numMag l))))))
def byB (x : Int) : Bool := decide (nK x = 1) && (decide (0 <= nN x) && decide (nN x <= 255))
def lrB (x : Int) : Bool := decide (nK x = 4)
def byT (l : List Int) : List Nat := l.map (fun x => (nN x).toNat)
def lrT (l : List Int) : List Nat := l.flatMap (fun x => bs (Utf8.encode (nN x)))
def voidN : Nd := ⟨11, 0, ByteArray.empty, []⟩
theorem and_255n (t : Nat) (h : t < 9223372036854775808) : bits .and .i64 (t : Int) 255 = ((t % 256 : Nat) : Int) := by
 have h1 : (BitVec.ofInt 64 (t : Int)).toNat = t := by
  rw [BitVec.ofInt_natCast, BitVec.toNat_ofNat]; exact Nat.mod_eq_of_lt (by omega)
 show IntKind.i64.wrap ((BitVec.ofInt 64 (t : Int) &&& BitVec.ofInt 64 255).toNat : Int) = _
 rw [BitVec.toNat_and, h1]
 have h2 : (BitVec.ofInt 64 255).toNat = 2 ^ 8 - 1 := by decide
 rw [h2, Nat.and_two_pow_sub_one_eq_mod, IntKind.wrap_i64]
 omega
def dgi (c : Nat) : Int := if dgt c = 36 then -1 else (dgt c : Int)
set_option maxHeartbeats 800000 in
theorem rdigit_any (c : Nat) (hc : c < 256) (w : World) :
  Calls Tryz.prog 137 #[.int .u8 c] w fun e w' => e = .returned (.int .i64 (dgi c)) /\ w' = w := by
 by_cases a1 : 48 <= c /\ c <= 57
 ·obtain ⟨a, b⟩ := a1
  have HV : Hid (dgi c = (c : Int) - 48) := by
   have : dgt c = c - 48 := by unfold dgt; rw [if_pos ⟨a, b⟩]
   unfold Hid dgi; rw [this, if_neg (by omega)]; omega
  go_enter Tryz.func137, Tryz.ntmps137
  go_wp2
  go_ret
  exact ⟨ret_i64 (by rw [HV.out] <;> omega), rfl⟩
 ·by_cases a2 : 97 <= c /\ c <= 122
  ·obtain ⟨a, b⟩ := a2
   have HV : Hid (dgi c = (c : Int) - 87) := by
    have : dgt c = c - 87 := by unfold dgt; rw [if_neg a1, if_pos ⟨a, b⟩]
    unfold Hid dgi; rw [this, if_neg (by omega)]; omega
   clear a1
   go_enter Tryz.func137, Tryz.ntmps137
   go_wp2
   go_ret
   exact ⟨ret_i64 (by rw [HV.out] <;> omega), rfl⟩
  ·by_cases a3 : 65 <= c /\ c <= 90
   ·obtain ⟨a, b⟩ := a3
    have HV : Hid (dgi c = (c : Int) - 55) := by
     have : dgt c = c - 55 := by unfold dgt; rw [if_neg a1, if_neg a2, if_pos ⟨a, b⟩]
     unfold Hid dgi; rw [this, if_neg (by omega)]; omega
    clear a1 a2
    go_enter Tryz.func137, Tryz.ntmps137
    go_wp2
    go_ret
    exact ⟨ret_i64 (by rw [HV.out] <;> omega), rfl⟩
   ·have HV : Hid (dgi c = -1) := by
     have : dgt c = 36 := by unfold dgt; rw [if_neg a1, if_neg a2, if_neg a3]
     unfold Hid dgi; rw [this, if_pos rfl]
    have hr : c < 48 \/ (57 < c /\ c < 65) \/ (90 < c /\ c < 97) \/ 122 < c := by omega
    clear a1 a2 a3
    rcases hr with h | ⟨h, h'⟩ | ⟨h, h'⟩ | h
    all_goals
     go_enter Tryz.func137, Tryz.ntmps137
     go_wp2
     go_ret
     exact ⟨ret_i64 (by rw [HV.out]), rfl⟩
theorem cutS_sign {l : List Nat} {c : Nat} {r : List Nat} (h : l = c :: r) (hc : c = 43 \/ c = 45) : cutS l = (decide (c = 45), r) := by
 subst h; simp [cutS, hc]
theorem cutS_plain {l : List Nat} {c : Nat} {r : List Nat} (h : l = c :: r) (hc : ¬ (c = 43 \/ c = 45)) : cutS l = (false, c :: r) := by
 subst h; simp [cutS, hc]
theorem digitsB_of {rx : Nat} {l : List Nat} (h0 : 0 < l.length) (h : ∀ j, j < l.length -> dgt (l.getD j 0) < rx) : digitsB (rx : Int) l = true := by
 unfold digitsB
 rw [Bool.and_eq_true]
 refine ⟨?_, by simp; intro e; rw [e] at h0; simp at h0⟩
 rw [List.all_eq_true]
 intro x hx
 obtain ⟨j, hj, rfl⟩ := List.mem_iff_getElem.1 hx
 have := h j hj
 rw [List.getD_eq_getElem?_getD, List.getElem?_eq_getElem hj] at this
 simpa using this
theorem digitsB_not {rx : Nat} {l : List Nat} {j : Nat} (hj : j < l.length) (h : rx <= dgt (l.getD j 0)) : digitsB (rx : Int) l = false := by
 unfold digitsB
 rw [Bool.and_eq_false_iff]
 left
 rw [List.all_eq_false]
 exact ⟨l.getD j 0, getD_mem hj, by simp; rw [<- List.getD_eq_getElem?_getD]; omega⟩
theorem digitsB_nil {rx : Int} : digitsB rx [] = false := by simp [digitsB]
theorem getD_drop' (l : List Nat) (a j : Nat) : (l.drop a).getD j 0 = l.getD (a + j) 0 := by
 rw [List.getD_eq_getElem?_getD, List.getElem?_drop, <- List.getD_eq_getElem?_getD]
end Go.Proofs.YticimejfjjmikaaGreatDoor
