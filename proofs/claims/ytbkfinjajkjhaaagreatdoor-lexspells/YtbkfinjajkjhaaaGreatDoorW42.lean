import Derived.Test.YtbkfinjajkjhaaaGreatDoorLM1
import Derived.Test.YtbkfinjajkjhaaaGreatDoorW5
set_option linter.unusedVariables false
set_option linter.unusedSimpArgs false
namespace Go.Proofs.YtbkfinjajkjhaaaGreatDoor
open Go.RowKit
def sgn (neg : Bool) (v : Nat) : Int := if neg then - (v : Int) else v
def IsInt (w : World) (x : Value) (z : Int) : Prop := ∃ s l, IntIs w x s l /\ goodB s l = true /\ z = sgn s (val B32 l)
theorem IsInt.below {w w' : World} {x : Value} {z : Int} (h : IsInt w x z) (hb : Below w.heap.size w w') : IsInt w' x z := by
 obtain ⟨s, l, h1, h2, h3⟩ := h
 exact ⟨s, l, h1.below hb, h2, h3⟩
theorem good_of {neg : Bool} {l : List Nat} (ht : Tr l) (hl : l.length <= 40) : goodB (neg && decide (l ≠ [])) l = true := by
 refine goodB_mk ht hl fun h => ?_
 rw [List.length_eq_zero_iff.1 h]; simp
theorem sgn_of {neg : Bool} {l : List Nat} (ht : Tr l) : sgn (neg && decide (l ≠ [])) (val B32 l) = sgn neg (val B32 l) := by
 by_cases h : l = []
 ·subst h; cases neg <;> simp [sgn, val]
 ·simp [h]
theorem is_mk {w : World} {x : Value} {neg : Bool} {l : List Nat} (hI : IntIs w x (neg && decide (l ≠ [])) l) (ht : Tr l) (hb : ¬ Big (val B32 l)) : IsInt w x (sgn neg (val B32 l)) := by
 obtain ⟨ao, n, cap, rfl, R⟩ := hI
 exact ⟨_, l, ⟨ao, n, cap, rfl, R⟩, good_of ht ((small_len R.dg ht).2 hb), (sgn_of ht).symm⟩
theorem IsInt.open_ {w : World} {x : Value} {z : Int} (h : IsInt w x z) : ∃ s ao n cap l, x = .agg #[.bool s, .slice ao n cap] /\ Row .u32 B32 w ao n cap l /\ goodB s l = true /\ z = sgn s (val B32 l) := by
 obtain ⟨s, l, ⟨ao, n, cap, h1, h2⟩, h3, h4⟩ := h
 exact ⟨s, ao, n, cap, l, h1, h2, h3, h4⟩
theorem rfrom_is (n : Int) (w : World) (h1 : -9223372036854775808 <= n) (h2 : n <= 9223372036854775807) :
  Calls Tryz.prog 32 #[.int .i64 n] w fun e w' => ∃ x, e = .returned x /\ IsInt w' x n /\ Below w.heap.size w w' := by
 refine (rfrom_any n w h1 h2).mono ?_
 rintro e w' ⟨x, l, rfl, hI, ht, hv, hb⟩
 have h3 := is_mk hI ht (by rw [hv]; exact not_big_64 _ (by omega))
 refine ⟨x, rfl, ?_, hb⟩
 have : sgn (decide (n < 0)) (val B32 l) = n := by
  rw [hv]; unfold sgn
  by_cases h : n < 0 <;> simp [h] <;> omega
 rw [this] at h3
 exact h3
theorem zero_is (w : World) : IsInt w (.agg #[.bool false, .slice none 0 0]) 0 := ⟨false, [], ⟨none, 0, 0, rfl, Row.nil _ _ _ _⟩, rfl, rfl⟩
theorem map_toNat_inj : ∀ {a b : List UInt8}, a.map UInt8.toNat = b.map UInt8.toNat -> a = b
 | [], [], _ => rfl
 | [], _ :: _, h => by simp at h
 | _ :: _, [], h => by simp at h
 | x :: a, y :: b, h => by
  simp only [List.map_cons, List.cons.injEq] at h
  rw [UInt8.toNat_inj.1 h.1, map_toNat_inj h.2]
theorem or_u64_0 (d : Nat) (h : d < 4294967296) : bits .or .u64 0 (d : Int) = ((d : Nat) : Int) := by
 have := u64_or_nat 0 d (by omega) (by omega)
 rw [Nat.zero_or] at this; exact this
theorem or_u64_32 (a d : Nat) (h1 : a < 4294967296) (h2 : d < 4294967296) : bits .or .u64 (a : Int) ((d : Int) * 4294967296) = ((a + 4294967296 * d : Nat) : Int) := by
 rw [show ((d : Int) * 4294967296) = ((d * 4294967296 : Nat) : Int) by omega, u64_or_nat _ _ (by omega) (by omega), Nat.or_comm, nat_join 32 _ _ (by omega) (by omega)]; omega
def fits (z : Int) : Bool := decide (-9223372036854775808 <= z /\ z <= 9223372036854775807)
theorem long_not_fits {s : Bool} {l : List Nat} (hg : goodB s l = true) (h : 2 < l.length) : fits (sgn s (val B32 l)) = false := by
 have h1 := (goodB_tr hg).pos (B := B32) (by decide) (by intro e; simp [e] at h)
 have h2 : B32 ^ 2 <= B32 ^ (l.length - 1) := Nat.pow_le_pow_right (by decide) (by omega)
 have h3 : B32 ^ 2 = 18446744073709551616 := by decide
 unfold fits sgn
 cases s <;> simp <;> omega
theorem short_lt {l : List Nat} (hd : Dg B32 l) (h : l.length <= 2) : val B32 l <= 18446744073709551615 := by
 have h1 := val_lt hd
 have h2 : B32 ^ l.length <= B32 ^ 2 := Nat.pow_le_pow_right (by decide) h
 have h3 : B32 ^ 2 = 18446744073709551616 := by decide
 omega
def ToPost (w : World) (z : Int) (e : Ending) (w' : World) : Prop := ∃ v, e = .returned (.tuple #[.int .i64 v, .bool (fits z)]) /\ (fits z = true -> v = z) /\ Below w.heap.size w w'
theorem toPost_no {w w' : World} {z v : Int} (hf : fits z = false) (hb : Below w.heap.size w w') : ToPost w z (.returned (.tuple #[.int .i64 v, .bool false])) w' :=
 ⟨v, by rw [hf], fun h => (by rw [hf] at h; cases h), hb⟩
theorem toPost_yes {w w' : World} {z v : Int} (hf : fits z = true) (hv : v = z) (hb : Below w.heap.size w w') : ToPost w z (.returned (.tuple #[.int .i64 v, .bool true])) w' :=
 ⟨v, by rw [hf], fun _ => hv, hb⟩
theorem wrap_negneg (a : Nat) (h : a <= 9223372036854775808) : wrap64 (-(wrap64 (a : Int))) = -(a : Int) := by
 unfold wrap64; omega
set_option maxRecDepth 100000 in
set_option maxHeartbeats 1000000 in
theorem rto_any (neg : Bool) (ao : Option Addr) (n cap : Nat) (l : List Nat) (w : World) (R : Row .u32 B32 w ao n cap l) (g : goodB neg l = true) :
  Calls Tryz.prog 114 #[.agg #[.bool neg, .slice ao n cap]] w (ToPost w (sgn neg (val B32 l))) := by
 have hmx := R.most
 have hft := R.fits
 unfold maxLen at hmx
 have G := hid g
 have HL := hid R.len
 have HR := hid R
 clear R g
 by_cases h2 : 2 < n
 ·have e2 : decide ((2 : Int) < n) = true := by simp; omega
  have HF := hid (long_not_fits G.out (by rw [HL.out]; exact h2))
  go_enter Tryz.func114, Tryz.ntmps114
  go_wp2
  go_ret2
  exact toPost_no HF.out (Ba _ _)
 ·have e2 : decide ((2 : Int) < n) = false := by simp; omega
  have hV := short_lt HR.out.dg (by rw [HL.out]; omega)
  obtain ⟨V, hVV⟩ : ∃ V, V = val B32 l := ⟨_, rfl⟩
  rw [<- hVV] at hV
  have HV := hid hVV
  clear hVV
  go_enter Tryz.func114, Tryz.ntmps114
  go_wp2
  have X := Box.new 55 w neg ao n cap
  have bW := Ba w (.cells #[.bool neg, .slice ao n cap] 55)
  generalize hW : w.alloc (.cells #[.bool neg, .slice ao n cap] 55) = W at *
  have R1 := hid (HR.out.below bW)
  have HB := hid bW
  obtain ⟨c0, c1⟩ := X.c
  clear hW bW X HR
  go_loop [4, 5] (fun m i => ∃ k a : Nat, k <= n /\ i = .int .i64 k /\ m = .int .u64 a /\ Hid (a = val B32 (l.take k))) (fun _ i => n - (intOf i).toNat)
  case atStart => exact ⟨0, 0, Nat.zero_le _, rfl, rfl, by simp [Hid, val]⟩
  case round =>
   obtain ⟨k, a, hk, rfl, rfl, ha⟩ := hrel
   by_cases hlt : k < n
   ·obtain ⟨b, o, rfl, hl, hc⟩ := R1.out.rd.some (by rw [HL.out]; omega)
    have hck := hc k (by rw [HL.out]; exact hlt)
    obtain ⟨d, hd⟩ : ∃ d, d = l.getD k 0 := ⟨_, rfl⟩
    rw [<- hd] at hck
    have hdb : d < 4294967296 := by rw [hd]; exact R1.out.dg.getD _ (by rw [HL.out]; exact hlt)
    have HS : Hid (val B32 (l.take (k + 1)) = a + B32 ^ k * d) := by
     unfold Hid; rw [val_take_succ B32 l k (by rw [HL.out]; exact hlt), <- ha.out, <- hd]
    clear hd hc
    have hk2 : k = 0 \/ k = 1 := by omega
    rcases hk2 with rfl | rfl
    ·obtain rfl : a = 0 := by have := ha.out; simpa [val] using this
     have hor := or_u64_0 d hdb
     simp only [Nat.add_zero] at hck
     go_wp2
     go_round
     case rel => exact ⟨1, d, by omega, rfl, rfl, by unfold Hid; rw [HS.out]; simp⟩
     case measure => simp [intOf]; omega
    ·have hab : a < 4294967296 := by
      have h1 := ha.out
      have h2 := val_lt (R1.out.dg.take 1)
      have h3 : B32 ^ (l.take 1).length <= B32 ^ 1 := Nat.pow_le_pow_right (by decide) (by rw [List.length_take]; omega)
      have h4 : B32 ^ 1 = 4294967296 := by decide
      omega
     have hor := or_u64_32 a d hab hdb
     obtain ⟨A, hA⟩ : ∃ A, A = a + 4294967296 * d := ⟨_, rfl⟩
     rw [<- hA] at hor
     have HA := hid hA
     clear hA
     go_wp2
     go_round
     case rel => exact ⟨2, A, by omega, rfl, rfl, by unfold Hid; rw [HS.out, HA.out]; simp [B32]⟩
     case measure => simp [intOf]; omega
   ·have haV : a = V := by rw [ha.out, HV.out, List.take_of_length_le (by rw [HL.out]; omega)]
    subst haV
    clear ha
    cases neg
    ·by_cases hf : a <= 9223372036854775807
     ·have HF : Hid (fits (sgn false a) = true) := by unfold Hid fits sgn; simp; omega
      have ec : decide ((9223372036854775808 : Int) <= a) = false := by rw [decide_eq_false_iff_not]; omega
      go_wp2
      go_ret2
      rw [<- HV.out]
      exact toPost_yes HF.out (by simp [sgn]) HB.out
     ·have HF : Hid (fits (sgn false a) = false) := by unfold Hid fits sgn; simp; omega
      have ec : decide ((9223372036854775808 : Int) <= a) = true := by rw [decide_eq_true_eq]; omega
      go_wp2
      go_ret2
      rw [<- HV.out]
      exact toPost_no HF.out HB.out
    ·by_cases hf : a <= 9223372036854775808
     ·have HF : Hid (fits (sgn true a) = true) := by unfold Hid fits sgn; simp; omega
      have ec : decide ((a : Int) <= 9223372036854775808) = true := by rw [decide_eq_true_eq]; omega
      go_wp2
      go_ret2
      rw [<- HV.out]
      exact toPost_yes HF.out ((wrap_negneg a hf).trans (by simp [sgn])) HB.out
     ·have HF : Hid (fits (sgn true a) = false) := by unfold Hid fits sgn; simp; omega
      have ec : decide ((a : Int) <= 9223372036854775808) = false := by rw [decide_eq_false_iff_not]; omega
      go_wp2
      go_ret2
      rw [<- HV.out]
      exact toPost_no HF.out HB.out
theorem rto_is (x : Value) (z : Int) (w : World) (h : IsInt w x z) : Calls Tryz.prog 114 #[x] w (ToPost w z) := by
 obtain ⟨s, ao, n, cap, l, rfl, R, g, rfl⟩ := h.open_
 exact rto_any s ao n cap l w R g
def RPrint (w : World) (neg : Bool) (v : Nat) (radix : Nat) (e : Ending) (w' : World) : Prop :=
 ∃ s D, e = .returned (.tuple #[.string s, .int .i64 0]) /\ Dg radix D /\ Tr D /\ val radix D = v /\ bs s = (if D = [] then [48] else (if neg then [45] else []) ++ (D.map chr).reverse) /\ Below w.heap.size w w'
theorem or_i64_8 (a d : Nat) (h1 : a < 36) (h2 : d < 256) : bits .or .i64 ((a : Int) * 256) (d : Int) = ((a * 256 + d : Nat) : Int) := by
 rw [show ((a : Int) * 256) = ((a * 256 : Nat) : Int) by omega]
 have h3 : (BitVec.ofInt 64 ((a * 256 : Nat) : Int)).toNat = a * 256 := by
  rw [BitVec.ofInt_natCast, BitVec.toNat_ofNat]; exact Nat.mod_eq_of_lt (by omega)
 have h4 : (BitVec.ofInt 64 ((d : Nat) : Int)).toNat = d := by
  rw [BitVec.ofInt_natCast, BitVec.toNat_ofNat]; exact Nat.mod_eq_of_lt (by omega)
 show IntKind.i64.wrap ((BitVec.ofInt 64 ((a * 256 : Nat) : Int) ||| BitVec.ofInt 64 (d : Int)).toNat : Int) = _
 rw [BitVec.toNat_or, h3, h4, nat_join 8 _ _ (by omega) (by omega), IntKind.wrap_i64]
 omega
theorem dt_slice (d : Nat) (h : d < 36) : bs (digitText.extract d (d + 1)) = [chr d] := by
 have : ∀ d : Fin 36, bs (digitText.extract d.1 (d.1 + 1)) = [chr d.1] := by decide
 exact this ⟨d, h⟩
theorem bs_append (s t : ByteArray) : bs (s ++ t) = bs s ++ bs t := by
 unfold bs; simp
theorem pow_bound8 {l : List Nat} (h : Dg 256 l) (hl : l.length <= 160) : ∃ N, N <= 1280 /\ val 256 l < 2 ^ N := by
 refine ⟨8 * l.length, by omega, ?_⟩
 have := val_lt h
 rw [show 256 = 2 ^ 8 from rfl, <- Nat.pow_mul] at this
 exact this
set_option maxRecDepth 100000 in
set_option maxHeartbeats 4000000 in
theorem rprint_any (neg : Bool) (ao : Option Addr) (n cap : Nat) (l : List Nat) (radix : Nat) (w : World) (R : Row .u32 B32 w ao n cap l) (hn40 : n <= 40) (hr1 : 2 <= radix) (hr2 : radix <= 36) :
  Calls Tryz.prog 31 #[.agg #[.bool neg, .slice ao n cap], .int .i64 radix] w (RPrint w neg (val B32 l) radix) := by
 have HR := hid R
 clear R
 have e1 : decide ((radix : Int) < 2) = false := by simp; omega
 have e2 : decide ((36 : Int) < radix) = false := by simp; omega
 go_enter Tryz.func31, Tryz.ntmps31
 go_wp2_with fail
 have X0 := Box.new 55 w neg ao n cap
 have hb0 := Ba w (.cells #[.bool neg, .slice ao n cap] 55)
 have hsz0 := size_alloc w (.cells #[.bool neg, .slice ao n cap] 55)
 generalize w.alloc (.cells #[.bool neg, .slice ao n cap] 55) = W0 at *
 refine (bytes_any neg ao n cap l W0 (HR.out.below hb0) (by omega)).mono ?_
 rintro e w1 ⟨m1, ao1, cap1, l1, rfl, hm1, hO1, ht1, hv1, b1⟩
 rw [hsz0] at hO1
 have X1 := hid (X0.on b1)
 have HB1 := hid (Bt hb0 b1)
 have HO1 := hid hO1
 have HT1 := hid ht1
 have HV1 := hid hv1
 clear X0 hb0 hsz0 hO1 ht1 hv1 b1
 obtain ⟨N, hN, hNv⟩ := pow_bound8 HO1.out.row.dg (by rw [HO1.out.row.len]; omega)
 have HNV := hid hNv
 clear hNv
 go_wp2
 go_loopg [6, 7, 8, 9] N (fun gk b s _ _ wr => ∃ m c : Nat, ∃ ad : Option Addr, ∃ r D : List Nat, ∃ S : ByteArray, b = .slice ad m c /\ s = .string S /\ m <= 160 /\ c <= maxLen /\ D.length + gk <= N /\ Hid (Own .u8 5 256 (w.heap.size + 1) wr ad m c r /\ Tr r /\ bs S = (D.map chr).reverse /\ Dg radix D /\ (r = [] -> Tr D) /\ val radix D + radix ^ D.length * val 256 r = val B32 l /\ Box 55 wr w.heap.size neg ao n cap /\ Below w.heap.size w wr /\ val 256 r < 2 ^ gk))
 case atStart =>
  exact ⟨m1, cap1, ao1, l1, [], ⟨#[]⟩, rfl, rfl, by omega, HO1.out.row.most, by simp, HO1.out, HT1.out, rfl, Dg.nil _, fun _ => Tr.nil, by simp [val]; exact HV1.out, X1.out, HB1.out, HNV.out⟩
 case round =>
  obtain ⟨m, c, ad, r, D, S, rfl, rfl, hm, hc, hDk, hI⟩ := hrel
  unfold maxLen at hc
  obtain ⟨i1, i2, i3, i4, i5, i6, i7, i8, i9⟩ := hI.out
  clear hI
  by_cases hm0 : m = 0
  ·subst hm0
   have hrn : r = [] := List.length_eq_zero_iff.1 i1.row.len
   subst hrn
   have HT := hid (i5 rfl)
   have HV : Hid (val radix D = val B32 l) := by have := i6; simp [val] at this; exact this
   have HDg := hid i4
   have HBS := hid i3
   have HBL := hid i8
   have HBX := hid i7
   obtain ⟨c0, c1⟩ := HBX.out.c
   clear i1 i2 i3 i4 i5 i6 i7 i8 i9
   by_cases hD : D = []
   ·subst hD
    have hem : S.toList.isEmpty = true := by rw [empty_iff]; have := HBS.out; rw [<- bs_length, this]; rfl
    go_wp2
    go_ret2
    exact ⟨_, [], rfl, Dg.nil _, Tr.nil, HV.out, by rw [if_pos rfl]; rfl, HBL.out⟩
   ·have hem : S.toList.isEmpty = false := by
     rw [empty_iff, <- bs_length, HBS.out]; simp [hD]
    cases neg
    ·go_wp2
     go_ret2
     exact ⟨S, D, rfl, HDg.out, HT.out, HV.out, by rw [HBS.out, if_neg hD]; rfl, HBL.out⟩
    ·have hSz : S.size <= 1280 := by rw [<- bs_length, HBS.out]; simp; omega
     have hcat : ¬ 9223372036854775807 < 1 + S.size := by omega
     go_wp2
     go_ret2
     exact ⟨_, D, rfl, HDg.out, HT.out, HV.out, by rw [if_neg hD, bs_append, HBS.out]; rfl, HBL.out⟩
  ·have e0 : decide ((0 : Int) < m) = true := by simp; omega
   obtain ⟨g, cur, hu, hg, hW⟩ := i1.own.resolve_left hm0
   subst hu
   have HG := hid hg
   have HW := hid hW
   have HDr := hid i1.row.dg
   have HLr := hid i1.row.len
   have hcf := i1.row.fits
   have I := hid (And.intro i2 (And.intro i3 (And.intro i4 (And.intro i6 (And.intro i7 (And.intro i8 i9))))))
   clear i1 i2 i3 i4 i5 i6 i7 i8 i9 hg hW
   obtain ⟨wo, hwo⟩ : ∃ wo : World, Hid (wo = wr) := ⟨_, rfl⟩
   go_wp2
   go_loopw [8, 9] (fun t i wx => ∃ j rr : Nat, ∃ q : List Nat, j <= m /\ i = .int .i64 ((j : Int) - 1) /\ t = .int .i64 rr /\ rr < radix /\ Hid (q.length = m - j /\ Dg 256 q /\ val 256 (r.drop j) = val 256 q * radix + rr /\ Onto .u8 5 g 0 m wo wx cur (r.take j ++ q))) (fun _ i _ => (intOf i + 1).toNat)
   case atStart => exact ⟨m, 0, [], Nat.le_refl _, rfl, rfl, by omega, by simp, Dg.nil _, by rw [List.drop_eq_nil_of_le (by rw [HLr.out]; omega)]; simp [val], by
    rw [List.take_of_length_le (by rw [HLr.out]; omega), List.append_nil, hwo.out]; exact HW.out.onto⟩
   case round =>
    obtain ⟨j, rr, q, hj, rfl, rfl, hrr, hH⟩ := hrel
    by_cases hz : j = 0
    ·subst hz
     obtain ⟨h1, h2, h3, h4⟩ := hH.out
     rw [List.take_zero, List.nil_append] at h4
     rw [List.drop_zero] at h3
     have HQL := hid h1
     have HQD := hid h2
     have HQV := hid h3
     have HQO := hid h4
     have HRow : Hid (Row .u8 256 wr (some ⟨g, 0, none⟩) m c q) := by
      obtain ⟨cur2, hW2, _, _⟩ := h4.row
      exact ⟨hW2.len, hcf, by unfold maxLen; omega, fun h => (by cases h), h2, hW2.rd⟩
     have hb' : Below (w.heap.size + 1) wo wr := h4.below HG.out
     have HBX := hid ((show Box 55 wo w.heap.size neg ao n cap by rw [hwo.out]; exact I.out.2.2.2.2.1).below hb' (Nat.lt_succ_self _))
     have HBL := hid ((show Below w.heap.size w wo by rw [hwo.out]; exact I.out.2.2.2.2.2.1).trans (hb'.mono (Nat.le_succ _)))
     have hszr : Hid (w.heap.size + 1 <= wr.heap.size) := HBX.out.lt
     clear h1 h2 h3 h4 hb' hH
     go_wp2_with fail
     refine (rtrim_any (some ⟨g, 0, none⟩) m c q wr HRow.out (by omega)).mono ?_
     rintro e w3 ⟨m', ao', cap', hm', rfl, hO', ht', hv', b3⟩
     have HO' := hid (hO'.base hszr.out)
     have HT' := hid ht'
     have HV' := hid hv'
     have HBX3 := hid (HBX.out.on b3)
     have HBL3 := hid (Bt HBL.out b3)
     have hdt := dt_slice rr (by omega)
     have HDT := hid hdt
     have hSz : S.size <= 1280 := by rw [<- bs_length, I.out.2.1]; simp; omega
     have hcat : ¬ 9223372036854775807 < min (rr + 1) 36 - rr + S.size := by omega
     clear hO' ht' hv' b3 hdt
     go_wp2
     have hne := I.out.1.ne_zero (B := 256) (by decide) (fun e => hm0 (by rw [<- HLr.out, e]; rfl))
     have hhalf := half_lt hr1 hne I.out.2.2.2.2.2.2
     have hvq : val 256 q = val 256 r / radix := by
      rw [HQV.out, Nat.mul_comm, Nat.mul_add_div (by omega), Nat.div_eq_of_lt hrr, Nat.add_zero]
     have hrq : rr = val 256 r % radix := by
      rw [HQV.out, Nat.mul_comm, Nat.mul_add_mod, Nat.mod_eq_of_lt hrr]
     go_roundg (gk - 1)
     case measure => have := hhalf.1; omega
     case rel =>
      refine ⟨m', cap', ao', q.take m', D ++ [rr], _, rfl, rfl, by omega, HO'.out.row.most, by simp; omega, HO'.out, HT'.out, ?_, I.out.2.2.1.append (Dg.one hrr), ?_, ?_, HBX3.out, HBL3.out, ?_⟩
      ·have h5 := HDT.out
       unfold digitText at h5
       rw [bs_append, h5, I.out.2.1]; simp
      ·intro hnil
       refine tr_snoc fun hd0 => ?_
       have h1 : val 256 q = 0 := by rw [<- HV'.out, hnil]; rfl
       have h2 := HQV.out
       rw [h1, hd0] at h2
       simp at h2
       exact hne h2
      ·rw [val_snoc, List.length_append, HV'.out, hvq]
       show val radix D + radix ^ D.length * rr + radix ^ (D.length + 1) * (val 256 r / radix) = _
       rw [Nat.pow_succ, hrq]
       exact print_val I.out.2.2.2.1
      ·rw [HV'.out, hvq]; exact hhalf.2
    ·obtain ⟨p, rfl⟩ : ∃ p, j = p + 1 := ⟨j - 1, by omega⟩
     obtain ⟨d, hd⟩ : ∃ d, d = r.getD p 0 := ⟨_, rfl⟩
     have hll : p < r.length := by rw [HLr.out]; omega
     have hdb : d < 256 := by rw [hd]; exact HDr.out.getD _ hll
     have hc : wr.cell? ⟨g, p, none⟩ = some (.int .u8 d) := by
      have := hH.out.2.2.2.cell (i := p) (by omega)
      rw [getD_append_left (by rw [List.length_take]; omega), getD_take (by omega), <- hd, Nat.zero_add] at this
      exact this
     have hf : wr.frozen? ⟨g, p, none⟩ = false := hH.out.2.2.2.frozen _
     have H1 := hid hd
     have HP := hid hll
     clear hd hll
     have hor := or_i64_8 rr d (by omega) hdb
     obtain ⟨t, ht⟩ : ∃ t, t = rr * 256 + d := ⟨_, rfl⟩
     rw [<- ht] at hor
     obtain ⟨Q, hQ⟩ : ∃ Q, Q = t / radix := ⟨_, rfl⟩
     have hQ2 : (t : Int).tdiv radix = (Q : Int) := by rw [hQ]; rfl
     have hR2 : (t : Int).tmod radix = ((t % radix : Nat) : Int) := rfl
     have hRv : t % radix < radix := Nat.mod_lt _ (by omega)
     have hQb : Q < 256 := by
      rw [hQ, Nat.div_lt_iff_lt_mul (by omega)]
      have : (rr + 1) * 256 <= radix * 256 := Nat.mul_le_mul_right _ hrr
      rw [Nat.add_mul] at this
      rw [Nat.mul_comm 256 radix]
      omega
     have HT := hid ht
     have HQ := hid hQ
     have htb : t < 10000 := by omega
     clear ht hQ
     go_wp2
     obtain ⟨h1, h2, h3, h4⟩ := hH.out
     refine ⟨⟨p, t % radix, Q :: q, by omega, rfl, rfl, hRv, ?_, ?_, ?_, ?_⟩, by simp [intOf] <;> omega⟩
     ·simp [h1]; omega
     ·exact fun x hx => by rcases List.mem_cons.1 hx with rfl | hx; exact hQb; exact h2 x hx
     ·rw [divStep (by omega) p r HP.out h3 hrr, <- H1.out, val_cons, <- HT.out, <- HQ.out]
     ·rw [<- set_take_append HP.out]
      have := h4.store (i := p) (by omega) Q
      rw [Nat.zero_add] at this
      exact this
end Go.Proofs.YtbkfinjajkjhaaaGreatDoor
