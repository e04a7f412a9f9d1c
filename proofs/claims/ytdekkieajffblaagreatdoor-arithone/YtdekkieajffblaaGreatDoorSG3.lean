import Derived.Test.YtdekkieajffblaaGreatDoorG5
import Derived.Test.YtdekkieajffblaaGreatDoorG10
import Derived.Test.YtdekkieajffblaaGreatDoorX1
import Derived.Test.YtdekkieajffblaaGreatDoorSG2
import Derived.Test.YtdekkieajffblaaGreatDoorX3
import Derived.Lib.MapLaws
import Derived.Lib.QuoteLoop
set_option linter.unusedVariables false
set_option linter.unusedSimpArgs false
namespace Go.Proofs.YtdekkieajffblaaGreatDoor
open Go.RowKit
theorem or_u64_0 (d : Nat) (h : d < 4294967296) : bits .or .u64 0 (d : Int) = ((d : Nat) : Int) := by
 have := u64_or_nat 0 d (by omega) (by omega)
 rw [Nat.zero_or] at this; exact this
theorem or_u64_32 (a d : Nat) (h1 : a < 4294967296) (h2 : d < 4294967296) : bits .or .u64 (a : Int) ((d : Int) * 4294967296) = ((a + 4294967296 * d : Nat) : Int) := by
 rw [show ((d : Int) * 4294967296) = ((d * 4294967296 : Nat) : Int) by omega, u64_or_nat _ _ (by omega) (by omega), Nat.or_comm, nat_join 32 _ _ (by omega) (by omega)]; omega
def fits (z : Int) : Bool := decide (-9223372036854775808 <= z /\ z <= 9223372036854775807)
theorem long_not_fits {s : Bool} {l : List Nat} (hg : goodB s l = true) (h : 2 < l.length) : fits (sgn s (val B32 l)) = false := by
 have h1 := (goodB_tr hg).pos (B := B32) (by decide) (by intro e; simp [e] at h)
 have h2 : B32 ^ 2 <= B32 ^ (l.length - 1) := Nat.pow_le_pow_right (by decide) (by omega)
 have h3 : B32 ^ 2 = 18446744073709551616 := by decide
 unfold fits sgn
 cases s <;> simp <;> omega
theorem short_lt {l : List Nat} (hd : Dg B32 l) (h : l.length <= 2) : val B32 l <= 18446744073709551615 := by
 have h1 := val_lt hd
 have h2 : B32 ^ l.length <= B32 ^ 2 := Nat.pow_le_pow_right (by decide) h
 have h3 : B32 ^ 2 = 18446744073709551616 := by decide
 omega
theorem wrap_neg (a : Nat) (h : a <= 9223372036854775808) : wrap64 (IntKind.u64.wrap (-(a : Int))) = -(a : Int) := by
 rw [IntKind.wrap_u64]; unfold wrap64; omega
def ToPost (w : World) (z : Int) (e : Ending) (w' : World) : Prop := ∃ v, e = .returned (.tuple #[.int .i64 v, .bool (fits z)]) /\ (fits z = true -> v = z) /\ Below w.heap.size w w'
theorem toPost_no {w w' : World} {z v : Int} (hf : fits z = false) (hb : Below w.heap.size w w') : ToPost w z (.returned (.tuple #[.int .i64 v, .bool false])) w' :=
 ⟨v, by rw [hf], fun h => (by rw [hf] at h; cases h), hb⟩
theorem toPost_yes {w w' : World} {z v : Int} (hf : fits z = true) (hv : v = z) (hb : Below w.heap.size w w') : ToPost w z (.returned (.tuple #[.int .i64 v, .bool true])) w' :=
 ⟨v, by rw [hf], fun _ => hv, hb⟩
set_option maxRecDepth 100000 in
set_option maxHeartbeats 1000000 in
theorem to_any (neg : Bool) (ao : Option Addr) (n cap : Nat) (l : List Nat) (w : World) (R : Row .u32 B32 w ao n cap l) (g : goodB neg l = true) :
  Calls Tryz.prog 53 #[.agg #[.bool neg, .slice ao n cap]] w (ToPost w (sgn neg (val B32 l))) := by
 have hmx := R.most
 have hft := R.fits
 unfold maxLen at hmx
 have HR := hid R
 have G := hid g
 have HL := hid R.len
 clear R g
 go_enter Tryz.func53, Tryz.ntmps53
 go_wp2_with fail
 refine (good_any neg ao n cap l _ (HR.out.below (Ba _ _))).mono ?_
 rintro e w1 ⟨rfl, hb1⟩
 rw [G.out]
 have X := hid ((Box.new 24 w neg ao n cap).on hb1)
 obtain ⟨c0, c1⟩ := X.out.c
 have HB := hid (Bt (Ba w (.cells #[.bool neg, .slice ao n cap] 24)) hb1)
 have R1 := hid (HR.out.below HB.out)
 clear hb1 HR
 by_cases h2 : 2 < n
 ·have e2 : decide ((2 : Int) < n) = true := by simp; omega
  have HF := hid (long_not_fits G.out (by rw [HL.out]; exact h2))
  go_wp2
  go_ret2
  exact toPost_no HF.out HB.out
 ·have e2 : decide ((2 : Int) < n) = false := by simp; omega
  have hV := short_lt R1.out.dg (by rw [HL.out]; omega)
  obtain ⟨V, hVV⟩ : ∃ V, V = val B32 l := ⟨_, rfl⟩
  rw [<- hVV] at hV
  have HV := hid hVV
  clear hVV
  go_wp2
  go_loop [4, 5, 6, 19] (fun m _ _ i => ∃ k a : Nat, k <= n /\ i = .int .i64 k /\ m = .int .u64 a /\ Hid (a = val B32 (l.take k))) (fun _ _ _ i => n - (intOf i).toNat)
  case atStart => exact ⟨0, 0, Nat.zero_le _, rfl, rfl, by simp [Hid, val]⟩
  case round =>
   obtain ⟨k, a, hk, rfl, rfl, ha⟩ := hrel
   by_cases hlt : k < n
   ·obtain ⟨b, o, rfl, hl, hc⟩ := R1.out.rd.some (by rw [HL.out]; omega)
    have hck := hc k (by rw [HL.out]; exact hlt)
    obtain ⟨d, hd⟩ : ∃ d, d = l.getD k 0 := ⟨_, rfl⟩
    rw [<- hd] at hck
    have hdb : d < 4294967296 := by rw [hd]; exact R1.out.dg.getD _ (by rw [HL.out]; exact hlt)
    have HS : Hid (val B32 (l.take (k + 1)) = a + B32 ^ k * d) := by
     unfold Hid; rw [val_take_succ B32 l k (by rw [HL.out]; exact hlt), <- ha.out, <- hd]
    clear hd hc
    have hk2 : k = 0 \/ k = 1 := by omega
    rcases hk2 with rfl | rfl
    ·obtain rfl : a = 0 := by have := ha.out; simpa [val] using this
     have hor := or_u64_0 d hdb
     simp only [Nat.add_zero] at hck
     go_wp2
     exact ⟨⟨1, d, by omega, rfl, rfl, by unfold Hid; rw [HS.out]; simp⟩, by simp [intOf]; omega⟩
    ·have hab : a < 4294967296 := by
      have h1 := ha.out
      have h2 := val_lt (R1.out.dg.take 1)
      have h3 : B32 ^ (l.take 1).length <= B32 ^ 1 := Nat.pow_le_pow_right (by decide) (by rw [List.length_take]; omega)
      have h4 : B32 ^ 1 = 4294967296 := by decide
      omega
     have hor := or_u64_32 a d hab hdb
     obtain ⟨A, hA⟩ : ∃ A, A = a + 4294967296 * d := ⟨_, rfl⟩
     rw [<- hA] at hor
     have HA := hid hA
     clear hA
     go_wp2
     exact ⟨⟨2, A, by omega, rfl, rfl, by unfold Hid; rw [HS.out, HA.out]; simp [B32]⟩, by simp [intOf]; omega⟩
   ·have haV : a = V := by rw [ha.out, HV.out, List.take_of_length_le (by rw [HL.out]; omega)]
    subst haV
    clear ha
    cases neg
    ·by_cases hf : a <= 9223372036854775807
     ·have HF : Hid (fits (sgn false a) = true) := by unfold Hid fits sgn; simp; omega
      have ec : decide ((a : Int) < 9223372036854775808) = true := by rw [decide_eq_true_eq]; omega
      go_wp2
      go_ret2
      rw [<- HV.out]
      exact toPost_yes HF.out (by simp [sgn]) HB.out
     ·have HF : Hid (fits (sgn false a) = false) := by unfold Hid fits sgn; simp; omega
      have ec : decide ((a : Int) < 9223372036854775808) = false := by rw [decide_eq_false_iff_not]; omega
      go_wp2
      go_ret2
      rw [<- HV.out]
      exact toPost_no HF.out HB.out
    ·by_cases hf : a <= 9223372036854775808
     ·have HF : Hid (fits (sgn true a) = true) := by unfold Hid fits sgn; simp; omega
      go_wp2
      go_ret2
      rw [<- HV.out]
      exact toPost_yes HF.out ((wrap_neg a hf).trans (by simp [sgn])) HB.out
     ·have HF : Hid (fits (sgn true a) = false) := by unfold Hid fits sgn; simp; omega
      go_wp2
      go_ret2
      rw [<- HV.out]
      exact toPost_no HF.out HB.out
theorem wrap_negneg (a : Nat) (h : a <= 9223372036854775808) : wrap64 (-(wrap64 (a : Int))) = -(a : Int) := by
 unfold wrap64; omega
set_option maxRecDepth 100000 in
set_option maxHeartbeats 1000000 in
theorem rto_any (neg : Bool) (ao : Option Addr) (n cap : Nat) (l : List Nat) (w : World) (R : Row .u32 B32 w ao n cap l) (g : goodB neg l = true) :
  Calls Tryz.prog 21 #[.agg #[.bool neg, .slice ao n cap]] w (ToPost w (sgn neg (val B32 l))) := by
 have hmx := R.most
 have hft := R.fits
 unfold maxLen at hmx
 have G := hid g
 have HL := hid R.len
 have HR := hid R
 clear R g
 by_cases h2 : 2 < n
 ·have e2 : decide ((2 : Int) < n) = true := by simp; omega
  have HF := hid (long_not_fits G.out (by rw [HL.out]; exact h2))
  go_enter Tryz.func21, Tryz.ntmps21
  go_wp2
  go_ret2
  exact toPost_no HF.out (Ba _ _)
 ·have e2 : decide ((2 : Int) < n) = false := by simp; omega
  have hV := short_lt HR.out.dg (by rw [HL.out]; omega)
  obtain ⟨V, hVV⟩ : ∃ V, V = val B32 l := ⟨_, rfl⟩
  rw [<- hVV] at hV
  have HV := hid hVV
  clear hVV
  go_enter Tryz.func21, Tryz.ntmps21
  go_wp2
  have X := Box.new 24 w neg ao n cap
  have bW := Ba w (.cells #[.bool neg, .slice ao n cap] 24)
  generalize hW : w.alloc (.cells #[.bool neg, .slice ao n cap] 24) = W at *
  have R1 := hid (HR.out.below bW)
  have HB := hid bW
  obtain ⟨c0, c1⟩ := X.c
  clear hW bW X HR
  go_loop [4, 5] (fun m i => ∃ k a : Nat, k <= n /\ i = .int .i64 k /\ m = .int .u64 a /\ Hid (a = val B32 (l.take k))) (fun _ i => n - (intOf i).toNat)
  case atStart => exact ⟨0, 0, Nat.zero_le _, rfl, rfl, by simp [Hid, val]⟩
  case round =>
   obtain ⟨k, a, hk, rfl, rfl, ha⟩ := hrel
   by_cases hlt : k < n
   ·obtain ⟨b, o, rfl, hl, hc⟩ := R1.out.rd.some (by rw [HL.out]; omega)
    have hck := hc k (by rw [HL.out]; exact hlt)
    obtain ⟨d, hd⟩ : ∃ d, d = l.getD k 0 := ⟨_, rfl⟩
    rw [<- hd] at hck
    have hdb : d < 4294967296 := by rw [hd]; exact R1.out.dg.getD _ (by rw [HL.out]; exact hlt)
    have HS : Hid (val B32 (l.take (k + 1)) = a + B32 ^ k * d) := by
     unfold Hid; rw [val_take_succ B32 l k (by rw [HL.out]; exact hlt), <- ha.out, <- hd]
    clear hd hc
    have hk2 : k = 0 \/ k = 1 := by omega
    rcases hk2 with rfl | rfl
    ·obtain rfl : a = 0 := by have := ha.out; simpa [val] using this
     have hor := or_u64_0 d hdb
     simp only [Nat.add_zero] at hck
     go_wp2
     go_round
     case rel => exact ⟨1, d, by omega, rfl, rfl, by unfold Hid; rw [HS.out]; simp⟩
     case measure => simp [intOf]; omega
    ·have hab : a < 4294967296 := by
      have h1 := ha.out
      have h2 := val_lt (R1.out.dg.take 1)
      have h3 : B32 ^ (l.take 1).length <= B32 ^ 1 := Nat.pow_le_pow_right (by decide) (by rw [List.length_take]; omega)
      have h4 : B32 ^ 1 = 4294967296 := by decide
      omega
     have hor := or_u64_32 a d hab hdb
     obtain ⟨A, hA⟩ : ∃ A, A = a + 4294967296 * d := ⟨_, rfl⟩
     rw [<- hA] at hor
     have HA := hid hA
     clear hA
     go_wp2
     go_round
     case rel => exact ⟨2, A, by omega, rfl, rfl, by unfold Hid; rw [HS.out, HA.out]; simp [B32]⟩
     case measure => simp [intOf]; omega
   ·have haV : a = V := by rw [ha.out, HV.out, List.take_of_length_le (by rw [HL.out]; omega)]
    subst haV
    clear ha
    cases neg
    ·by_cases hf : a <= 9223372036854775807
     ·have HF : Hid (fits (sgn false a) = true) := by unfold Hid fits sgn; simp; omega
      have ec : decide ((9223372036854775808 : Int) <= a) = false := by rw [decide_eq_false_iff_not]; omega
      go_wp2
      go_ret2
      rw [<- HV.out]
      exact toPost_yes HF.out (by simp [sgn]) HB.out
     ·have HF : Hid (fits (sgn false a) = false) := by unfold Hid fits sgn; simp; omega
      have ec : decide ((9223372036854775808 : Int) <= a) = true := by rw [decide_eq_true_eq]; omega
      go_wp2
      go_ret2
      rw [<- HV.out]
      exact toPost_no HF.out HB.out
    ·by_cases hf : a <= 9223372036854775808
     ·have HF : Hid (fits (sgn true a) = true) := by unfold Hid fits sgn; simp; omega
      have ec : decide ((a : Int) <= 9223372036854775808) = true := by rw [decide_eq_true_eq]; omega
      go_wp2
      go_ret2
      rw [<- HV.out]
      exact toPost_yes HF.out ((wrap_negneg a hf).trans (by simp [sgn])) HB.out
     ·have HF : Hid (fits (sgn true a) = false) := by unfold Hid fits sgn; simp; omega
      have ec : decide ((a : Int) <= 9223372036854775808) = false := by rw [decide_eq_false_iff_not]; omega
      go_wp2
      go_ret2
      rw [<- HV.out]
      exact toPost_no HF.out HB.out
theorem row2 (W : World) (g x y : Nat) (hg : g = W.heap.size) (hx : x < B32) (hy : y < B32) : Row .u32 B32 (W.alloc (.cells #[.int .u32 x, .int .u32 y] 58)) (some ⟨g, 0, none⟩) 2 2 [x, y] := by
 subst hg
 refine ⟨rfl, Nat.le_refl _, by unfold maxLen; omega, fun h => (by cases h), ?_, .inr ⟨W.heap.size, 0, rfl, by simp, fun i hi => ?_⟩⟩
 ·intro z hz
  simp at hz
  rcases hz with rfl | rfl
  ·exact hx
  ·exact hy
 ·rw [cell_at _ _ _ _ _ rfl]
  have : i = 0 \/ i = 1 := by simp at hi; omega
  rcases this with rfl | rfl <;> rfl
set_option maxHeartbeats 1000000 in
theorem from_core (n : Int) (u : Nat) (neg : Bool) (w : World) (hub : u <= 18446744073709551615) (hu : u = n.natAbs) (e0 : decide (n < 0) = neg) (hc : neg = true /\ n < 0 /\ IntKind.u64.wrap (-IntKind.u64.wrap n) = (u : Int) \/ neg = false /\ n = (u : Int)) :
  Calls Tryz.prog 61 #[.int .i64 n] w fun e w' => ∃ x, e = .returned x /\ IsInt w' x n /\ Below w.heap.size w w' := by
 have HU : Hid (sgn neg u = n) := by
  unfold Hid sgn
  rcases hc with ⟨rfl, h, _⟩ | ⟨rfl, h⟩
  ·simp; omega
  ·simp; omega
 clear hu
 rcases hc with ⟨rfl, hneg, hw⟩ | ⟨rfl, rfl⟩
 all_goals
  go_enter Tryz.func61, Tryz.ntmps61
  go_wp2_with fail
  obtain ⟨x, hx⟩ : ∃ x, x = u % 4294967296 := ⟨_, rfl⟩
  obtain ⟨y, hy⟩ : ∃ y, y = u / 4294967296 := ⟨_, rfl⟩
  have ex : (u : Int) % 4294967296 = (x : Int) := by rw [hx]; omega
  have ey : (u : Int) / 4294967296 = (y : Int) := by rw [hy]; omega
  rw [ex, ey]
  have HXY : Hid (val B32 [x, y] = u) := by unfold Hid; simp [val, B32]; omega
  have hr := row2 (w.alloc (.cells #[.bool false, .slice none 0 0] 24)) (w.heap.size + 1) x y (by simp) (by unfold B32; omega) (by unfold B32; omega)
  have hbx := ((Box.new 24 w false none 0 0).alloc (.cells #[.int .u32 x, .int .u32 y] 58))
  have hb0 := Baa w (.cells #[.bool false, .slice none 0 0] 24) (.cells #[.int .u32 x, .int .u32 y] 58)
  refine (whole_any _ (some ⟨w.heap.size + 1, 0, none⟩) 2 2 [x, y] _ hr).mono ?_
  rintro e w3 ⟨xx, l, rfl, hI, htl, hvl, hll, hb3⟩
  have hIs := is_mk hI htl (by rw [hvl, HXY.out]; exact not_big_64 u (by omega))
  rw [hvl, HXY.out, HU.out] at hIs
  obtain ⟨sx, ax, nx, cx, lx, rfl, Rx, gx, hzx⟩ := hIs.open_
  have X3 := hid (hbx.on hb3)
  obtain ⟨q0, q1⟩ := X3.out.c
  obtain ⟨f0, f1⟩ := X3.out.f
  have HB3 := hid (Bt hb0 hb3)
  have HRx := hid Rx
  have HGx := hid (And.intro gx hzx)
  clear hI htl hvl hb3 Rx hIs hr hbx hb0 gx hzx ex ey hx hy
  go_wp2
  have z := X3.out.set2 sx ax nx cx
  obtain ⟨y0, y1⟩ := z.c
  exact bodyPost_ret (v := .agg #[.bool sx, .slice ax nx cx]) (by simp [results, Tryz.results61, go_sem, y0, y1]) rfl ⟨_, rfl, ⟨sx, lx, ⟨ax, nx, cx, rfl, HRx.out.setBox2 X3.out _ _⟩, HGx.out.1, HGx.out.2⟩, (HB3.out.setCell (Nat.le_refl _) _).setCell (Nat.le_refl _) _⟩
theorem from_is (n : Int) (w : World) (h1 : -9223372036854775808 <= n) (h2 : n <= 9223372036854775807) :
  Calls Tryz.prog 61 #[.int .i64 n] w fun e w' => ∃ x, e = .returned x /\ IsInt w' x n /\ Below w.heap.size w w' := by
 by_cases hneg : n < 0
 ·exact from_core n n.natAbs true w (by omega) rfl (by simp [hneg]) (.inl ⟨rfl, hneg, by rw [IntKind.wrap_u64, IntKind.wrap_u64]; omega⟩)
 ·exact from_core n n.natAbs false w (by omega) rfl (by simp [hneg]) (.inr ⟨rfl, by omega⟩)
theorem u8n {n : Nat} (h : n < 256) : (UInt8.ofNat n).toNat = n := by rw [UInt8.toNat_ofNat']; exact Nat.mod_eq_of_lt h
theorem letB_rng {c : Nat} (h : letB (c : Int) = true) : c <= 1114111 /\ (c < 55296 \/ 57343 < c) := by
 unfold letB at h
 simp only [Bool.and_eq_true, Bool.or_eq_true, decide_eq_true_eq] at h
 omega
theorem enc_1 {c : Nat} (h : letB (c : Int) = true) (h1 : c < 128) : (Utf8.encode (c : Int)).data.toList = [UInt8.ofNat c] := by
 have hv : Utf8.valid (c : Int) = true := by rw [<- letB_valid]; exact h
 unfold Utf8.encode
 simp only [hv, if_true, Int.toNat_natCast]
 rw [if_pos h1]
theorem enc_2 {c : Nat} (h : letB (c : Int) = true) (h1 : 128 <= c) (h2 : c < 2048) : (Utf8.encode (c : Int)).data.toList = [UInt8.ofNat (192 + c / 64), UInt8.ofNat (128 + c % 64)] := by
 have hv : Utf8.valid (c : Int) = true := by rw [<- letB_valid]; exact h
 unfold Utf8.encode
 simp only [hv, if_true, Int.toNat_natCast]
 rw [if_neg (by omega), if_pos h2]
theorem enc_3 {c : Nat} (h : letB (c : Int) = true) (h1 : 2048 <= c) (h2 : c < 65536) : (Utf8.encode (c : Int)).data.toList = [UInt8.ofNat (224 + c / 4096), UInt8.ofNat (128 + c / 64 % 64), UInt8.ofNat (128 + c % 64)] := by
 have hv : Utf8.valid (c : Int) = true := by rw [<- letB_valid]; exact h
 unfold Utf8.encode
 simp only [hv, if_true, Int.toNat_natCast]
 rw [if_neg (by omega), if_neg (by omega), if_pos h2]
theorem enc_4 {c : Nat} (h : letB (c : Int) = true) (h1 : 65536 <= c) : (Utf8.encode (c : Int)).data.toList = [UInt8.ofNat (240 + c / 262144), UInt8.ofNat (128 + c / 4096 % 64), UInt8.ofNat (128 + c / 64 % 64), UInt8.ofNat (128 + c % 64)] := by
 have hv : Utf8.valid (c : Int) = true := by rw [<- letB_valid]; exact h
 unfold Utf8.encode
 simp only [hv, if_true, Int.toNat_natCast]
 rw [if_neg (by omega), if_neg (by omega), if_neg (by omega)]
theorem dec_enc {c : Nat} (h : letB (c : Int) = true) (rest : List UInt8) : Lib.decodeL ((Utf8.encode (c : Int)).data.toList ++ rest) = (c, (Utf8.encode (c : Int)).data.toList.length) := by
 have hb := letB_rng h
 rw [Lib.decodeL_N]
 by_cases h1 : c < 128
 ·rw [enc_1 h h1]
  show Lib.decodeN _ (UInt8.ofNat c).toNat _ _ _ = (c, 1)
  rw [u8n (by omega)]
  unfold Lib.decodeN
  rw [if_pos h1]
 by_cases h2 : c < 2048
 ·rw [enc_2 h (by omega) h2]
  show Lib.decodeN _ (UInt8.ofNat (192 + c / 64)).toNat (UInt8.ofNat (128 + c % 64)).toNat _ _ = (c, 2)
  rw [u8n (by omega), u8n (by omega)]
  unfold Lib.decodeN
  rw [if_neg (by omega), if_pos ⟨by omega, by simp, by omega⟩, if_pos (by omega)]
  congr 1; omega
 by_cases h3 : c < 65536
 ·rw [enc_3 h (by omega) h3]
  show Lib.decodeN _ (UInt8.ofNat (224 + c / 4096)).toNat (UInt8.ofNat (128 + c / 64 % 64)).toNat (UInt8.ofNat (128 + c % 64)).toNat _ = (c, 3)
  rw [u8n (by omega), u8n (by omega), u8n (by omega)]
  unfold Lib.decodeN
  rw [if_neg (by omega), if_neg (by omega), if_pos ⟨by omega, ⟨by simp, by omega⟩, by simp, by omega⟩, if_pos (by omega)]
  congr 1; omega
 ·rw [enc_4 h (by omega)]
  show Lib.decodeN _ (UInt8.ofNat (240 + c / 262144)).toNat (UInt8.ofNat (128 + c / 4096 % 64)).toNat (UInt8.ofNat (128 + c / 64 % 64)).toNat (UInt8.ofNat (128 + c % 64)).toNat = (c, 4)
  rw [u8n (by omega), u8n (by omega), u8n (by omega), u8n (by omega)]
  unfold Lib.decodeN
  rw [if_neg (by omega), if_neg (by omega), if_neg (by omega), if_pos ⟨by omega, ⟨by simp, by omega⟩, ⟨by simp, by omega⟩, by simp, by omega⟩, if_pos (by omega)]
  congr 1; omega
theorem enc_len {c : Nat} (h : letB (c : Int) = true) : 1 <= (Utf8.encode (c : Int)).data.toList.length /\ (Utf8.encode (c : Int)).data.toList.length <= 4 := by
 by_cases h1 : c < 128
 ·rw [enc_1 h h1]; simp
 by_cases h2 : c < 2048
 ·rw [enc_2 h (by omega) h2]; simp
 by_cases h3 : c < 65536
 ·rw [enc_3 h (by omega) h3]; simp
 ·rw [enc_4 h (by omega)]; simp
def spelt (l : List Nat) : List UInt8 := l.flatMap (fun c : Nat => (Utf8.encode (c : Int)).data.toList)
theorem spelt_valid : ∀ {l : List Nat}, (∀ c ∈ l, letB (c : Int) = true) -> Lib.validD (spelt l) = true
 | [], _ => Lib.validD_nil
 | c :: l, h => by
  have hc := h c List.mem_cons_self
  have hl := enc_len hc
  have ih := spelt_valid (l := l) (fun x hx => h x (List.mem_cons_of_mem _ hx))
  have e : spelt (c :: l) = (Utf8.encode (c : Int)).data.toList ++ spelt l := rfl
  rw [e, Lib.validD_step _ (by intro e2; have := congrArg List.length e2; simp only [List.length_append, List.length_nil] at this; omega), dec_enc hc, if_neg, List.drop_left]
  ·exact ih
  ·rintro ⟨e1, e2⟩
   simp only at e1 e2
   subst e1
   rw [enc_3 hc (by omega) (by omega)] at e2
   simp at e2
theorem count_from (s : ByteArray) (f p : Nat) : Lib.runeCountFrom s (f + 1) p = if p < s.size then 1 + Lib.runeCountFrom s f (p + (Utf8.decode s p).2) else 0 := rfl
theorem spelt_from {s : ByteArray} : ∀ {l : List Nat} {p f : Nat}, (∀ c ∈ l, letB (c : Int) = true) -> s.data.toList.drop p = spelt l -> l.length <= f -> Lib.runeCountFrom s f p = l.length
 | [], p, f, _, e, _ => by
  refine Lib.runeCountFrom_end s f p (fun h => ?_)
  have := congrArg List.length e
  rw [List.length_drop] at this
  have h2 : s.data.toList.length = s.size := rfl
  simp [spelt] at this
  omega
 | c :: l, p, 0, _, _, h => by simp at h
 | c :: l, p, f + 1, h, e, hf => by
  have hc := h c List.mem_cons_self
  have hl := enc_len hc
  have e2 : spelt (c :: l) = (Utf8.encode (c : Int)).data.toList ++ spelt l := rfl
  rw [e2] at e
  have h2 : s.data.toList.length = s.size := rfl
  have hlen := congrArg List.length e
  rw [List.length_drop, List.length_append] at hlen
  have hd : Utf8.decode s p = (c, (Utf8.encode (c : Int)).data.toList.length) := by
   rw [<- Lib.decodeL_drop, e, dec_enc hc]
  rw [count_from, if_pos (by omega), hd]
  have ih := spelt_from (s := s) (l := l) (p := p + (Utf8.encode (c : Int)).data.toList.length) (f := f) (fun x hx => h x (List.mem_cons_of_mem _ hx)) (by
   rw [<- List.drop_drop, e, List.drop_left]) (by simpa using hf)
  rw [ih, List.length_cons]; omega
theorem spelt_len : ∀ {l : List Nat}, (∀ c ∈ l, letB (c : Int) = true) -> l.length <= (spelt l).length
 | [], _ => Nat.le_refl _
 | c :: l, h => by
  have hl := enc_len (h c List.mem_cons_self)
  have ih := spelt_len (l := l) (fun x hx => h x (List.mem_cons_of_mem _ hx))
  have e2 : spelt (c :: l) = (Utf8.encode (c : Int)).data.toList ++ spelt l := rfl
  rw [e2, List.length_append, List.length_cons]; omega
theorem spelt_count {s : ByteArray} {l : List Nat} (h : ∀ c ∈ l, letB (c : Int) = true) (e : s.data.toList = spelt l) : Lib.runeCount s = l.length :=
 spelt_from (s := s) (p := 0) h (by rw [List.drop_zero]; exact e) (by
  have h2 : s.data.toList.length = s.size := rfl
  have := spelt_len h
  rw [<- e] at this; omega)
end Go.Proofs.YtdekkieajffblaaGreatDoor
