import Derived.Test.YtadfihnffboelaaGreatDoorG3
import Derived.Test.YtadfihnffboelaaGreatDoorW7
import Derived.Test.YtadfihnffboelaaGreatDoorProg
import Derived.Test.YtadfihnffboelaaGreatDoorW42
import Derived.Laws.BitsAllLaws
import Derived.Deep.RegionLaw
import Derived.Deep.AppendLies
import Derived.Laws.AppendOwnNone
import Derived.Deep.RegionHeld3
import Derived.BigQuiet
import Derived.Deep.QuietTactic
set_option linter.unusedVariables false
set_option linter.unusedSimpArgs false
namespace Go.Proofs.YtadfihnffboelaaGreatDoor
open Go.RowKit
theorem decode_le (s : ByteArray) (i : Nat) : 1 <= (Utf8.decode s i).2 /\ (Utf8.decode s i).2 <= 4 := by
 rw [decode_eq]
 repeat' split
 all_goals simp
def utfN (s : ByteArray) : Int := if Lib.validD s.data.toList then (Lib.runeCount s : Int) else -1
structure Uv (s : ByteArray) (p c fuel : Nat) : Prop where
 v : Lib.validD s.data.toList = Lib.validD (s.data.toList.drop p)
 c : c + Lib.runeCountFrom s fuel p = Lib.runeCount s
 f : s.size <= p + fuel
theorem Uv.bad {s : ByteArray} {p c fuel : Nat} (h : Uv s p c fuel) (hp : p < s.size) (hb : (runeD s p).2 = 0) : utfN s = -1 := by
 have hd : Utf8.decode s p = (65533, 1) := by
  unfold runeD at hb
  split at hb
  ·assumption
  ·have := (decode_le s p).1; omega
 unfold utfN
 rw [h.v, Lib.validD_step _ (by intro e; have := congrArg List.length e; simp at this; have h2 : s.data.size = s.size := rfl; omega), Lib.decodeL_drop, hd]
 simp
theorem Uv.next {s : ByteArray} {p c fuel : Nat} (h : Uv s p c (fuel + 1)) (hp : p < s.size) (hb : (runeD s p).2 ≠ 0) : Uv s (p + (runeD s p).2) (c + 1) fuel /\ 1 <= (runeD s p).2 /\ (runeD s p).2 <= 4 := by
 have hne : ¬ Utf8.decode s p = (65533, 1) := by
  intro e; unfold runeD at hb; rw [if_pos e] at hb; exact hb rfl
 have e : runeD s p = Utf8.decode s p := by unfold runeD; rw [if_neg hne]
 rw [e]
 have hl := decode_le s p
 refine ⟨⟨?_, ?_, ?_⟩, hl⟩
 ·rw [h.v, Lib.validD_step _ (by intro e; have := congrArg List.length e; simp at this; have h2 : s.data.size = s.size := rfl; omega), Lib.decodeL_drop, if_neg, List.drop_drop]
  intro h2
  exact hne (Prod.ext h2.1 h2.2)
 ·have := h.c
  unfold Lib.runeCountFrom at this
  rw [if_pos hp] at this
  omega
 ·have := h.f; omega
theorem Uv.end_ {s : ByteArray} {p c fuel : Nat} (h : Uv s p c fuel) (hp : ¬ p < s.size) : utfN s = c := by
 unfold utfN
 rw [h.v, List.drop_eq_nil_of_le (by have h2 : s.data.size = s.size := rfl; simp; omega)]
 have := h.c
 rw [Lib.runeCountFrom_end s fuel p hp] at this
 rw [if_pos Lib.validD_nil]; omega
set_option maxHeartbeats 1000000 in
theorem utf_any (s : ByteArray) (w : World) (hs : s.size <= 1000000) : Calls Tryz.prog 100 #[.string s] w fun e w' => e = .returned (.int .i64 (utfN s)) /\ ∃ k, w' = w.drewN k := by
 go_enter Tryz.func100, Tryz.ntmps100
 go_wp2
 go_loopw [3, 4] (fun n i wr => ∃ p c fuel : Nat, i = .int .i64 p /\ n = .int .i64 c /\ c <= p /\ p <= s.size + 4 /\ Hid (Uv s p c fuel /\ ∃ k, wr = w.drewN k)) (fun _ i _ => s.size + 4 - (intOf i).toNat)
 case atStart => exact ⟨0, 0, s.size, rfl, rfl, Nat.le_refl _, by omega, ⟨rfl, by simp [Lib.runeCount], by omega⟩, 0, rfl⟩
 case round =>
  obtain ⟨p, c, fuel, rfl, rfl, hcp, hps, hI⟩ := hrel
  by_cases hlt : p < s.size
  ·have HC := hid (rune_any s p wr hlt hs)
   obtain ⟨f, rfl⟩ : ∃ f, fuel = f + 1 := ⟨fuel - 1, by have := hI.out.1.f; omega⟩
   have HN : Hid ((runeD s p).2 ≠ 0 -> Uv s (p + (runeD s p).2) (c + 1) f /\ 1 <= (runeD s p).2 /\ (runeD s p).2 <= 4) := hI.out.1.next hlt
   have HBAD : Hid ((runeD s p).2 = 0 -> utfN s = -1) := hI.out.1.bad hlt
   obtain ⟨k, hk⟩ : ∃ k, k = (runeD s p).2 := ⟨_, rfl⟩
   unfold RunePost at HC
   rw [<- hk] at HC HN HBAD
   clear hk
   generalize (runeD s p).1 = r at *
   by_cases hk0 : k = 0
   ·subst hk0
    have hU := hid (HBAD.out rfl)
    go_wp2_with (go_at_call 127; refine HC.out.mono ?_; rintro e w2 ⟨rfl, k2, hw2⟩; rw [hw2])
    go_ret
    obtain ⟨k1, hw⟩ := hI.out.2
    exact ⟨by rw [hU.out]; rfl, k1 + k2, by rw [hw, World.drewN_drewN]⟩
   ·obtain ⟨hU, hk1, hk4⟩ := HN.out hk0
    have HU := hid hU
    have ek : ((k : Int) == 0) = false := by simp; omega
    clear hU
    go_wp2_with (go_at_call 127; refine HC.out.mono ?_; rintro e w2 ⟨rfl, k2, hw2⟩; rw [hw2])
    obtain ⟨k1, hw⟩ := hI.out.2
    refine ⟨⟨p + k, c + 1, f, by congr 1, by congr 1, by omega, by omega, HU.out, k1 + k2, by rw [hw, World.drewN_drewN]⟩, by simp [intOf] <;> omega⟩
  ·have hU := hid (hI.out.1.end_ hlt)
   go_wp2
   go_ret
   exact ⟨by rw [hU.out]; rfl, hI.out.2⟩
def ltrB (n : Int) : Bool := decide (0 <= n) && decide (n <= 1114111) && (decide (n < 55296) || decide (57343 < n))
def rightB (k n t : Int) : Bool :=
 if k = 1 then decide (-1152921504606846976 <= n) && decide (n < 1152921504606846976)
 else if k = 2 then decide (0 <= n) && decide (n <= 1099511627776)
 else if k = 3 then decide (0 <= n) && decide (n <= 5)
 else if k = 4 then decide (0 <= n) && decide (n < 1073741824) && ltrB n
 else if k = 5 \/ k = 6 \/ k = 7 then decide (0 <= n) && decide (n <= 1073741824)
 else if k = 8 then decide (1 <= t) && decide (t <= 255) && (decide (0 <= n) && decide (n <= 1099511627776))
 else false
def wrdB (k n t : Int) : Int :=
 if k = 1 then (n * 8) % 18446744073709551616
 else if k = 2 then n * 8 + 1
 else if k = 3 then n * 8 + 2
 else if k = 8 then n * 2048 + t * 8 + 7
 else n * 256 + (k + 2) * 8 + 2
def wordR (k n t : Int) : Int := if rightB k n t then wrdB k n t else 0
def sgnW (w : Int) : Int := if w < 9223372036854775808 then w else w - 18446744073709551616
def ofRaw (w : Int) : Int × Int × Int :=
 if w % 8 = 0 then (1, sgnW w / 8, 0)
 else if w % 8 = 1 then (2, w / 8, 0)
 else if w % 8 = 2 then
  (if w / 8 % 32 <= 5 /\ w / 256 = 0 then (3, w / 8 % 32, 0)
   else if 6 <= w / 8 % 32 /\ w / 8 % 32 <= 9 then (w / 8 % 32 - 2, w / 256, 0) else (0, 0, 0))
 else if w % 8 = 7 then (8, w / 2048, w / 8 % 256)
 else (0, 0, 0)
def ofR (w : Int) : Int × Int × Int := if rightB (ofRaw w).1 (ofRaw w).2.1 (ofRaw w).2.2 then ofRaw w else (0, 0, 0)
def U64 (w : Int) : Prop := 0 <= w /\ w < 18446744073709551616
theorem ltrB_rng {n : Int} (h : ltrB n = true) : 0 <= n /\ n <= 1114111 := by
 unfold ltrB at h
 simp only [Bool.and_eq_true, Bool.or_eq_true, decide_eq_true_eq] at h
 omega
theorem right_cases {k n t : Int} (h : rightB k n t = true) :
  (k = 1 /\ -1152921504606846976 <= n /\ n < 1152921504606846976) \/ (k = 2 /\ 0 <= n /\ n <= 1099511627776) \/ (k = 3 /\ 0 <= n /\ n <= 5) \/ (k = 4 /\ 0 <= n /\ n <= 1114111 /\ ltrB n = true) \/ ((k = 5 \/ k = 6 \/ k = 7) /\ 0 <= n /\ n <= 1073741824) \/ (k = 8 /\ 1 <= t /\ t <= 255 /\ 0 <= n /\ n <= 1099511627776) := by
 unfold rightB at h
 split at h
 ·simp only [Bool.and_eq_true, decide_eq_true_eq] at h; omega
 split at h
 ·simp only [Bool.and_eq_true, decide_eq_true_eq] at h; omega
 split at h
 ·simp only [Bool.and_eq_true, decide_eq_true_eq] at h; omega
 split at h
 ·simp only [Bool.and_eq_true, decide_eq_true_eq] at h
  have := ltrB_rng h.2
  refine .inr (.inr (.inr (.inl ⟨by assumption, by omega, by omega, h.2⟩)))
 split at h
 ·simp only [Bool.and_eq_true, decide_eq_true_eq] at h; omega
 split at h
 ·simp only [Bool.and_eq_true, decide_eq_true_eq] at h; omega
 ·cases h
theorem wrd_rng {k n t : Int} (h : rightB k n t = true) : U64 (wrdB k n t) := by
 unfold U64 wrdB
 rcases right_cases h with ⟨rfl, h1⟩ | ⟨rfl, h1⟩ | ⟨rfl, h1⟩ | ⟨rfl, h1⟩ | ⟨h0, h1⟩ | ⟨rfl, h1⟩
 ·simp only [if_true]; omega
 ·simp only [show (2 : Int) ≠ 1 from by decide, if_true, if_false]; omega
 ·simp only [show (3 : Int) ≠ 1 from by decide, show (3 : Int) ≠ 2 from by decide, if_true, if_false]; omega
 ·simp only [show (4 : Int) ≠ 1 from by decide, show (4 : Int) ≠ 2 from by decide, show (4 : Int) ≠ 3 from by decide, show (4 : Int) ≠ 8 from by decide, if_true, if_false]; omega
 ·rw [if_neg (by omega), if_neg (by omega), if_neg (by omega), if_neg (by omega)]; omega
 ·simp only [show (8 : Int) ≠ 1 from by decide, show (8 : Int) ≠ 2 from by decide, show (8 : Int) ≠ 3 from by decide, if_true, if_false]; omega
theorem wordR_rng (k n t : Int) : U64 (wordR k n t) := by
 unfold wordR
 split
 ·exact wrd_rng (by assumption)
 ·unfold U64; omega
theorem raw_back {k n t : Int} (h : rightB k n t = true) : ofRaw (wrdB k n t) = (k, n, if k = 8 then t else 0) := by
 have hr := wrd_rng h
 unfold U64 wrdB at hr
 unfold ofRaw wrdB sgnW
 rcases right_cases h with ⟨rfl, h1, h2⟩ | ⟨rfl, h1, h2⟩ | ⟨rfl, h1, h2⟩ | ⟨rfl, h1, h2, h3⟩ | ⟨h0, h1, h2⟩ | ⟨rfl, h1, h2, h3, h4⟩
 ·simp only [if_true] at hr ⊢
  obtain ⟨m, hm⟩ : ∃ m, m = n * 8 % 18446744073709551616 := ⟨_, rfl⟩
  rw [<- hm] at hr ⊢
  rw [if_pos (by omega), if_neg (by decide : ¬ (1 : Int) = 8)]
  have e : (if m < 9223372036854775808 then m else m - 18446744073709551616) / 8 = n := by split <;> omega
  rw [e]
 ·simp only [show (2 : Int) ≠ 1 from by decide, if_true, if_false]
  rw [if_neg (by omega), if_pos (by omega), if_neg (by decide)]
  congr 2; omega
 ·simp only [show (3 : Int) ≠ 1 from by decide, show (3 : Int) ≠ 2 from by decide, if_true, if_false]
  rw [if_neg (by omega), if_neg (by omega), if_pos (by omega), if_pos (by omega), if_neg (by decide)]
  congr 2; omega
 ·simp only [show (4 : Int) ≠ 1 from by decide, show (4 : Int) ≠ 2 from by decide, show (4 : Int) ≠ 3 from by decide, show (4 : Int) ≠ 8 from by decide, if_true, if_false]
  rw [if_neg (by omega), if_neg (by omega), if_pos (by omega), if_neg (by omega), if_pos (by omega)]
  have e1 : (n * 256 + (4 + 2) * 8 + 2) / 8 % 32 - 2 = 4 := by omega
  have e2 : (n * 256 + (4 + 2) * 8 + 2) / 256 = n := by omega
  rw [e1, e2]
 ·rw [if_neg (by omega : ¬ k = 1), if_neg (by omega : ¬ k = 2), if_neg (by omega : ¬ k = 3), if_neg (by omega : ¬ k = 8), if_neg (by omega : ¬ k = 8)]
  rw [if_neg (by omega), if_neg (by omega), if_pos (by omega), if_neg (by omega), if_pos (by omega)]
  have e1 : (n * 256 + (k + 2) * 8 + 2) / 8 % 32 - 2 = k := by omega
  have e2 : (n * 256 + (k + 2) * 8 + 2) / 256 = n := by omega
  rw [e1, e2]
 ·simp only [show (8 : Int) ≠ 1 from by decide, show (8 : Int) ≠ 2 from by decide, show (8 : Int) ≠ 3 from by decide, if_true, if_false]
  rw [if_neg (by omega), if_neg (by omega), if_neg (by omega), if_pos (by omega)]
  have e1 : (n * 2048 + t * 8 + 7) / 8 % 256 = t := by omega
  have e2 : (n * 2048 + t * 8 + 7) / 2048 = n := by omega
  rw [e1, e2]
theorem right_norm {k n t : Int} : rightB k n (if k = 8 then t else 0) = rightB k n t := by
 unfold rightB
 by_cases h : k = 8
 ·simp only [if_pos h]
 ·simp only [if_neg h]
theorem word_back {k n t : Int} (h : rightB k n t = true) : ofR (wordR k n t) = (k, n, if k = 8 then t else 0) := by
 unfold wordR ofR
 rw [if_pos h, raw_back h]
 simp only [right_norm, h, if_true]
set_option maxRecDepth 100000
def Z64 (n : Int) : Prop := -9223372036854775808 <= n /\ n <= 9223372036854775807
theorem or_u64_0 (d : Nat) (h : d < 4294967296) : bits .or .u64 0 (d : Int) = ((d : Nat) : Int) := by
 have := u64_or_nat 0 d (by omega) (by omega)
 rw [Nat.zero_or] at this; exact this
theorem or_u64_32 (a d : Nat) (h1 : a < 4294967296) (h2 : d < 4294967296) : bits .or .u64 (a : Int) ((d : Int) * 4294967296) = ((a + 4294967296 * d : Nat) : Int) := by
 rw [show ((d : Int) * 4294967296) = ((d * 4294967296 : Nat) : Int) by omega, u64_or_nat _ _ (by omega) (by omega), Nat.or_comm, nat_join 32 _ _ (by omega) (by omega)]; omega
def fits (z : Int) : Bool := decide (-9223372036854775808 <= z /\ z <= 9223372036854775807)
theorem long_not_fits {s : Bool} {l : List Nat} (hg : goodB s l = true) (h : 2 < l.length) : fits (sgn s (val B32 l)) = false := by
 have h1 := (goodB_tr hg).pos (B := B32) (by decide) (by intro e; simp [e] at h)
 have h2 : B32 ^ 2 <= B32 ^ (l.length - 1) := Nat.pow_le_pow_right (by decide) (by omega)
 have h3 : B32 ^ 2 = 18446744073709551616 := by decide
 unfold fits sgn
 cases s <;> simp <;> omega
theorem short_lt {l : List Nat} (hd : Dg B32 l) (h : l.length <= 2) : val B32 l <= 18446744073709551615 := by
 have h1 := val_lt hd
 have h2 : B32 ^ l.length <= B32 ^ 2 := Nat.pow_le_pow_right (by decide) h
 have h3 : B32 ^ 2 = 18446744073709551616 := by decide
 omega
theorem wrap_neg (a : Nat) (h : a <= 9223372036854775808) : wrap64 (IntKind.u64.wrap (-(a : Int))) = -(a : Int) := by
 rw [IntKind.wrap_u64]; unfold wrap64; omega
def ToPost (w : World) (z : Int) (e : Ending) (w' : World) : Prop := ∃ v, e = .returned (.tuple #[.int .i64 v, .bool (fits z)]) /\ (fits z = true -> v = z) /\ Below w.heap.size w w'
theorem toPost_no {w w' : World} {z v : Int} (hf : fits z = false) (hb : Below w.heap.size w w') : ToPost w z (.returned (.tuple #[.int .i64 v, .bool false])) w' :=
 ⟨v, by rw [hf], fun h => (by rw [hf] at h; cases h), hb⟩
theorem toPost_yes {w w' : World} {z v : Int} (hf : fits z = true) (hv : v = z) (hb : Below w.heap.size w w') : ToPost w z (.returned (.tuple #[.int .i64 v, .bool true])) w' :=
 ⟨v, by rw [hf], fun _ => hv, hb⟩
set_option maxRecDepth 100000 in
set_option maxHeartbeats 1000000 in
theorem to_any (neg : Bool) (ao : Option Addr) (n cap : Nat) (l : List Nat) (w : World) (R : Row .u32 B32 w ao n cap l) (g : goodB neg l = true) :
  Calls Tryz.prog 176 #[.agg #[.bool neg, .slice ao n cap]] w (ToPost w (sgn neg (val B32 l))) := by
 have hmx := R.most
 have hft := R.fits
 unfold maxLen at hmx
 have HR := hid R
 have G := hid g
 have HL := hid R.len
 clear R g
 go_enter Tryz.func176, Tryz.ntmps176
 go_wp2_with fail
 refine (good_any neg ao n cap l _ (HR.out.below (Ba _ _))).mono ?_
 rintro e w1 ⟨rfl, hb1⟩
 rw [G.out]
 have X := hid ((Box.new 134 w neg ao n cap).on hb1)
 obtain ⟨c0, c1⟩ := X.out.c
 have HB := hid (Bt (Ba w (.cells #[.bool neg, .slice ao n cap] 134)) hb1)
 have R1 := hid (HR.out.below HB.out)
 clear hb1 HR
 by_cases h2 : 2 < n
 ·have e2 : decide ((2 : Int) < n) = true := by simp; omega
  have HF := hid (long_not_fits G.out (by rw [HL.out]; exact h2))
  go_wp2
  go_ret2
  exact toPost_no HF.out HB.out
 ·have e2 : decide ((2 : Int) < n) = false := by simp; omega
  have hV := short_lt R1.out.dg (by rw [HL.out]; omega)
  obtain ⟨V, hVV⟩ : ∃ V, V = val B32 l := ⟨_, rfl⟩
  rw [<- hVV] at hV
  have HV := hid hVV
  clear hVV
  go_wp2
  go_loop [4, 5, 6, 19] (fun m _ _ i => ∃ k a : Nat, k <= n /\ i = .int .i64 k /\ m = .int .u64 a /\ Hid (a = val B32 (l.take k))) (fun _ _ _ i => n - (intOf i).toNat)
  case atStart => exact ⟨0, 0, Nat.zero_le _, rfl, rfl, by simp [Hid, val]⟩
  case round =>
   obtain ⟨k, a, hk, rfl, rfl, ha⟩ := hrel
   by_cases hlt : k < n
   ·obtain ⟨b, o, rfl, hl, hc⟩ := R1.out.rd.some (by rw [HL.out]; omega)
    have hck := hc k (by rw [HL.out]; exact hlt)
    obtain ⟨d, hd⟩ : ∃ d, d = l.getD k 0 := ⟨_, rfl⟩
    rw [<- hd] at hck
    have hdb : d < 4294967296 := by rw [hd]; exact R1.out.dg.getD _ (by rw [HL.out]; exact hlt)
    have HS : Hid (val B32 (l.take (k + 1)) = a + B32 ^ k * d) := by
     unfold Hid; rw [val_take_succ B32 l k (by rw [HL.out]; exact hlt), <- ha.out, <- hd]
    clear hd hc
    have hk2 : k = 0 \/ k = 1 := by omega
    rcases hk2 with rfl | rfl
    ·obtain rfl : a = 0 := by have := ha.out; simpa [val] using this
     have hor := or_u64_0 d hdb
     simp only [Nat.add_zero] at hck
     go_wp2
     exact ⟨⟨1, d, by omega, rfl, rfl, by unfold Hid; rw [HS.out]; simp⟩, by simp [intOf]; omega⟩
    ·have hab : a < 4294967296 := by
      have h1 := ha.out
      have h2 := val_lt (R1.out.dg.take 1)
      have h3 : B32 ^ (l.take 1).length <= B32 ^ 1 := Nat.pow_le_pow_right (by decide) (by rw [List.length_take]; omega)
      have h4 : B32 ^ 1 = 4294967296 := by decide
      omega
     have hor := or_u64_32 a d hab hdb
     obtain ⟨A, hA⟩ : ∃ A, A = a + 4294967296 * d := ⟨_, rfl⟩
     rw [<- hA] at hor
     have HA := hid hA
     clear hA
     go_wp2
     exact ⟨⟨2, A, by omega, rfl, rfl, by unfold Hid; rw [HS.out, HA.out]; simp [B32]⟩, by simp [intOf]; omega⟩
   ·have haV : a = V := by rw [ha.out, HV.out, List.take_of_length_le (by rw [HL.out]; omega)]
    subst haV
    clear ha
    cases neg
    ·by_cases hf : a <= 9223372036854775807
     ·have HF : Hid (fits (sgn false a) = true) := by unfold Hid fits sgn; simp; omega
      have ec : decide ((a : Int) < 9223372036854775808) = true := by rw [decide_eq_true_eq]; omega
      go_wp2
      go_ret2
      rw [<- HV.out]
      exact toPost_yes HF.out (by simp [sgn]) HB.out
     ·have HF : Hid (fits (sgn false a) = false) := by unfold Hid fits sgn; simp; omega
      have ec : decide ((a : Int) < 9223372036854775808) = false := by rw [decide_eq_false_iff_not]; omega
      go_wp2
      go_ret2
      rw [<- HV.out]
      exact toPost_no HF.out HB.out
    ·by_cases hf : a <= 9223372036854775808
     ·have HF : Hid (fits (sgn true a) = true) := by unfold Hid fits sgn; simp; omega
      go_wp2
      go_ret2
      rw [<- HV.out]
      exact toPost_yes HF.out ((wrap_neg a hf).trans (by simp [sgn])) HB.out
     ·have HF : Hid (fits (sgn true a) = false) := by unfold Hid fits sgn; simp; omega
      go_wp2
      go_ret2
      rw [<- HV.out]
      exact toPost_no HF.out HB.out
theorem u64_nat {x : Int} (h : U64 x) : ∃ a : Nat, x = (a : Int) /\ a < 18446744073709551616 := ⟨x.toNat, by unfold U64 at h; omega, by unfold U64 at h; omega⟩
theorem u64_or_nat (a b : Nat) (ha : a < 18446744073709551616) (hb : b < 18446744073709551616) : bits .or .u64 (a : Int) (b : Int) = ((a ||| b : Nat) : Int) := by
 have hx : a ||| b < 2 ^ 64 := Nat.or_lt_two_pow (by omega) (by omega)
 have h1 : (BitVec.ofInt 64 (a : Int)).toNat = a := by
  rw [BitVec.ofInt_natCast, BitVec.toNat_ofNat]; exact Nat.mod_eq_of_lt (by omega)
 have h2 : (BitVec.ofInt 64 (b : Int)).toNat = b := by
  rw [BitVec.ofInt_natCast, BitVec.toNat_ofNat]; exact Nat.mod_eq_of_lt (by omega)
 show IntKind.u64.wrap ((BitVec.ofInt 64 (a : Int) ||| BitVec.ofInt 64 (b : Int)).toNat : Int) = _
 rw [BitVec.toNat_or, h1, h2, IntKind.wrap_u64]
 omega
theorem u64_and_nat (a b : Nat) (ha : a < 18446744073709551616) (hb : b < 18446744073709551616) : bits .and .u64 (a : Int) (b : Int) = ((a &&& b : Nat) : Int) := by
 have hx : a &&& b <= a := Nat.and_le_left
 have h1 : (BitVec.ofInt 64 (a : Int)).toNat = a := by
  rw [BitVec.ofInt_natCast, BitVec.toNat_ofNat]; exact Nat.mod_eq_of_lt (by omega)
 have h2 : (BitVec.ofInt 64 (b : Int)).toNat = b := by
  rw [BitVec.ofInt_natCast, BitVec.toNat_ofNat]; exact Nat.mod_eq_of_lt (by omega)
 show IntKind.u64.wrap ((BitVec.ofInt 64 (a : Int) &&& BitVec.ofInt 64 (b : Int)).toNat : Int) = _
 rw [BitVec.toNat_and, h1, h2, IntKind.wrap_u64]
 omega
theorem nat_or_join (k a b : Nat) (hb : b < 2 ^ k) : a * 2 ^ k ||| b = a * 2 ^ k + b := by
 rw [Nat.mul_comm, Nat.two_pow_add_eq_or_of_lt hb]
theorem u64_or (k : Nat) {x b : Int} (hx : U64 x) (hd : ∃ a : Nat, x = (a : Int) * 2 ^ k) (hb0 : 0 <= b) (hb : b < 2 ^ k) (hb2 : b < 18446744073709551616) : bits .or .u64 x b = x + b := by
 obtain ⟨a, rfl⟩ := hd
 obtain ⟨m, rfl⟩ : ∃ m : Nat, b = (m : Int) := ⟨b.toNat, by omega⟩
 have e : ((a : Int) * 2 ^ k) = ((a * 2 ^ k : Nat) : Int) := by push_cast; rfl
 rw [e] at hx ⊢
 unfold U64 at hx
 rw [u64_or_nat _ _ (by omega) (by omega), nat_or_join k a m (by exact_mod_cast hb)]
 push_cast; rfl
theorem u64_and (k : Nat) {x : Int} (hx : U64 x) (hk : 2 ^ k <= 18446744073709551616) : bits .and .u64 x ((2 ^ k - 1 : Nat) : Int) = x % ((2 ^ k : Nat) : Int) := by
 obtain ⟨a, rfl, ha⟩ := u64_nat hx
 have h0 : 0 < 2 ^ k := Nat.two_pow_pos k
 rw [u64_and_nat a (2 ^ k - 1) ha (by omega), Nat.and_two_pow_sub_one_eq_mod]
 rfl
theorem and7 {x : Int} (hx : U64 x) : bits .and .u64 x 7 = x % 8 := u64_and 3 hx (by decide)
theorem and255w {x : Int} (hx : U64 x) : bits .and .u64 x 255 = x % 256 := u64_and 8 hx (by decide)
theorem or_low3 {x b : Int} (hx : U64 x) (hd : x % 8 = 0) (hb : 0 <= b /\ b < 8) : bits .or .u64 x b = x + b :=
 u64_or 3 hx ⟨(x / 8).toNat, by unfold U64 at hx; omega⟩ hb.1 (by omega) (by omega)
theorem or_low8 {x b : Int} (hx : U64 x) (hd : x % 256 = 0) (hb : 0 <= b /\ b < 256) : bits .or .u64 x b = x + b :=
 u64_or 8 hx ⟨(x / 256).toNat, by unfold U64 at hx; omega⟩ hb.1 (by omega) (by omega)
theorem or_low11 {x b : Int} (hx : U64 x) (hd : x % 2048 = 0) (hb : 0 <= b /\ b < 2048) : bits .or .u64 x b = x + b :=
 u64_or 11 hx ⟨(x / 2048).toNat, by unfold U64 at hx; omega⟩ hb.1 (by omega) (by omega)
section
variable {P : Program} {w : World} {ops : Array Oper} {o : Oper} {a : Act} {K : Act -> World -> Prop} {Q : Exit -> Act -> World -> Prop} {E : Prop}
end
section
variable {P : Program} {ops : Array Oper} {Q : Exit -> Act -> World -> Prop} {md : Region.Mode} {S : World -> Prop}
theorem htake (i : Nat) (d : Option Nat) (v : Value) {oi : Oper} {fuel : Nat} {listed : Array Bool} {a : Act} {w : World} (hi : ops[i]? = some oi) (hd : oi.dst = d)
  (hs : Region.noSelect ops = true) (hf : Region.free md ops listed i = true) (hr : (Region.ready md ops listed).contains i = true)
  (hQ : ∀ c a w, Q (.panic c) (a.put d v) w -> Q (.panic c) a w) (hy : YieldsIf P ops S oi v a) (hS : S w)
  (h : wpAnyH P md ops Q S fuel (listed.setIfInBounds i true) (a.put d v) w) : wpAnyH P md ops Q S (fuel + 1) listed a w := by
 subst hd
 exact wpAnyH_take hi hs hf hr hQ hy hS h
theorem hone (i : Nat) (o : Oper) {fuel : Nat} {listed : Array Bool} {a : Act} {w : World} (ho : ops[i]? = some o) (hr : Region.ready md ops listed = [i])
  (h : ∀ K' : Act -> World -> Prop, Shut (∀ a w, S w -> (S w -> wpAnyH P md ops Q S fuel (listed.setIfInBounds i true) a w) -> K' a w) -> if Region.wanted o (yielded ops a.tmps) = true then Oper.wp P o a w K' Q else K' (a.put o.dst undef) w) :
  wpAnyH P md ops Q S (fuel + 1) listed a w := wpAnyH_ready hr (by simp) (AllReadyH.cons ho h AllReadyH.nil)
end
section
variable {P : Program} {ops : Array Oper} {Q : Exit -> Act -> World -> Prop} {md : Region.Mode} {S : World -> Prop} {σ : Type} {L : σ -> Array Bool} {m : σ -> Nat} {Inv : σ -> Act -> World -> Prop}
def Steps (P : Program) (ops : Array Oper) (Q : Exit -> Act -> World -> Prop) (S : World -> Prop) (L : σ -> Array Bool) (m : σ -> Nat) (Inv : σ -> Act -> World -> Prop) (s : σ) (a : Act) (w : World) (rs : List Nat) : Prop :=
 ∀ i ∈ rs, wpOp P ops Q i (fun a' w' => S w' /\ ∃ s', L s' = (L s).setIfInBounds i true /\ m s = m s' + 1 /\ Inv s' a' w') a w
theorem Steps.nil {s : σ} {a : Act} {w : World} : Steps P ops Q S L m Inv s a w [] := fun _ h => by cases h
theorem Steps.cons {s : σ} {a : Act} {w : World} {i : Nat} {o : Oper} {rs : List Nat} (s' : σ) (ho : ops[i]? = some o) (hL : L s' = (L s).setIfInBounds i true) (hm : m s = m s' + 1)
  (h : ∀ K' : Act -> World -> Prop, Shut (∀ a w, S w -> Inv s' a w -> K' a w) -> if Region.wanted o (yielded ops a.tmps) = true then Oper.wp P o a w K' Q else K' (a.put o.dst undef) w)
  (hs : Steps P ops Q S L m Inv s a w rs) : Steps P ops Q S L m Inv s a w (i :: rs) := fun j hj => by
 rcases List.mem_cons.1 hj with rfl | hj
 ·exact wpOp_step ho (fun K' hK => h K' (fun a w hS hW => hK a w ⟨hS, s', hL, hm, hW⟩))
 ·exact hs j hj
theorem wpAnyH_inv (L : σ -> Array Bool) (m : σ -> Nat) (Inv : σ -> Act -> World -> Prop) (base : Nat)
  (h : ∀ s a w, Inv s a w -> (m s = 0 /\ wpAnyH P md ops Q S base (L s) a w) \/ (∃ rs, 0 < m s /\ Region.ready md ops (L s) = rs /\ rs ≠ [] /\ Steps P ops Q S L m Inv s a w rs)) :
  ∀ n s a w, m s = n -> Inv s a w -> wpAnyH P md ops Q S (base + n) (L s) a w
 | 0, s, a, w, hn, hI => by
  rcases h s a w hI with ⟨_, h1⟩ | ⟨rs, h1, _⟩
  ·exact h1
  ·omega
 | n + 1, s, a, w, hn, hI => by
  rcases h s a w hI with ⟨h0, _⟩ | ⟨rs, _, h1, h2, h3⟩
  ·omega
  ·refine wpAnyH_all h1 h2 (fun i hi => wpOp_mono (fun a' w' => ?_) (h3 i hi))
   rintro ⟨hS, s', hL, hm, hI'⟩
   refine ⟨hS, ?_⟩
   rw [<- hL]
   exact wpAnyH_inv L m Inv base h n s' a' w' (by omega) hI'
theorem wpAnyH_from (L : σ -> Array Bool) (m : σ -> Nat) (Inv : Act -> σ -> Act -> World -> Prop) (base n : Nat) (s : σ) {a0 : Act} {w : World} (hn : m s = n) (h0 : Inv a0 s a0 w)
  (h : ∀ s a w, Inv a0 s a w -> (m s = 0 /\ wpAnyH P md ops Q S base (L s) a w) \/ (∃ rs, 0 < m s /\ Region.ready md ops (L s) = rs /\ rs ≠ [] /\ Steps P ops Q S L m (Inv a0) s a w rs)) :
  wpAnyH P md ops Q S (base + n) (L s) a0 w := wpAnyH_inv L m (Inv a0) base h n s a0 w hn h0
end
structure Ob where
 kind : Int
 f : List Int
deriving Inhabited
def usedL : List Ob -> Nat
 | [] => 0
 | x :: l => 1 + x.f.length + usedL l
theorem usedL_append (a b : List Ob) : usedL (a ++ b) = usedL a + usedL b := by
 induction a with
 | nil => simp [usedL]
 | cons x l ih => simp only [List.cons_append, usedL, ih]; omega
def uz (l : List Int) : List Value := l.map (Value.int .u64)
theorem uz_append (a b : List Int) : uz (a ++ b) = uz a ++ uz b := by simp [uz]
theorem uz_length (l : List Int) : (uz l).length = l.length := by simp [uz]
theorem uz_get {l : List Int} {i : Nat} (h : i < l.length) : (uz l)[i]? = some (.int .u64 (l.getD i 0)) := by
 simp [uz, List.getElem?_map, List.getElem?_eq_getElem h, List.getD_eq_getElem?_getD]
structure Mod (F : Nat -> Prop) (w w' : World) : Prop where
 os : w'.os = w.os
 tape : w'.tape = w.tape
 output : w'.output = w.output
 size : w.heap.size <= w'.heap.size
 block : ∀ b, b < w.heap.size -> ¬ F b -> w'.heap[b]? = w.heap[b]?
section
variable {F G : Nat -> Prop} {w w1 w2 : World}
theorem Mod.refl (F : Nat -> Prop) (w : World) : Mod F w w := ⟨rfl, rfl, rfl, Nat.le_refl _, fun _ _ _ => rfl⟩
theorem Mod.of_below (F : Nat -> Prop) (h : Below w.heap.size w w1) : Mod F w w1 := ⟨h.os, h.tape, h.output, h.size, fun b hb _ => h.block b hb⟩
theorem Mod.trans (h : Mod F w w1) (k : Mod G w1 w2) (hG : ∀ b, b < w.heap.size -> G b -> F b) : Mod F w w2 :=
 ⟨k.os.trans h.os, k.tape.trans h.tape, k.output.trans h.output, Nat.le_trans h.size k.size, fun b hb hF => (k.block b (Nat.lt_of_lt_of_le hb h.size) (fun e => hF (hG b hb e))).trans (h.block b hb hF)⟩
theorem Mod.mono (h : Mod F w w1) (hG : ∀ b, b < w.heap.size -> F b -> G b) : Mod G w w1 := ⟨h.os, h.tape, h.output, h.size, fun b hb hg => h.block b hb (fun e => hg (hG b hb e))⟩
theorem Mod.below (h : Mod F w w1) {B : Nat} (hF : ∀ b, F b -> B <= b) (hB : B <= w.heap.size) : Below B w w1 := ⟨h.os, h.tape, h.output, h.size, fun b hb => h.block b (by omega) (fun e => by have := hF b e; omega)⟩
theorem Mod.setCell (h : Mod F w w1) {p : Addr} (hp : F p.block \/ w.heap.size <= p.block) (u : Value) : Mod F w (w1.setCell p u) :=
 ⟨h.os, h.tape, h.output, by have := h.size; simp [World.setCell]; omega, fun b hb hF => (Below.heap_setCell _ _ _ _ (fun e => by subst e; rcases hp with h' | h'; exact hF h'; omega)).trans (h.block b hb hF)⟩
theorem Mod.grown {row : Option Nat} (h : Mod F w w1) (hg : w1.grownBy w2 row) (hr : ∀ k, row = some k -> F k \/ w.heap.size <= k) : Mod F w w2 :=
 ⟨hg.os.trans h.os, hg.tape.trans h.tape, hg.output.trans h.output, Nat.le_trans h.size hg.size, fun b hb hF => (hg.block b (Nat.lt_of_lt_of_le hb h.size) (fun e => by rcases hr b e.symm with h' | h'; exact hF h'; omega)).trans (h.block b hb hF)⟩
end
theorem own_at {w w' : World} {base : Nat} {e : TypeId} {k : Nat} {v : Value} {n : Nat} {xs : List Value} (h : w.ownsRow base e k v n xs) (hb : ∀ b, v.ownBlock = some b -> w'.heap[b]? = w.heap[b]?) : w'.ownsRow base e k v n xs := by
 refine ⟨h.1, ?_⟩
 rcases h.2 with h0 | ⟨g, cap, cur, h1, h2, h3, h4⟩
 ·exact .inl h0
 ·exact .inr ⟨g, cap, cur, h1, h2, (hb g (by rw [h1]; rfl)).trans h3, h4⟩
def atO (os : List Ob) (i : Nat) : Nat := usedL (os.take i)
theorem used_take_le (os : List Ob) (i : Nat) : atO os i <= usedL os := by
 have : usedL os = usedL (os.take i) + usedL (os.drop i) := by rw [<- usedL_append, List.take_append_drop]
 unfold atO; omega
theorem len_le_used (os : List Ob) : os.length <= usedL os := by
 induction os with
 | nil => simp
 | cons x l ih => simp only [List.length_cons, usedL]; omega
def fnd (os : List Ob) (n : Int) (i : Nat) : Option Nat := if i < os.length then (if (atO os i : Int) = n then some i else fnd os n (i + 1)) else none
termination_by os.length - i
def findM (os : List Ob) (p : Int) : Option Nat := if (ofR p).1 = 2 then fnd os (ofR p).2.1 0 else none
theorem fnd_lt {os : List Ob} {n : Int} {i j : Nat} (h : fnd os n i = some j) : j < os.length /\ (atO os j : Int) = n := by
 induction hk : os.length - i generalizing i with
 | zero => rw [fnd, if_neg (by omega)] at h; cases h
 | succ k ih =>
  rw [fnd, if_pos (by omega)] at h
  split at h
  ·injection h with h; subst h; exact ⟨by omega, by assumption⟩
  ·exact ih h (by omega)
def fieldM (os : List Ob) (p kind i : Int) : Int × Int :=
 match findM os p with
 | none => (0, 70)
 | some n => if kind ≠ 0 /\ (os.getD n default).kind ≠ kind then (0, 70) else if i < 0 \/ ((os.getD n default).f.length : Int) <= i then (0, 2) else ((n : Int), 0)
def getM (os : List Ob) (p kind i : Int) : Int × Int :=
 if (fieldM os p kind i).2 = 0 then ((os.getD (fieldM os p kind i).1.toNat default).f.getD i.toNat 0, 0) else (0, (fieldM os p kind i).2)
theorem findM_lt {os : List Ob} {p : Int} {n : Nat} (h : findM os p = some n) : n < os.length /\ (atO os n : Int) = (ofR p).2.1 := by
 unfold findM at h
 split at h
 ·exact fnd_lt h
 ·cases h
theorem fieldM_ok {os : List Ob} {p kind i : Int} (h : (fieldM os p kind i).2 = 0) : ∃ n : Nat, fieldM os p kind i = ((n : Int), 0) /\ n < os.length /\ findM os p = some n /\ 0 <= i /\ i < (os.getD n default).f.length := by
 unfold fieldM at h ⊢
 cases hf : findM os p with
 | none => rw [hf] at h; simp at h
 | some n =>
  rw [hf] at h
  simp only at h ⊢
  split at h
  ·simp at h
  ·rename_i h1
   split at h
   ·simp at h
   ·rename_i h2
    exact ⟨n, by rw [if_neg h1, if_neg h2], (findM_lt hf).1, rfl, by omega, by omega⟩
end Go.Proofs.YtadfihnffboelaaGreatDoor
