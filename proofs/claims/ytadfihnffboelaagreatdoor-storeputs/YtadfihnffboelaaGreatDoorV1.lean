import Derived.Test.YtadfihnffboelaaGreatDoorW43
import Derived.Test.YtadfihnffboelaaGreatDoorX1
import Derived.Laws.BitsAllLaws
import Derived.Deep.RegionLaw
import Derived.Deep.AppendLies
import Derived.Laws.AppendOwnNone
import Derived.Deep.RegionHeld3
import Derived.BigQuiet
import Derived.Deep.QuietTactic
set_option linter.unusedVariables false
set_option linter.unusedSimpArgs false
namespace Go.Proofs.YtadfihnffboelaaGreatDoor
open Go.RowKit
theorem znc (d : Nat) (h : d < 4294967296) : bits .or .u64 0 (d : Int) = ((d : Nat) : Int) := by
 have := u64_or_nat 0 d (by omega) (by omega)
 rw [Nat.zero_or] at this; exact this
theorem zjk (a d : Nat) (h1 : a < 4294967296) (h2 : d < 4294967296) : bits .or .u64 (a : Int) ((d : Int) * 4294967296) = ((a + 4294967296 * d : Nat) : Int) := by
 rw [show ((d : Int) * 4294967296) = ((d * 4294967296 : Nat) : Int) by omega, u64_or_nat _ _ (by omega) (by omega), Nat.or_comm, nat_join 32 _ _ (by omega) (by omega)]; omega
def fits (z : Int) : Bool := decide (-9223372036854775808 <= z /\ z <= 9223372036854775807)
theorem zbx {s : Bool} {l : List Nat} (hg : qa s l = true) (h : 2 < l.length) : fits (sgn s (val B32 l)) = false := by
 have h1 := (xh hg).pos (B := B32) (by decide) (by intro e; simp [e] at h)
 have h2 : B32 ^ 2 <= B32 ^ (l.length - 1) := Nat.pow_le_pow_right (by decide) (by omega)
 have h3 : B32 ^ 2 = 18446744073709551616 := by decide
 unfold fits sgn
 cases s <;> simp <;> omega
theorem znd {l : List Nat} (hd : Dg B32 l) (h : l.length <= 2) : val B32 l <= 18446744073709551615 := by
 have h1 := zau hd
 have h2 : B32 ^ l.length <= B32 ^ 2 := Nat.pow_le_pow_right (by decide) h
 have h3 : B32 ^ 2 = 18446744073709551616 := by decide
 omega
theorem zwe (a : Nat) (h : a <= 9223372036854775808) : wrap64 (IntKind.u64.wrap (-(a : Int))) = -(a : Int) := by
 rw [IntKind.wrap_u64]; unfold wrap64; omega
def zfx (w : World) (z : Int) (e : Ending) (w' : World) : Prop := ∃ v, e = .returned (.tuple #[.int .i64 v, .bool (fits z)]) /\ (fits z = true -> v = z) /\ Below w.heap.size w w'
theorem xw {w w' : World} {z v : Int} (hf : fits z = false) (hb : Below w.heap.size w w') : zfx w z (.returned (.tuple #[.int .i64 v, .bool false])) w' :=
 ⟨v, by rw [hf], fun h => (by rw [hf] at h; cases h), hb⟩
theorem zaj {w w' : World} {z v : Int} (hf : fits z = true) (hv : v = z) (hb : Below w.heap.size w w') : zfx w z (.returned (.tuple #[.int .i64 v, .bool true])) w' :=
 ⟨v, by rw [hf], fun _ => hv, hb⟩
set_option maxRecDepth 100000 in
set_option maxHeartbeats 1000000 in
theorem zcg1 (neg : Bool) (ao : Option Addr) (n cap : Nat) (l : List Nat) (w : World) (R : Row .u32 B32 w ao n cap l) (g : qa neg l = true) :
  Calls Tryz.prog 176 #[.agg #[.bool neg, .slice ao n cap]] w (zfx w (sgn neg (val B32 l))) := by
 have hmx := R.most
 have hft := R.fits
 unfold maxLen at hmx
 have HR := hid R
 have G := hid g
 have HL := hid R.len
 clear R g
 go_enter Tryz.func176, Tryz.ntmps176
 go_wp2_with fail
 refine (zdk neg ao n cap l _ (HR.out.below (Ba _ _))).mono ?_
 rintro e w1 ⟨rfl, hb1⟩
 rw [G.out]
 have X := hid ((Box.new 134 w neg ao n cap).on hb1)
 obtain ⟨c0, c1⟩ := X.out.c
 have HB := hid (Bt (Ba w (.cells #[.bool neg, .slice ao n cap] 134)) hb1)
 have R1 := hid (HR.out.below HB.out)
 clear hb1 HR
 by_cases h2 : 2 < n
 ·have e2 : decide ((2 : Int) < n) = true := by simp; omega
  have HF := hid (zbx G.out (by rw [HL.out]; exact h2))
  go_wp2
  go_ret2
  exact xw HF.out HB.out
 ·have e2 : decide ((2 : Int) < n) = false := by simp; omega
  have hV := znd R1.out.dg (by rw [HL.out]; omega)
  obtain ⟨V, hVV⟩ : ∃ V, V = val B32 l := ⟨_, rfl⟩
  rw [<- hVV] at hV
  have HV := hid hVV
  clear hVV
  go_wp2
  go_loop [4, 5, 6, 19] (fun m _ _ i => ∃ k a : Nat, k <= n /\ i = .int .i64 k /\ m = .int .u64 a /\ Hid (a = val B32 (l.take k))) (fun _ _ _ i => n - (intOf i).toNat)
  case atStart => exact ⟨0, 0, Nat.zero_le _, rfl, rfl, by simp [Hid, val]⟩
  case round =>
   obtain ⟨k, a, hk, rfl, rfl, ha⟩ := hrel
   by_cases hlt : k < n
   ·obtain ⟨b, o, rfl, hl, hc⟩ := R1.out.rd.some (by rw [HL.out]; omega)
    have hck := hc k (by rw [HL.out]; exact hlt)
    obtain ⟨d, hd⟩ : ∃ d, d = l.getD k 0 := ⟨_, rfl⟩
    rw [<- hd] at hck
    have hdb : d < 4294967296 := by rw [hd]; exact R1.out.dg.getD _ (by rw [HL.out]; exact hlt)
    have HS : Hid (val B32 (l.take (k + 1)) = a + B32 ^ k * d) := by
     unfold Hid; rw [j9 B32 l k (by rw [HL.out]; exact hlt), <- ha.out, <- hd]
    clear hd hc
    have hk2 : k = 0 \/ k = 1 := by omega
    rcases hk2 with rfl | rfl
    ·obtain rfl : a = 0 := by have := ha.out; simpa [val] using this
     have hor := znc d hdb
     simp only [Nat.add_zero] at hck
     go_wp2
     exact ⟨⟨1, d, by omega, rfl, rfl, by unfold Hid; rw [HS.out]; simp⟩, by simp [intOf]; omega⟩
    ·have hab : a < 4294967296 := by
      have h1 := ha.out
      have h2 := zau (R1.out.dg.take 1)
      have h3 : B32 ^ (l.take 1).length <= B32 ^ 1 := Nat.pow_le_pow_right (by decide) (by rw [List.length_take]; omega)
      have h4 : B32 ^ 1 = 4294967296 := by decide
      omega
     have hor := zjk a d hab hdb
     obtain ⟨A, hA⟩ : ∃ A, A = a + 4294967296 * d := ⟨_, rfl⟩
     rw [<- hA] at hor
     have HA := hid hA
     clear hA
     go_wp2
     exact ⟨⟨2, A, by omega, rfl, rfl, by unfold Hid; rw [HS.out, HA.out]; simp [B32]⟩, by simp [intOf]; omega⟩
   ·have haV : a = V := by rw [ha.out, HV.out, List.take_of_length_le (by rw [HL.out]; omega)]
    subst haV
    clear ha
    cases neg
    ·by_cases hf : a <= 9223372036854775807
     ·have HF : Hid (fits (sgn false a) = true) := by unfold Hid fits sgn; simp; omega
      have ec : decide ((a : Int) < 9223372036854775808) = true := by rw [decide_eq_true_eq]; omega
      go_wp2
      go_ret2
      rw [<- HV.out]
      exact zaj HF.out (by simp [sgn]) HB.out
     ·have HF : Hid (fits (sgn false a) = false) := by unfold Hid fits sgn; simp; omega
      have ec : decide ((a : Int) < 9223372036854775808) = false := by rw [decide_eq_false_iff_not]; omega
      go_wp2
      go_ret2
      rw [<- HV.out]
      exact xw HF.out HB.out
    ·by_cases hf : a <= 9223372036854775808
     ·have HF : Hid (fits (sgn true a) = true) := by unfold Hid fits sgn; simp; omega
      go_wp2
      go_ret2
      rw [<- HV.out]
      exact zaj HF.out ((zwe a hf).trans (by simp [sgn])) HB.out
     ·have HF : Hid (fits (sgn true a) = false) := by unfold Hid fits sgn; simp; omega
      go_wp2
      go_ret2
      rw [<- HV.out]
      exact xw HF.out HB.out
theorem zlq (a : Nat) (h : a <= 9223372036854775808) : wrap64 (-(wrap64 (a : Int))) = -(a : Int) := by
 unfold wrap64; omega
set_option maxRecDepth 100000 in
set_option maxHeartbeats 1000000 in
theorem zzr (neg : Bool) (ao : Option Addr) (n cap : Nat) (l : List Nat) (w : World) (R : Row .u32 B32 w ao n cap l) (g : qa neg l = true) :
  Calls Tryz.prog 126 #[.agg #[.bool neg, .slice ao n cap]] w (zfx w (sgn neg (val B32 l))) := by
 have hmx := R.most
 have hft := R.fits
 unfold maxLen at hmx
 have G := hid g
 have HL := hid R.len
 have HR := hid R
 clear R g
 by_cases h2 : 2 < n
 ·have e2 : decide ((2 : Int) < n) = true := by simp; omega
  have HF := hid (zbx G.out (by rw [HL.out]; exact h2))
  go_enter Tryz.func126, Tryz.ntmps126
  go_wp2
  go_ret2
  exact xw HF.out (Ba _ _)
 ·have e2 : decide ((2 : Int) < n) = false := by simp; omega
  have hV := znd HR.out.dg (by rw [HL.out]; omega)
  obtain ⟨V, hVV⟩ : ∃ V, V = val B32 l := ⟨_, rfl⟩
  rw [<- hVV] at hV
  have HV := hid hVV
  clear hVV
  go_enter Tryz.func126, Tryz.ntmps126
  go_wp2
  have X := Box.new 134 w neg ao n cap
  have bW := Ba w (.cells #[.bool neg, .slice ao n cap] 134)
  generalize hW : w.alloc (.cells #[.bool neg, .slice ao n cap] 134) = W at *
  have R1 := hid (HR.out.below bW)
  have HB := hid bW
  obtain ⟨c0, c1⟩ := X.c
  clear hW bW X HR
  go_loop [4, 5] (fun m i => ∃ k a : Nat, k <= n /\ i = .int .i64 k /\ m = .int .u64 a /\ Hid (a = val B32 (l.take k))) (fun _ i => n - (intOf i).toNat)
  case atStart => exact ⟨0, 0, Nat.zero_le _, rfl, rfl, by simp [Hid, val]⟩
  case round =>
   obtain ⟨k, a, hk, rfl, rfl, ha⟩ := hrel
   by_cases hlt : k < n
   ·obtain ⟨b, o, rfl, hl, hc⟩ := R1.out.rd.some (by rw [HL.out]; omega)
    have hck := hc k (by rw [HL.out]; exact hlt)
    obtain ⟨d, hd⟩ : ∃ d, d = l.getD k 0 := ⟨_, rfl⟩
    rw [<- hd] at hck
    have hdb : d < 4294967296 := by rw [hd]; exact R1.out.dg.getD _ (by rw [HL.out]; exact hlt)
    have HS : Hid (val B32 (l.take (k + 1)) = a + B32 ^ k * d) := by
     unfold Hid; rw [j9 B32 l k (by rw [HL.out]; exact hlt), <- ha.out, <- hd]
    clear hd hc
    have hk2 : k = 0 \/ k = 1 := by omega
    rcases hk2 with rfl | rfl
    ·obtain rfl : a = 0 := by have := ha.out; simpa [val] using this
     have hor := znc d hdb
     simp only [Nat.add_zero] at hck
     go_wp2
     go_round
     case rel => exact ⟨1, d, by omega, rfl, rfl, by unfold Hid; rw [HS.out]; simp⟩
     case measure => simp [intOf]; omega
    ·have hab : a < 4294967296 := by
      have h1 := ha.out
      have h2 := zau (R1.out.dg.take 1)
      have h3 : B32 ^ (l.take 1).length <= B32 ^ 1 := Nat.pow_le_pow_right (by decide) (by rw [List.length_take]; omega)
      have h4 : B32 ^ 1 = 4294967296 := by decide
      omega
     have hor := zjk a d hab hdb
     obtain ⟨A, hA⟩ : ∃ A, A = a + 4294967296 * d := ⟨_, rfl⟩
     rw [<- hA] at hor
     have HA := hid hA
     clear hA
     go_wp2
     go_round
     case rel => exact ⟨2, A, by omega, rfl, rfl, by unfold Hid; rw [HS.out, HA.out]; simp [B32]⟩
     case measure => simp [intOf]; omega
   ·have haV : a = V := by rw [ha.out, HV.out, List.take_of_length_le (by rw [HL.out]; omega)]
    subst haV
    clear ha
    cases neg
    ·by_cases hf : a <= 9223372036854775807
     ·have HF : Hid (fits (sgn false a) = true) := by unfold Hid fits sgn; simp; omega
      have ec : decide ((9223372036854775808 : Int) <= a) = false := by rw [decide_eq_false_iff_not]; omega
      go_wp2
      go_ret2
      rw [<- HV.out]
      exact zaj HF.out (by simp [sgn]) HB.out
     ·have HF : Hid (fits (sgn false a) = false) := by unfold Hid fits sgn; simp; omega
      have ec : decide ((9223372036854775808 : Int) <= a) = true := by rw [decide_eq_true_eq]; omega
      go_wp2
      go_ret2
      rw [<- HV.out]
      exact xw HF.out HB.out
    ·by_cases hf : a <= 9223372036854775808
     ·have HF : Hid (fits (sgn true a) = true) := by unfold Hid fits sgn; simp; omega
      have ec : decide ((a : Int) <= 9223372036854775808) = true := by rw [decide_eq_true_eq]; omega
      go_wp2
      go_ret2
      rw [<- HV.out]
      exact zaj HF.out ((zlq a hf).trans (by simp [sgn])) HB.out
     ·have HF : Hid (fits (sgn true a) = false) := by unfold Hid fits sgn; simp; omega
      have ec : decide ((a : Int) <= 9223372036854775808) = false := by rw [decide_eq_false_iff_not]; omega
      go_wp2
      go_ret2
      rw [<- HV.out]
      exact xw HF.out HB.out
theorem zzs {x : Int} (h : U64 x) : ∃ a : Nat, x = (a : Int) /\ a < 18446744073709551616 := ⟨x.toNat, by unfold U64 at h; omega, by unfold U64 at h; omega⟩
theorem u64_or_nat (a b : Nat) (ha : a < 18446744073709551616) (hb : b < 18446744073709551616) : bits .or .u64 (a : Int) (b : Int) = ((a ||| b : Nat) : Int) := by
 have hx : a ||| b < 2 ^ 64 := Nat.or_lt_two_pow (by omega) (by omega)
 have h1 : (BitVec.ofInt 64 (a : Int)).toNat = a := by
  rw [BitVec.ofInt_natCast, BitVec.toNat_ofNat]; exact Nat.mod_eq_of_lt (by omega)
 have h2 : (BitVec.ofInt 64 (b : Int)).toNat = b := by
  rw [BitVec.ofInt_natCast, BitVec.toNat_ofNat]; exact Nat.mod_eq_of_lt (by omega)
 show IntKind.u64.wrap ((BitVec.ofInt 64 (a : Int) ||| BitVec.ofInt 64 (b : Int)).toNat : Int) = _
 rw [BitVec.toNat_or, h1, h2, IntKind.wrap_u64]
 omega
theorem zlr (a b : Nat) (ha : a < 18446744073709551616) (hb : b < 18446744073709551616) : bits .and .u64 (a : Int) (b : Int) = ((a &&& b : Nat) : Int) := by
 have hx : a &&& b <= a := Nat.and_le_left
 have h1 : (BitVec.ofInt 64 (a : Int)).toNat = a := by
  rw [BitVec.ofInt_natCast, BitVec.toNat_ofNat]; exact Nat.mod_eq_of_lt (by omega)
 have h2 : (BitVec.ofInt 64 (b : Int)).toNat = b := by
  rw [BitVec.ofInt_natCast, BitVec.toNat_ofNat]; exact Nat.mod_eq_of_lt (by omega)
 show IntKind.u64.wrap ((BitVec.ofInt 64 (a : Int) &&& BitVec.ofInt 64 (b : Int)).toNat : Int) = _
 rw [BitVec.toNat_and, h1, h2, IntKind.wrap_u64]
 omega
theorem zls (k a b : Nat) (hb : b < 2 ^ k) : a * 2 ^ k ||| b = a * 2 ^ k + b := by
 rw [Nat.mul_comm, Nat.two_pow_add_eq_or_of_lt hb]
theorem zrw (k : Nat) {x b : Int} (hx : U64 x) (hd : ∃ a : Nat, x = (a : Int) * 2 ^ k) (hb0 : 0 <= b) (hb : b < 2 ^ k) (hb2 : b < 18446744073709551616) : bits .or .u64 x b = x + b := by
 obtain ⟨a, rfl⟩ := hd
 obtain ⟨m, rfl⟩ : ∃ m : Nat, b = (m : Int) := ⟨b.toNat, by omega⟩
 have e : ((a : Int) * 2 ^ k) = ((a * 2 ^ k : Nat) : Int) := by push_cast; rfl
 rw [e] at hx ⊢
 unfold U64 at hx
 rw [u64_or_nat _ _ (by omega) (by omega), zls k a m (by exact_mod_cast hb)]
 push_cast; rfl
theorem zrx (k : Nat) {x : Int} (hx : U64 x) (hk : 2 ^ k <= 18446744073709551616) : bits .and .u64 x ((2 ^ k - 1 : Nat) : Int) = x % ((2 ^ k : Nat) : Int) := by
 obtain ⟨a, rfl, ha⟩ := zzs hx
 have h0 : 0 < 2 ^ k := Nat.two_pow_pos k
 rw [zlr a (2 ^ k - 1) ha (by omega), Nat.and_two_pow_sub_one_eq_mod]
 rfl
theorem and7 {x : Int} (hx : U64 x) : bits .and .u64 x 7 = x % 8 := zrx 3 hx (by decide)
theorem zry {x : Int} (hx : U64 x) : bits .and .u64 x 255 = x % 256 := zrx 8 hx (by decide)
theorem zlt {x b : Int} (hx : U64 x) (hd : x % 8 = 0) (hb : 0 <= b /\ b < 8) : bits .or .u64 x b = x + b :=
 zrw 3 hx ⟨(x / 8).toNat, by unfold U64 at hx; omega⟩ hb.1 (by omega) (by omega)
theorem zzt {x b : Int} (hx : U64 x) (hd : x % 256 = 0) (hb : 0 <= b /\ b < 256) : bits .or .u64 x b = x + b :=
 zrw 8 hx ⟨(x / 256).toNat, by unfold U64 at hx; omega⟩ hb.1 (by omega) (by omega)
theorem zwf {x b : Int} (hx : U64 x) (hd : x % 2048 = 0) (hb : 0 <= b /\ b < 2048) : bits .or .u64 x b = x + b :=
 zrw 11 hx ⟨(x / 2048).toNat, by unfold U64 at hx; omega⟩ hb.1 (by omega) (by omega)
section
variable {P : Program} {w : World} {ops : Array Oper} {o : Oper} {a : Act} {K : Act -> World -> Prop} {Q : Exit -> Act -> World -> Prop} {E : Prop}
end
section
variable {P : Program} {ops : Array Oper} {Q : Exit -> Act -> World -> Prop} {md : Region.Mode} {S : World -> Prop}
theorem ye (i : Nat) (d : Option Nat) (v : Value) {oi : Oper} {fuel : Nat} {listed : Array Bool} {a : Act} {w : World} (hi : ops[i]? = some oi) (hd : oi.dst = d)
  (hs : Region.noSelect ops = true) (hf : Region.free md ops listed i = true) (hr : (Region.ready md ops listed).contains i = true)
  (hQ : ∀ c a w, Q (.panic c) (a.put d v) w -> Q (.panic c) a w) (hy : YieldsIf P ops S oi v a) (hS : S w)
  (h : wpAnyH P md ops Q S fuel (listed.setIfInBounds i true) (a.put d v) w) : wpAnyH P md ops Q S (fuel + 1) listed a w := by
 subst hd
 exact wpAnyH_take hi hs hf hr hQ hy hS h
theorem hone (i : Nat) (o : Oper) {fuel : Nat} {listed : Array Bool} {a : Act} {w : World} (ho : ops[i]? = some o) (hr : Region.ready md ops listed = [i])
  (h : ∀ K' : Act -> World -> Prop, Shut (∀ a w, S w -> (S w -> wpAnyH P md ops Q S fuel (listed.setIfInBounds i true) a w) -> K' a w) -> if Region.wanted o (yielded ops a.tmps) = true then Oper.wp P o a w K' Q else K' (a.put o.dst undef) w) :
  wpAnyH P md ops Q S (fuel + 1) listed a w := wpAnyH_ready hr (by simp) (AllReadyH.cons ho h AllReadyH.nil)
end
section
variable {P : Program} {ops : Array Oper} {Q : Exit -> Act -> World -> Prop} {md : Region.Mode} {S : World -> Prop} {σ : Type} {L : σ -> Array Bool} {m : σ -> Nat} {Inv : σ -> Act -> World -> Prop}
def yv (P : Program) (ops : Array Oper) (Q : Exit -> Act -> World -> Prop) (S : World -> Prop) (L : σ -> Array Bool) (m : σ -> Nat) (Inv : σ -> Act -> World -> Prop) (s : σ) (a : Act) (w : World) (rs : List Nat) : Prop :=
 ∀ i ∈ rs, wpOp P ops Q i (fun a' w' => S w' /\ ∃ s', L s' = (L s).setIfInBounds i true /\ m s = m s' + 1 /\ Inv s' a' w') a w
theorem yv.nil {s : σ} {a : Act} {w : World} : yv P ops Q S L m Inv s a w [] := fun _ h => by cases h
theorem yv.cons {s : σ} {a : Act} {w : World} {i : Nat} {o : Oper} {rs : List Nat} (s' : σ) (ho : ops[i]? = some o) (hL : L s' = (L s).setIfInBounds i true) (hm : m s = m s' + 1)
  (h : ∀ K' : Act -> World -> Prop, Shut (∀ a w, S w -> Inv s' a w -> K' a w) -> if Region.wanted o (yielded ops a.tmps) = true then Oper.wp P o a w K' Q else K' (a.put o.dst undef) w)
  (hs : yv P ops Q S L m Inv s a w rs) : yv P ops Q S L m Inv s a w (i :: rs) := fun j hj => by
 rcases List.mem_cons.1 hj with rfl | hj
 ·exact wpOp_step ho (fun K' hK => h K' (fun a w hS hW => hK a w ⟨hS, s', hL, hm, hW⟩))
 ·exact hs j hj
theorem zfy (L : σ -> Array Bool) (m : σ -> Nat) (Inv : σ -> Act -> World -> Prop) (base : Nat)
  (h : ∀ s a w, Inv s a w -> (m s = 0 /\ wpAnyH P md ops Q S base (L s) a w) \/ (∃ rs, 0 < m s /\ Region.ready md ops (L s) = rs /\ rs ≠ [] /\ yv P ops Q S L m Inv s a w rs)) :
  ∀ n s a w, m s = n -> Inv s a w -> wpAnyH P md ops Q S (base + n) (L s) a w
 | 0, s, a, w, hn, hI => by
  rcases h s a w hI with ⟨_, h1⟩ | ⟨rs, h1, _⟩
  ·exact h1
  ·omega
 | n + 1, s, a, w, hn, hI => by
  rcases h s a w hI with ⟨h0, _⟩ | ⟨rs, _, h1, h2, h3⟩
  ·omega
  ·refine wpAnyH_all h1 h2 (fun i hi => wpOp_mono (fun a' w' => ?_) (h3 i hi))
   rintro ⟨hS, s', hL, hm, hI'⟩
   refine ⟨hS, ?_⟩
   rw [<- hL]
   exact zfy L m Inv base h n s' a' w' (by omega) hI'
theorem zbc (L : σ -> Array Bool) (m : σ -> Nat) (Inv : Act -> σ -> Act -> World -> Prop) (base n : Nat) (s : σ) {a0 : Act} {w : World} (hn : m s = n) (h0 : Inv a0 s a0 w)
  (h : ∀ s a w, Inv a0 s a w -> (m s = 0 /\ wpAnyH P md ops Q S base (L s) a w) \/ (∃ rs, 0 < m s /\ Region.ready md ops (L s) = rs /\ rs ≠ [] /\ yv P ops Q S L m (Inv a0) s a w rs)) :
  wpAnyH P md ops Q S (base + n) (L s) a0 w := zfy L m (Inv a0) base h n s a0 w hn h0
end
structure Ob where
 kind : Int
 f : List Int
deriving Inhabited
abbrev Sl := Option Addr × Nat × Nat
def zg : List Ob -> Nat
 | [] => 0
 | x :: l => 1 + x.f.length + zg l
theorem jf (a b : List Ob) : zg (a ++ b) = zg a + zg b := by
 induction a with
 | nil => simp [zg]
 | cons x l ih => simp only [List.cons_append, zg, ih]; omega
def oc (at_ : Nat) (x : Ob × Sl) : List Value := [.int .i64 at_, .int .i64 x.1.kind, .slice x.2.1 x.2.2.1 x.2.2.2]
def ocs (at_ : Nat) : List (Ob × Sl) -> List Value
 | [] => []
 | x :: l => oc at_ x ++ ocs (at_ + (1 + x.1.f.length)) l
theorem zfz (a : Nat) (l r : List (Ob × Sl)) : ocs a (l ++ r) = ocs a l ++ ocs (a + zg (l.map Prod.fst)) r := by
 induction l generalizing a with
 | nil => simp [ocs, zg]
 | cons x l ih =>
  simp only [List.cons_append, ocs, ih, List.map_cons, zg, List.append_assoc]
  rw [show a + (1 + x.1.f.length) + zg (l.map Prod.fst) = a + (1 + x.1.f.length + zg (l.map Prod.fst)) by omega]
theorem zov (a : Nat) (l : List (Ob × Sl)) : (ocs a l).length = l.length * 3 := by
 induction l generalizing a with
 | nil => rfl
 | cons x l ih => simp only [ocs, List.length_append, ih, List.length_cons]; simp [oc]; omega
def atI (l : List (Ob × Sl)) (i : Nat) : Nat := zg ((l.take i).map Prod.fst)
theorem zzu {l : List (Ob × Sl)} {i j : Nat} (hi : i < l.length) (hj : j < 3) : (ocs 0 l)[i * 3 + j]? = (oc (atI l i) (l.getD i default))[j]? := by
 have h1 : l = l.take i ++ l.drop i := (List.take_append_drop i l).symm
 have h2 : l.drop i = l.getD i default :: l.drop (i + 1) := by
  rw [List.drop_eq_getElem_cons hi, List.getD_eq_getElem?_getD, List.getElem?_eq_getElem hi]; rfl
 have h3 : ocs 0 l = ocs 0 (l.take i) ++ (oc (atI l i) (l.getD i default) ++ ocs (atI l i + (1 + (l.getD i default).1.f.length)) (l.drop (i + 1))) := by
  conv => lhs; rw [h1, zfz, h2]
  simp only [ocs, Nat.zero_add]
  rfl
 have h4 : (ocs 0 (l.take i)).length = i * 3 := by rw [zov, List.length_take, Nat.min_eq_left (by omega)]
 rw [h3, List.getElem?_append_right (by omega), h4, List.getElem?_append_left (by simp [oc]; omega)]
 congr 1; omega
def uz (l : List Int) : List Value := l.map (Value.int .u64)
theorem kt (a b : List Int) : uz (a ++ b) = uz a ++ uz b := by simp [uz]
theorem j6 (l : List Int) : (uz l).length = l.length := by simp [uz]
theorem zeg {l : List Int} {i : Nat} (h : i < l.length) : (uz l)[i]? = some (.int .u64 (l.getD i 0)) := by
 simp [uz, List.getElem?_map, List.getElem?_eq_getElem h, List.getD_eq_getElem?_getD]
structure Mod (F : Nat -> Prop) (w w' : World) : Prop where
 os : w'.os = w.os
 tape : w'.tape = w.tape
 output : w'.output = w.output
 size : w.heap.size <= w'.heap.size
 block : ∀ b, b < w.heap.size -> ¬ F b -> w'.heap[b]? = w.heap[b]?
section
variable {F G : Nat -> Prop} {w w1 w2 : World}
theorem Mod.refl (F : Nat -> Prop) (w : World) : Mod F w w := ⟨rfl, rfl, rfl, Nat.le_refl _, fun _ _ _ => rfl⟩
theorem Mod.of_below (F : Nat -> Prop) (h : Below w.heap.size w w1) : Mod F w w1 := ⟨h.os, h.tape, h.output, h.size, fun b hb _ => h.block b hb⟩
theorem Mod.trans (h : Mod F w w1) (k : Mod G w1 w2) (hG : ∀ b, b < w.heap.size -> G b -> F b) : Mod F w w2 :=
 ⟨k.os.trans h.os, k.tape.trans h.tape, k.output.trans h.output, Nat.le_trans h.size k.size, fun b hb hF => (k.block b (Nat.lt_of_lt_of_le hb h.size) (fun e => hF (hG b hb e))).trans (h.block b hb hF)⟩
theorem Mod.mono (h : Mod F w w1) (hG : ∀ b, b < w.heap.size -> F b -> G b) : Mod G w w1 := ⟨h.os, h.tape, h.output, h.size, fun b hb hg => h.block b hb (fun e => hg (hG b hb e))⟩
theorem Mod.below (h : Mod F w w1) {B : Nat} (hF : ∀ b, F b -> B <= b) (hB : B <= w.heap.size) : Below B w w1 := ⟨h.os, h.tape, h.output, h.size, fun b hb => h.block b (by omega) (fun e => by have := hF b e; omega)⟩
theorem Mod.setCell (h : Mod F w w1) {p : Addr} (hp : F p.block \/ w.heap.size <= p.block) (u : Value) : Mod F w (w1.setCell p u) :=
 ⟨h.os, h.tape, h.output, by have := h.size; simp [World.setCell]; omega, fun b hb hF => (Below.heap_setCell _ _ _ _ (fun e => by subst e; rcases hp with h' | h'; exact hF h'; omega)).trans (h.block b hb hF)⟩
theorem Mod.grown {row : Option Nat} (h : Mod F w w1) (hg : w1.grownBy w2 row) (hr : ∀ k, row = some k -> F k \/ w.heap.size <= k) : Mod F w w2 :=
 ⟨hg.os.trans h.os, hg.tape.trans h.tape, hg.output.trans h.output, Nat.le_trans h.size hg.size, fun b hb hF => (hg.block b (Nat.lt_of_lt_of_le hb h.size) (fun e => by rcases hr b e.symm with h' | h'; exact hF h'; omega)).trans (h.block b hb hF)⟩
end
structure RH (B g : Nat) (N : Int) (vL : Value) (ls : List (Ob × Sl)) (w : World) : Prop where
 box : w.heap[g]? = some (.cells #[.int .i64 N, vL] 77 (0, 0))
 own : w.ownsRow B 115 3 vL ls.length (ocs 0 ls)
 rows : ∀ x ∈ ls, w.ownsRow B 70 1 (.slice x.2.1 x.2.2.1 x.2.2.2) x.1.f.length (uz x.1.f) /\ x.2.2.1 = x.1.f.length
 apart : ls.Pairwise (fun x y => ∀ a a', x.2.1 = some a -> y.2.1 = some a' -> a.block ≠ a'.block)
 ao : ∀ x ∈ ls, ∀ a, x.2.1 = some a -> vL.ownBlock ≠ some a.block /\ a.block ≠ g
 gl : vL.ownBlock ≠ some g
 Bg : B <= g
 uf : ∀ x ∈ ls, ∀ z ∈ x.1.f, U64 z
 kd : ∀ x ∈ ls, 1 <= x.1.kind /\ x.1.kind <= 22
 room : (zg (ls.map Prod.fst) : Int) <= N /\ N <= 1099511627776
def RF (g : Nat) (vL : Value) (ls : List (Ob × Sl)) : Nat -> Prop := fun b => b = g \/ vL.ownBlock = some b \/ ∃ x ∈ ls, ∃ a, x.2.1 = some a /\ a.block = b
theorem RH.foot_ge {B g : Nat} {N : Int} {vL : Value} {ls : List (Ob × Sl)} {w : World} (h : RH B g N vL ls w) : ∀ b, RF g vL ls b -> B <= b /\ b < w.heap.size := by
 rintro b (rfl | h1 | ⟨x, hx, a, ha, rfl⟩)
 ·exact ⟨h.Bg, (Array.getElem?_eq_some_iff.1 h.box).1⟩
 ·exact h.own.lt b h1
 ·exact (h.rows x hx).1.lt a.block (by rw [ha]; rfl)
theorem ja {w w' : World} {base : Nat} {e : TypeId} {k : Nat} {v : Value} {n : Nat} {xs : List Value} (h : w.ownsRow base e k v n xs) (hb : ∀ b, v.ownBlock = some b -> w'.heap[b]? = w.heap[b]?) : w'.ownsRow base e k v n xs := by
 refine ⟨h.1, ?_⟩
 rcases h.2 with h0 | ⟨g, cap, cur, h1, h2, h3, h4⟩
 ·exact .inl h0
 ·exact .inr ⟨g, cap, cur, h1, h2, (hb g (by rw [h1]; rfl)).trans h3, h4⟩
theorem RH.keep {B g : Nat} {N : Int} {vL : Value} {ls : List (Ob × Sl)} {w w' : World} (h : RH B g N vL ls w) (hb : ∀ b, RF g vL ls b -> w'.heap[b]? = w.heap[b]?) : RH B g N vL ls w' :=
 { h with
  box := (hb g (.inl rfl)).trans h.box
  own := ja h.own (fun b e => hb b (.inr (.inl e)))
  rows := fun x hx => ⟨ja (h.rows x hx).1 (fun b e => hb b (.inr (.inr ⟨x, hx, by
   cases e' : x.2.1 with
   | none => rw [e'] at e; cases e
   | some a => rw [e'] at e; exact ⟨a, rfl, by injection e⟩⟩))), (h.rows x hx).2⟩ }
theorem RH.mod {B g : Nat} {N : Int} {vL : Value} {ls : List (Ob × Sl)} {w w' : World} {F : Nat -> Prop} (h : RH B g N vL ls w) (hm : Mod F w w') (hF : ∀ b, RF g vL ls b -> ¬ F b) : RH B g N vL ls w' :=
 h.keep (fun b hb => hm.block b (h.foot_ge b hb).2 (hF b hb))
theorem RH.on {B g : Nat} {N : Int} {vL : Value} {ls : List (Ob × Sl)} {w w' : World} (h : RH B g N vL ls w) (hb : Below w.heap.size w w') : RH B g N vL ls w' :=
 h.keep (fun b hf => hb.block b (h.foot_ge b hf).2)
theorem RH.obj {B g : Nat} {N : Int} {vL : Value} {ls : List (Ob × Sl)} {w : World} (h : RH B g N vL ls w) {i : Nat} (hi : i < ls.length) {x : Ob × Sl} (hx : x = ls.getD i default) :
  ∃ gl cap, vL = .slice (some ⟨gl, 0, none⟩) ls.length cap /\ ls.length <= cap /\ cap <= maxLen /\ w.cell? ⟨gl, i * 3, none⟩ = some (.int .i64 (atI ls i : Nat)) /\ w.cell? ⟨gl, i * 3 + 1, none⟩ = some (.int .i64 x.1.kind) /\ w.cell? ⟨gl, i * 3 + 2, none⟩ = some (.slice x.2.1 x.2.2.1 x.2.2.2) := by
 rcases h.own.2 with ⟨h0, h1⟩ | ⟨gl, cap, cur, h1, h2, h3, h4, h5, h6, h7⟩
 ·omega
 ·have key : ∀ j, j < 3 -> w.cell? ⟨gl, i * 3 + j, none⟩ = (oc (atI ls i) x)[j]? := fun j hj => by
   rw [za h3, hx, <- zzu hi hj, <- h7, List.getElem?_take, if_pos (by omega)]; simp
  exact ⟨gl, cap, h1, h4, h5, key 0 (by omega), key 1 (by omega), key 2 (by omega)⟩
theorem zga {l : List (Ob × Sl)} {i : Nat} (h : i < l.length) : l.getD i default ∈ l := by
 rw [List.getD_eq_getElem?_getD, List.getElem?_eq_getElem h]; exact List.getElem_mem h
set_option maxRecDepth 100000
def atO (os : List Ob) (i : Nat) : Nat := zg (os.take i)
theorem zch1 (ls : List (Ob × Sl)) (i : Nat) : atI ls i = atO (ls.map Prod.fst) i := by unfold atI atO; rw [List.map_take]
theorem zne (ls : List (Ob × Sl)) (i : Nat) : (ls.getD i default).1 = (ls.map Prod.fst).getD i default := by
 rw [List.getD_eq_getElem?_getD, List.getD_eq_getElem?_getD, List.getElem?_map]
 cases h : ls[i]? <;> rfl
theorem zrz {os : List Ob} (h : 0 < os.length) : atO os (os.length - 1) + 1 + (os.getD (os.length - 1) default).f.length = zg os := by
 have e : os = os.take (os.length - 1) ++ [os.getD (os.length - 1) default] := by
  conv => lhs; rw [<- List.take_append_drop (os.length - 1) os]
  congr 1
  rw [List.drop_eq_getElem_cons (by omega), List.getD_eq_getElem?_getD, List.getElem?_eq_getElem (by omega)]
  rw [List.drop_eq_nil_of_le (by omega)]; rfl
 conv => rhs; rw [e, jf]
 simp [zg, atO]; omega
theorem zdd (os : List Ob) (i : Nat) : atO os i <= zg os := by
 have : zg os = zg (os.take i) + zg (os.drop i) := by rw [<- jf, List.take_append_drop]
 unfold atO; omega
theorem zwg {os : List Ob} {x : Ob} (h : x ∈ os) : 1 + x.f.length <= zg os := by
 induction os with
 | nil => cases h
 | cons y l ih =>
  rcases List.mem_cons.1 h with rfl | h
  ·unfold zg; omega
  ·have := ih h; unfold zg; omega
theorem zeh (os : List Ob) : os.length <= zg os := by
 induction os with
 | nil => simp
 | cons x l ih => simp only [List.length_cons, zg]; omega
theorem zci1 {w1 wx wy : World} {p : Nat} {a0 : Value} (h : wx.cell? ⟨p, 0, none⟩ = some a0 /\ Below w1.heap.size w1 wx) (hb : Below wx.heap.size wx wy) : wy.cell? ⟨p, 0, none⟩ = some a0 /\ Below w1.heap.size w1 wy := ⟨(hb.cell (p := ⟨p, 0, none⟩) (jq h.1)).trans h.1, Bt h.2 hb⟩
theorem zys {w1 wx : World} {p : Nat} {a0 : Value} (h : wx.cell? ⟨p, 0, none⟩ = some a0 /\ Below w1.heap.size w1 wx) : Below w1.heap.size w1 wx := h.2
section
variable {B g : Nat} {N : Int} {vL : Value} {ls : List (Ob × Sl)}
set_option maxHeartbeats 4000000 in
theorem zei (w : World) (h : RH B g N vL ls w) : Calls Tryz.prog 40 #[.pointer (some ⟨g, 0, none⟩)] w fun e w' => e = .returned (.int .i64 (zg (ls.map Prod.fst) : Nat)) /\ Below w.heap.size w w' := by
 have H := hid h
 have c1 : w.cell? ⟨g, 1, none⟩ = some vL := za h.box 1
 have hrm := h.room
 by_cases h0 : ls.length = 0
 ·rcases h.own.2 with ⟨rfl, _⟩ | ⟨gl, cap, cur, rfl, _⟩
  ·clear h
   have hl : ls = [] := List.length_eq_zero_iff.1 h0
   subst hl
   go_enter Tryz.func40, Tryz.ntmps40
   go_wp2
   go_ret
   exact ⟨rfl, Below.refl _ _⟩
  ·clear h
   have hl : ls = [] := List.length_eq_zero_iff.1 h0
   subst hl
   go_enter Tryz.func40, Tryz.ntmps40
   go_wp2
   go_ret
   exact ⟨rfl, Below.refl _ _⟩
 ·obtain ⟨x, hx⟩ : ∃ x, x = ls.getD (ls.length - 1) default := ⟨_, rfl⟩
  obtain ⟨gl, cap, rfl, hc1, hc2, j0, j1, j2⟩ := h.obj (i := ls.length - 1) (by omega) hx
  have hmem : x ∈ ls := by rw [hx]; exact zga (by omega)
  have hul := zrz (os := ls.map Prod.fst) (by rw [List.length_map]; omega)
  rw [List.length_map, <- zch1, <- zne, <- hx] at hul
  have hxn := (h.rows x hmem).2
  obtain ⟨⟨xk, xf⟩, xa, xn, xc⟩ := x
  simp only at j0 j1 j2 hul hxn
  have hgl : g < w.heap.size := (Array.getElem?_eq_some_iff.1 h.box).1
  have hgl2 : gl < w.heap.size := jq j0
  obtain ⟨m, hm⟩ : ∃ m, m = ls.length - 1 := ⟨_, rfl⟩
  rw [<- hm] at j0 j1 j2 hul
  have hm' : ls.length = m + 1 := by omega
  have HLL := hid hm'
  unfold maxLen at hc2
  obtain ⟨am, ham⟩ : ∃ a, a = atI ls m := ⟨_, rfl⟩
  rw [<- ham] at j0 hul
  obtain ⟨U, hU⟩ : ∃ u, u = zg (ls.map Prod.fst) := ⟨_, rfl⟩
  rw [<- hU] at hul hrm ⊢
  rw [hm'] at c1 hc1
  clear h H hx hmem hm ham hU h0
  generalize ls.length = LL at *
  have k0 : ∀ ob, (w.alloc ob).cell? ⟨g, 1, none⟩ = some (.slice (some ⟨gl, 0, none⟩) (m + 1) cap) := fun ob => (zw _ _ _ _ hgl).trans c1
  have k1 : ∀ ob, (w.alloc ob).cell? ⟨gl, m * 3, none⟩ = some (.int .i64 (am : Nat)) := fun ob => (zw _ _ _ _ hgl2).trans j0
  have k2 : ∀ ob, (w.alloc ob).cell? ⟨gl, m * 3 + 1, none⟩ = some (.int .i64 xk) := fun ob => (zw _ _ _ _ hgl2).trans j1
  have k3 : ∀ ob, (w.alloc ob).cell? ⟨gl, m * 3 + 2, none⟩ = some (.slice xa xn xc) := fun ob => (zw _ _ _ _ hgl2).trans j2
  go_enter Tryz.func40, Tryz.ntmps40
  go_wp2
  go_region
  go_wp2
  go_ret
  exact ⟨by rw [show ((U : Nat) : Int) = (am : Int) + 1 + xf.length by omega]; rfl, Bt (Ba w _) (Bd _ 1)⟩
set_option maxHeartbeats 4000000 in
theorem zjl (w : World) (h : RH B g N vL ls w) : Calls Tryz.prog 39 #[.pointer (some ⟨g, 0, none⟩)] w fun e w' => e = .returned (.int .i64 (N - (zg (ls.map Prod.fst) : Nat))) /\ Below w.heap.size w w' := by
 have H := hid h
 have hrm := h.room
 have c0 : w.cell? ⟨g, 0, none⟩ = some (.int .i64 N) := za h.box 0
 have hgl : g < w.heap.size := (Array.getElem?_eq_some_iff.1 h.box).1
 have C1 : Hid (∀ wx, Below w.heap.size w wx -> Calls Tryz.prog 40 #[.pointer (some ⟨g, 0, none⟩)] wx fun e w' => e = .returned (.int .i64 (zg (ls.map Prod.fst) : Nat)) /\ Below wx.heap.size wx w') := fun wx b => zei wx (H.out.on b)
 obtain ⟨U, hU⟩ : ∃ u, u = zg (ls.map Prod.fst) := ⟨_, rfl⟩
 rw [<- hU] at C1 hrm ⊢
 clear h hU
 have HS0 : Hid (w.cell? ⟨g, 0, none⟩ = some (.int .i64 N) /\ Below w.heap.size w w) := ⟨c0, Below.refl _ _⟩
 have hw1 : IntKind.i64.wrap (N - (U : Nat)) = N - (U : Nat) := by rw [IntKind.wrap_i64]; omega
 go_enter Tryz.func39, Tryz.ntmps39
 go_wp2_with fail
 go_region_held3 (fun wx => wx.cell? ⟨g, 0, none⟩ = some (.int .i64 N) /\ Below w.heap.size w wx)
  (first | exact zci1 HS0.out (Bd w 1) | exact zci1 (by assumption) (by assumption))
  (first | (go_at_call 40; with_reducible refine (C1.out _ ?_).mono ?_; (exact zys (p := g) (a0 := .int .i64 N) (by assumption)); rintro e wa ⟨rfl, ba⟩))
 have HBE : Hid (Below w.heap.size w wa) := zys (p := g) (a0 := .int .i64 N) (by assumption)
 rename_i hHeld
 clear hHeld
 go_wp2
 go_ret
 exact ⟨rfl, HBE.out⟩
end
set_option maxHeartbeats 4000000 in
theorem zow (x : Int) (hx : U64 x) (w : World) : Calls Tryz.prog 83 #[.int .u64 x] w fun e w' => e = .returned (.bool (decide ((ofR x).1 = 8))) /\ Below w.heap.size w w' := by
 have C1 := hid (zzq x hx)
 obtain ⟨o, ho⟩ : ∃ o, o = ofR x := ⟨_, rfl⟩
 rw [<- ho] at C1 ⊢
 obtain ⟨k, n, t⟩ := o
 simp only at C1 ⊢
 unfold SVal at C1
 clear ho
 have hfd : ∀ w, (Instr.field 118 (.agg #[.int .i64 k, .int .i64 n, .int .i64 t]) 0).run Tryz.prog w = .ok (.int .i64 k) w := fun w => rfl
 go_enter Tryz.func83, Tryz.ntmps83
 go_wp2_with (go_at_call 61; with_reducible refine (C1.out _).mono ?_; rintro e wa ⟨rfl, ba⟩)
 go_ret
 refine ⟨?_, ba⟩
 by_cases hk : k = 8
 ·subst hk; rfl
 ·have e1 : (k == 8) = false := by simpa using hk
  simp [e1, hk]
set_option maxHeartbeats 4000000 in
theorem znf (n : Nat) (hn : n <= 1099511627776) (w : World) : Calls Tryz.prog 43 #[.int .i64 n] w fun e w' => e = .returned (.int .u64 (zj 2 n 0)) /\ Below w.heap.size w w' := by
 have C1 := hid (zef 2 n 0 (by unfold Z64; omega) (by unfold Z64; omega) (by unfold Z64; omega))
 unfold SVal at C1
 go_enter Tryz.func43, Tryz.ntmps43
 go_wp2_with (go_at_call 81; with_reducible refine (C1.out _).mono ?_; rintro e wa ⟨rfl, ba⟩)
 go_ret
 exact ⟨rfl, ba⟩
def fnd (os : List Ob) (n : Int) (i : Nat) : Option Nat := if i < os.length then (if (atO os i : Int) = n then some i else fnd os n (i + 1)) else none
termination_by os.length - i
def qm (os : List Ob) (p : Int) : Option Nat := if (ofR p).1 = 2 then fnd os (ofR p).2.1 0 else none
theorem zcj1 {os : List Ob} {n : Int} {i j : Nat} (h : fnd os n i = some j) : j < os.length /\ (atO os j : Int) = n := by
 induction hk : os.length - i generalizing i with
 | zero => rw [fnd, if_neg (by omega)] at h; cases h
 | succ k ih =>
  rw [fnd, if_pos (by omega)] at h
  split at h
  ·injection h with h; subst h; exact ⟨by omega, by assumption⟩
  ·exact ih h (by omega)
end Go.Proofs.YtadfihnffboelaaGreatDoor
