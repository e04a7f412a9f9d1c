import Derived.Test.YtdekkieajffblaaGreatDoorW27
import Derived.Test.YtdekkieajffblaaGreatDoorMath3
set_option linter.unusedVariables false
set_option linter.unusedSimpArgs false
namespace Go.Proofs.YtdekkieajffblaaGreatDoor
open Go.RowKit
theorem takeStep {B P vl vq vt bb cc x y t Q lo hi bb' : Nat} (h : vl + P * (bb + cc) = vq + t * vt) (hs : lo + B * hi = cc + y * t) (hd : Q + lo + bb = x + B * bb') :
  vl + P * x + P * B * (bb' + hi) = vq + P * Q + t * (vt + P * y) := by
 have e1 : P * (x + B * bb' + B * hi) = P * (Q + bb + (cc + y * t)) := by rw [<- hd, <- hs]; congr 1; omega
 have e2 : P * x + P * B * (bb' + hi) = P * (x + B * bb' + B * hi) := by
  rw [Nat.mul_add, Nat.mul_add, Nat.mul_add, Nat.mul_assoc, Nat.mul_assoc]; omega
 have e3 : P * (Q + bb + (cc + y * t)) = P * Q + P * (bb + cc) + t * (P * y) := by
  rw [show t * (P * y) = P * (y * t) by rw [Nat.mul_left_comm, Nat.mul_comm t y], <- Nat.mul_add, <- Nat.mul_add]; congr 1; omega
 rw [Nat.mul_add t]
 omega
set_option maxHeartbeats 2000000 in
theorem takeOff_any (g o n cap : Nat) (cur : Array Value) (l : List Nat) (ao' : Option Addr) (n' cap' : Nat) (l' : List Nat) (t : Nat) (w : World) (W : Win .u32 58 w g o n cur l) (hdg : Dg B32 l) (hn : n <= maxLen)
  (R' : Row .u32 B32 w ao' n' cap' l') (hne : n' ≠ 0 -> ∀ ad, ao' = some ad -> ad.block ≠ g) (ht : t < B32) :
  Calls Tryz.prog 101 #[.slice (some ⟨g, o, none⟩) n cap, .slice ao' n' cap', .int .u32 t] w fun e w' => ∃ L bb cc, e = .returned (.bool (decide (bb ≠ 0))) /\ bb <= 1 /\ cc < B32 /\ Onto .u32 58 g o n w w' cur L /\ Dg B32 L /\ val B32 l + B32 ^ n * (bb + cc) = val B32 L + t * val B32 (l'.take n) /\ (n' < n -> cc = 0) := by
 have HW := hid W
 have HD := hid hdg
 have HL := hid W.len
 have HR' := hid R'
 have HL' := hid R'.len
 have HNE := hid hne
 have hmx' := R'.most
 have hft' := R'.fits
 unfold maxLen at hn hmx'
 have hB : B32 = 4294967296 := rfl
 have HBB := hid hB
 have ht2 : t < 4294967296 := ht
 clear W hdg R' hne hB ht
 go_enter Tryz.func101, Tryz.ntmps101
 go_wp2
 go_loopw [7, 8, 12] (fun c b i wr => ∃ m cc bb : Nat, ∃ q : List Nat, m <= n /\ i = .int .i64 m /\ c = .int .u64 cc /\ b = .int .u32 bb /\ bb <= 1 /\ cc < 4294967296 /\ Hid (n' < m -> cc = 0) /\ Hid (q.length = m /\ Dg B32 q /\ val B32 (l.take m) + B32 ^ m * (bb + cc) = val B32 q + t * val B32 (l'.take m) /\ Onto .u32 58 g o n w wr cur (q ++ l.drop m))) (fun _ _ i _ => n - (intOf i).toNat)
 case atStart => exact ⟨0, 0, 0, [], Nat.zero_le _, rfl, rfl, rfl, by omega, by omega, fun _ => rfl, rfl, Dg.nil _, by simp [val], by simpa using HW.out.onto⟩
 case round =>
  obtain ⟨m, cc, bb, q, hm, rfl, rfl, rfl, hbb, hcc, HZ, hI⟩ := hrel
  by_cases hlt : m < n
  ·obtain ⟨x, hx⟩ : ∃ x, x = l.getD m 0 := ⟨_, rfl⟩
   obtain ⟨y, hy⟩ : ∃ y, y = l'.getD m 0 := ⟨_, rfl⟩
   have hll : m < l.length := by rw [HL.out]; exact hlt
   have hxb : x < B32 := by rw [hx]; exact HD.out.getD _ hll
   have hyb0 : y < B32 := by rw [hy]; exact getD_lt HR'.out.dg (by decide) _
   have hyb : y < 4294967296 := hyb0
   have hc : wr.cell? ⟨g, o + m, none⟩ = some (.int .u32 x) := by
    have := hI.out.2.2.2.cell (i := m) hlt
    rw [List.getD_eq_getElem?_getD, List.getElem?_append_right (by rw [hI.out.1]; omega), hI.out.1, Nat.sub_self, List.getElem?_drop, Nat.add_zero, <- List.getD_eq_getElem?_getD, <- hx] at this
    exact this
   have hfz : wr.frozen? ⟨g, o + m, none⟩ = false := hI.out.2.2.2.frozen _
   have HX := hid hx
   have HY := hid hy
   have HLL := hid hll
   have hyt : y * t <= 18446744065119617025 := Nat.mul_le_mul (show y <= 4294967295 by omega) (show t <= 4294967295 by omega)
   obtain ⟨s, hs⟩ : ∃ s, s = cc + y * t := ⟨_, rfl⟩
   obtain ⟨lo, hlo⟩ : ∃ lo, lo = s % 4294967296 := ⟨_, rfl⟩
   have hlob : lo < B32 := by rw [hlo]; exact Nat.mod_lt _ (by decide)
   obtain ⟨Q, hQ⟩ : ∃ Q, Q = (x + B32 - lo - bb) % B32 := ⟨_, rfl⟩
   obtain ⟨D, hD⟩ : ∃ D : Nat, D = if x < lo + bb then 1 else 0 := ⟨_, rfl⟩
   have HC : Hid (∀ w, Calls Tryz.prog 75 #[.int .u32 x, .int .u32 lo, .int .u32 bb] w fun e w' => e = .returned (.tuple #[.int .u32 Q, .int .u32 D]) /\ w' = w) := fun w => by rw [hQ, hD]; exact sub32_any x lo bb hxb hlob hbb w
   have hQb : Q < B32 := by rw [hQ]; exact Nat.mod_lt _ (by decide)
   have hDb : D <= 1 := by rw [hD]; split <;> omega
   have hsub : Q + lo + bb = x + B32 * D := by
    rw [hQ, hD]
    unfold B32 at *
    split <;> omega
   obtain ⟨hi, hhi⟩ : ∃ hi, hi = s / 4294967296 := ⟨_, rfl⟩
   have hsp : lo + B32 * hi = s := by rw [hlo, hhi]; unfold B32; omega
   have hsb : hi < 4294967296 := by
    rw [hhi, Nat.div_lt_iff_lt_mul (by decide)]; rw [hs]; omega
   have HN0 : Hid (n' < m + 1 -> hi = 0) := fun h => by
    have hy0 : y = 0 := by rw [hy, List.getD_eq_getElem?_getD, List.getElem?_eq_none (by rw [HL'.out]; omega)]; rfl
    rw [hhi, hs, hy0]; omega
   have HS := hid hs
   have HQB := hid hQb
   have HSUB := hid hsub
   have HSP := hid hsp
   have HLO := hid hlo
   have fin : Hid (∀ wx, wx = wr -> (∃ m_1 cc bb : Nat, ∃ q : List Nat, m_1 <= n /\ Value.int .i64 ((m : Int) + 1) = .int .i64 m_1 /\ Value.int .u64 (hi : Int) = .int .u64 cc /\ Value.int .u32 D = .int .u32 bb /\ bb <= 1 /\ cc < 4294967296 /\ Hid (n' < m_1 -> cc = 0) /\ Hid (q.length = m_1 /\ Dg B32 q /\ val B32 (l.take m_1) + B32 ^ m_1 * (bb + cc) = val B32 q + t * val B32 (l'.take m_1) /\ Onto .u32 58 g o n w (wx.setCell ⟨g, o + m, none⟩ (.int .u32 Q)) cur (q ++ l.drop m_1)))) := by
    rintro wx rfl
    obtain ⟨h1, h2, h3, h4⟩ := hI.out
    refine ⟨m + 1, hi, D, q ++ [Q], by omega, by go_num, rfl, rfl, hDb, hsb, HN0, ?_, ?_, ?_, ?_⟩
    ·simp [h1]
    ·exact h2.append (Dg.one HQB.out)
    ·rw [val_snoc, h1, val_take_succ B32 l m HLL.out, val_take_next B32 l' m, <- HX.out, <- HY.out, Nat.pow_succ]
     exact takeStep h3 (HSP.out.trans HS.out) HSUB.out
    ·rw [<- set_append_drop h1 HLL.out]
     exact h4.store hlt _
   clear hx hll hQ hD hQb hsub hsp
   by_cases hlt' : m < n'
   ·have e1 : decide ((m : Int) < n') = true := by simp; omega
    obtain ⟨b', o', hao, hl', hc'⟩ := HR'.out.rd.some (by rw [HL'.out]; omega)
    have hbg : b' ≠ g := HNE.out (by omega) _ hao
    subst hao
    have hcy : wr.cell? ⟨b', o' + m, none⟩ = some (.int .u32 y) := by
     rw [hI.out.2.2.2.other hbg, hc' m (by rw [HL'.out]; exact hlt'), hy]
    have es : (cc : Int) + y * t = (s : Int) := by rw [hs, Int.natCast_add, Int.natCast_mul]
    have elo : (s : Int) % 4294967296 = (lo : Int) := by omega
    have ediv : (s : Int) / 4294967296 = (hi : Int) := by omega
    have hsb2 : s < 18446744073709551616 := by rw [hs]; omega
    have hyt2 : (y : Int) * t <= 18446744065119617025 := by rw [<- Int.natCast_mul]; exact Int.ofNat_le.2 hyt
    have hyt0 : (0 : Int) <= (y : Int) * t := by rw [<- Int.natCast_mul]; exact Int.natCast_nonneg _
    clear hy hc' hl' hs hlo hhi
    go_wp2_with (go_at_call 75; refine (HC.out _).mono ?_; rintro e wz ⟨rfl, hwz⟩; rw [hwz])
    exact ⟨fin.out _ rfl, by simp [intOf] <;> omega⟩
   ·have e1 : decide ((m : Int) < n') = false := by simp; omega
    have hy0 : y = 0 := by
     rw [hy, List.getD_eq_getElem?_getD, List.getElem?_eq_none (by rw [HL'.out]; omega)]; rfl
    have hlo2 : lo = cc := by rw [hlo, hs, hy0]; omega
    have hhi2 : hi = 0 := by rw [hhi, hs, hy0]; omega
    clear hy hlo hhi hs
    subst hlo2
    subst hhi2
    have emod : (lo : Int) % 4294967296 = (lo : Int) := by omega
    have ediv : (lo : Int) / 4294967296 = 0 := by omega
    go_wp2_with (go_at_call 75; refine (HC.out _).mono ?_; rintro e wz ⟨rfl, hwz⟩; rw [hwz])
    exact ⟨fin.out _ rfl, by simp [intOf] <;> omega⟩
  ·obtain rfl : m = n := by omega
   go_wp2
   go_ret
   obtain ⟨h1, h2, h3, h4⟩ := hI.out
   refine ⟨q, bb, cc, ?_, hbb, hcc, ?_, h2, ?_, HZ.out⟩
   ·refine congrArg (fun z => Ending.returned (.bool z)) ?_
    rw [bne_nat]; simp
   ·rw [List.drop_eq_nil_of_le (by rw [HL.out]; omega), List.append_nil] at h4; exact h4
   ·rw [List.take_of_length_le (l := l) (by rw [HL.out]; omega)] at h3; exact h3
theorem shiftStep {P vq c vl x s2 lo hi B : Nat} (h : vq + P * c = vl * s2) (ht : lo + B * hi = x * s2) : vq + P * (c + lo) + P * B * hi = (vl + P * x) * s2 := by
 rw [Nat.add_mul, <- h, Nat.mul_assoc P x, <- ht, Nat.mul_add, Nat.mul_add, Nat.mul_assoc]
 omega
theorem shift_lo {t s : Nat} (x : Nat) (hs : s < 32) (ht : t = x * 2 ^ s) : t % 4294967296 % 2 ^ s = 0 /\ t % 4294967296 + 2 ^ s <= 4294967296 := by
 have hd : 2 ^ s ∣ 4294967296 := by
  rw [show 4294967296 = 2 ^ 32 from rfl]; exact Nat.pow_dvd_pow 2 (by omega)
 have h1 : t % 4294967296 % 2 ^ s = 0 := by
  rw [Nat.mod_mod_of_dvd _ hd, ht, Nat.mul_mod_left]
 refine ⟨h1, ?_⟩
 have hp : 0 < 2 ^ s := Nat.pow_pos (by decide)
 obtain ⟨k, hk⟩ := Nat.dvd_of_mod_eq_zero h1
 obtain ⟨K, hK⟩ := hd
 have h2 : t % 4294967296 < 4294967296 := Nat.mod_lt _ (by decide)
 rw [hk, hK] at h2
 have h3 := Nat.lt_of_mul_lt_mul_left h2
 have h4 : 2 ^ s * (k + 1) <= 2 ^ s * K := Nat.mul_le_mul_left _ h3
 rw [hk]
 rw [Nat.mul_add, <- hK] at h4
 omega
set_option maxHeartbeats 2000000 in
theorem shiftUp_any (ao : Option Addr) (n cap : Nat) (l : List Nat) (s : Nat) (w : World) (R : Row .u32 B32 w ao n cap l) (hn : n <= 40) (hs : s < 32) :
  Calls Tryz.prog 99 #[.slice ao n cap, .int .i64 s] w fun e w' => ∃ g L, e = .returned (.slice (some ⟨g, 0, none⟩) (n + 1) (n + 1)) /\ w.heap.size <= g /\ (∃ cur, Win .u32 58 w' g 0 (n + 1) cur L) /\ Dg B32 L /\ val B32 L = val B32 l * 2 ^ s /\ Below w.heap.size w w' := by
 have HR := hid R
 have HL := hid R.len
 have hmx := R.most
 have hft := R.fits
 unfold maxLen at hmx
 clear R
 obtain ⟨N, hN⟩ : ∃ N, N = n + 1 := ⟨_, rfl⟩
 have hmk := fun wx => run_make_row' (P := Tryz.prog) 22 58 (.int .u32 0) 4 Tryz.underlying22 info_u32 rfl .i64 .i64 N (by omega) (by omega) wx
 rw [show ((N : Nat) : Int) = (n : Int) + 1 by omega] at hmk
 have hN1 : n + 1 <= N := by omega
 have hN2 : N <= n + 1 := by omega
 have HNN := hid hN
 clear hN
 go_enter Tryz.func99, Tryz.ntmps99
 go_wp2
 have hW0 := made_win w .u32 58 N
 have hbm := Ba w (.cells (madeCells #[.int .u32 0] N) 58)
 obtain ⟨g, hg⟩ : ∃ g, g = w.heap.size := ⟨_, rfl⟩
 rw [<- hg] at hW0
 generalize hWW : w.alloc (.cells (madeCells #[.int .u32 0] N) 58) = W1 at *
 generalize madeCells #[.int .u32 0] N = cur at *
 have HW0 := hid hW0
 have HBm := hid hbm
 have HG := hid hg
 rw [<- hg]
 clear hmk hWW hW0 hbm hg
 go_loopw [15] (fun i wr => ∃ m c : Nat, ∃ q : List Nat, m <= n /\ i = .int .i64 m /\ c < 2 ^ s /\ Hid (q.length = m /\ Dg B32 q /\ val B32 q + B32 ^ m * c = val B32 (l.take m) * 2 ^ s /\ Onto .u32 58 g 0 N W1 wr cur (q ++ c :: List.replicate (n - m) 0))) (fun i _ => n - (intOf i).toNat)
 case atStart => exact ⟨0, 0, [], Nat.zero_le _, rfl, Nat.pow_pos (by decide), rfl, Dg.nil _, by simp [val], by
  have := HW0.out.onto
  rw [HNN.out, List.replicate_succ] at this
  rw [HNN.out]; simpa using this⟩
 case round =>
  obtain ⟨m, c, q, hm, rfl, hcs, hI⟩ := hrel
  by_cases hlt : m < n
  ·obtain ⟨b, o, rfl, hl, hcc⟩ := HR.out.rd.some (by rw [HL.out]; omega)
   obtain ⟨x, hx⟩ : ∃ x, x = l.getD m 0 := ⟨_, rfl⟩
   have hxb : x < B32 := by rw [hx]; exact HR.out.dg.getD _ (by rw [HL.out]; exact hlt)
   have hxb2 : x < 4294967296 := hxb
   have hcx : wr.cell? ⟨b, o + m, none⟩ = some (.int .u32 x) := by
    rw [hI.out.2.2.2.other (by rw [HG.out]; omega), HBm.out.cell (p := ⟨b, o + m, none⟩) hl, hcc m (by rw [HL.out]; exact hlt), hx]
   have hcm : wr.cell? ⟨g, m, none⟩ = some (.int .u32 c) := by
    have := hI.out.2.2.2.cell (i := m) (by omega)
    rw [List.getD_eq_getElem?_getD, List.getElem?_append_right (by rw [hI.out.1]; omega), hI.out.1, Nat.sub_self] at this
    simpa using this
   have hf1 : wr.frozen? ⟨g, m, none⟩ = false := hI.out.2.2.2.frozen _
   have hf2 : wr.frozen? ⟨g, m + 1, none⟩ = false := hI.out.2.2.2.frozen _
   have hcm1 : wr.cell? ⟨g, m + 1, none⟩ = some (.int .u32 0) := by
    have := hI.out.2.2.2.cell (i := m + 1) (by omega)
    rw [List.getD_eq_getElem?_getD, List.getElem?_append_right (by rw [hI.out.1]; omega), hI.out.1, show m + 1 - m = 1 by omega] at this
    rw [show n - m = (n - m - 1) + 1 by omega, List.replicate_succ] at this
    simpa using this
   have HX := hid hx
   obtain ⟨t, ht⟩ : ∃ t, t = x * 2 ^ s := ⟨_, rfl⟩
   have hp32 : 2 ^ s <= 2 ^ 31 := Nat.pow_le_pow_right (by decide) (by omega)
   have htb : t < 4294967296 * 2 ^ s := by rw [ht]; exact Nat.mul_lt_mul_of_pos_right hxb2 (Nat.pow_pos (by decide))
   have htb2 : t < 18446744073709551616 := by omega
   have hwr : IntKind.u64.wrap ((x : Int) * 2 ^ s) = (t : Int) := by
    rw [show ((x : Int) * 2 ^ s) = (t : Int) by rw [ht]; simp, IntKind.wrap_u64]; omega
   obtain ⟨hlo1, hlo2⟩ := shift_lo x hs ht
   obtain ⟨lo, hlo⟩ : ∃ lo, lo = t % 4294967296 := ⟨_, rfl⟩
   obtain ⟨hi, hhi⟩ : ∃ hi, hi = t / 4294967296 := ⟨_, rfl⟩
   rw [<- hlo] at hlo1 hlo2
   have hhs : hi < 2 ^ s := by rw [hhi, Nat.div_lt_iff_lt_mul (by decide), Nat.mul_comm]; exact htb
   have elo : (t : Int) % 4294967296 = (lo : Int) := by omega
   have ediv : (t : Int) / 4294967296 = (hi : Int) := by omega
   have emod : (hi : Int) % 4294967296 = (hi : Int) := by omega
   obtain ⟨r, hr⟩ : ∃ r, r = c + lo := ⟨_, rfl⟩
   have hor : bits .or .u32 (c : Int) (lo : Int) = (r : Int) := by
    rw [u32_or_nat _ _ (by omega) (by omega), Nat.or_comm, nat_join s _ _ hlo1 hcs, hr, Nat.add_comm]
   have hrb : r < 4294967296 := by omega
   have hsum : lo + B32 * hi = x * 2 ^ s := by rw [<- ht, hlo, hhi]; unfold B32; omega
   have HSUM := hid hsum
   have HRr := hid hr
   have HRB := hid (show r < B32 from hrb)
   clear hcc hx ht hlo hhi hr hsum hlo1 hlo2 htb hp32
   go_wp2
   obtain ⟨h1, h2, h3, h4⟩ := hI.out
   refine ⟨⟨m + 1, hi, q ++ [r], by omega, by go_num, hhs, ?_, ?_, ?_, ?_⟩, by simp [intOf] <;> omega⟩
   ·simp [h1]
   ·exact h2.append (Dg.one HRB.out)
   ·rw [val_snoc, h1, val_take_succ B32 l m (by rw [HL.out]; exact hlt), <- HX.out, HRr.out, Nat.pow_succ]
    exact shiftStep h3 HSUM.out
   ·have h5 := (h4.store (i := m) (by omega) r).store (i := m + 1) (by omega) hi
    rw [Nat.zero_add, Nat.zero_add] at h5
    have e1 : ((q ++ c :: List.replicate (n - m) 0).set m r).set (m + 1) hi = q ++ [r] ++ hi :: List.replicate (n - (m + 1)) 0 := by
     rw [show n - m = (n - (m + 1)) + 1 by omega, List.replicate_succ]
     rw [List.set_append, if_neg (by omega), h1, Nat.sub_self, List.set_cons_zero, List.set_append, if_neg (by omega), h1, show m + 1 - m = 1 by omega]
     simp
    rw [e1] at h5
    exact h5
  ·obtain rfl : m = n := by omega
   obtain ⟨h1, h2, h3, h4⟩ := hI.out
   rw [Nat.sub_self, List.replicate_zero, HNN.out] at h4
   rw [List.take_of_length_le (by rw [HL.out]; exact Nat.le_refl _)] at h3
   have hp32 : 2 ^ s <= 2 ^ 31 := Nat.pow_le_pow_right (by decide) (by omega)
   have H4 := hid h4
   have HV := hid h3
   have HQ := hid h2
   have HQL := hid h1
   clear h1 h2 h3 h4 hI
   go_wp2
   go_ret
   rw [HNN.out]
   refine ⟨g, q ++ [c], rfl, by rw [HG.out]; exact Nat.le_refl _, H4.out.win, HQ.out.append (Dg.one (by unfold B32; omega)), ?_, HBm.out.trans (H4.out.below (by rw [HG.out]; exact Nat.le_refl _))⟩
   rw [val_snoc, HQL.out]; exact HV.out
def lenTab : ByteArray := ⟨(([0, 1, 2, 2] ++ List.replicate 4 3 ++ List.replicate 8 4 ++ List.replicate 16 5 ++ List.replicate 32 6 ++ List.replicate 64 7 ++ List.replicate 128 8) : List UInt8).toArray⟩
theorem lenTab_get : ∀ d : Fin 256, 0 < d.1 -> ∀ h : d.1 < lenTab.size, 2 ^ ((lenTab[d.1]'h).toNat - 1) <= d.1 /\ d.1 < 2 ^ (lenTab[d.1]'h).toNat /\ 0 < (lenTab[d.1]'h).toNat /\ (lenTab[d.1]'h).toNat <= 8 := by decide +kernel
section
variable {k : IntKind} {e : TypeId} {g o n : Nat} {w w' : World} {cur : Array Value} {l : List Nat}
theorem getD_drop (l : List Nat) (i j : Nat) : (l.drop i).getD j 0 = l.getD (i + j) 0 := by
 rw [List.getD_eq_getElem?_getD, List.getElem?_drop, <- List.getD_eq_getElem?_getD]
theorem getD_append_right {l r : List Nat} {i : Nat} (h : l.length <= i) : (l ++ r).getD i 0 = r.getD (i - l.length) 0 := by
 rw [List.getD_eq_getElem?_getD, List.getElem?_append_right h, <- List.getD_eq_getElem?_getD]
theorem Win.sub (h : Win k e w g o n cur l) (i m : Nat) (him : i + m <= n) : Win k e w g (o + i) m cur ((l.drop i).take m) :=
 ⟨h.blk, by have := h.fits; omega, by rw [List.length_take, List.length_drop, h.len]; omega, fun j hj => by
  rw [getD_take hj, getD_drop, Nat.add_assoc]; exact h.at_ (i + j) (by omega)⟩
theorem Onto.whole {i m : Nat} {L : List Nat} (h : Onto k e g (o + i) m w w' cur L) (hw : Win k e w g o n cur l) (him : i + m <= n) : Onto k e g o n w w' cur (l.take i ++ (L ++ l.drop (i + m))) := by
 obtain ⟨c, hc, h1, h2⟩ := h.row
 have hll := hw.len
 have hLl := hc.len
 have hli : (l.take i).length = i := by rw [List.length_take]; omega
 refine ⟨h.os, h.tape, h.output, h.size, h.block, c, ⟨hc.blk, by rw [h1]; exact hw.fits, by rw [List.length_append, List.length_append, hli, hLl, List.length_drop]; omega, fun j hj => ?_⟩, h1, fun j hj => h2 j (by omega)⟩
 by_cases hj1 : j < i
 ·rw [h2 _ (by omega), hw.at_ j hj, getD_append_left (by omega), getD_take hj1]
 ·rw [getD_append_right (by omega), hli]
  by_cases hj2 : j < i + m
  ·rw [getD_append_left (by omega)]
   have := hc.at_ (j - i) (by omega)
   rwa [show o + i + (j - i) = o + j by omega] at this
  ·rw [h2 _ (by omega), hw.at_ j hj, getD_append_right (by omega), getD_drop, hLl, show i + m + (j - i - m) = j by omega]
theorem Win.frame (h : Win k e w g o n cur l) (hb : w'.heap[g]? = w.heap[g]?) : Win k e w' g o n cur l := ⟨hb.trans h.blk, h.fits, h.len, h.at_⟩
theorem Win.row (h : Win k e w g o n cur l) {B cap : Nat} (hd : Dg B l) (h1 : n <= cap) (h2 : cap <= maxLen) : Row k B w (some ⟨g, o, none⟩) n cap l := ⟨h.len, h1, h2, fun e => (by cases e), hd, h.rd⟩
end
theorem len_mk {x d c L : Nat} (hd : d = x / 2 ^ c) (h1 : 2 ^ (L - 1) <= d) (h2 : d < 2 ^ L) (h3 : 0 < L) : 2 ^ (c + L - 1) <= x /\ x < 2 ^ (c + L) := by
 have hp : 0 < 2 ^ c := Nat.pow_pos (by decide)
 subst hd
 constructor
 ·rw [show c + L - 1 = (L - 1) + c by omega, Nat.pow_add]
  exact (Nat.le_div_iff_mul_le hp).1 h1
 ·rw [Nat.add_comm, Nat.pow_add]
  exact (Nat.div_lt_iff_lt_mul hp).1 h2
def LenPost (x : Nat) (w : World) (e : Ending) (w' : World) : Prop := ∃ L : Nat, e = .returned (.int .i64 L) /\ 0 < L /\ L <= 32 /\ 2 ^ (L - 1) <= x /\ x < 2 ^ L /\ w' = w
theorem len_end (x d c : Nat) (z : Int) (w : World) (hc : c <= 24) (hd : d = x / 2 ^ c) (h0 : 0 < d) (h1 : d < 256) (hz : ∀ h : d < lenTab.size, z = ((c + (lenTab[d]'h).toNat : Nat) : Int)) : LenPost x w (.returned (.int .i64 z)) w := by
 have hs : lenTab.size = 256 := by kernel_rfl
 have hlt : d < lenTab.size := by omega
 obtain ⟨a1, a2, a3, a4⟩ := lenTab_get ⟨d, h1⟩ h0 hlt
 obtain ⟨b1, b2⟩ := len_mk hd a1 a2 a3
 refine ⟨_, by rw [hz hlt], ?_, ?_, b1, b2, rfl⟩
 ·omega
 ·have : (lenTab[d]'hlt).toNat <= 8 := a4
  omega
theorem len_wrap (c t : Nat) (hc : c <= 24) (ht : t < 256) : wrap64 ((c : Int) + wrap64 (t : Int)) = ((c + t : Nat) : Int) := by unfold wrap64; omega
theorem len_wrap0 (t : Nat) (ht : t < 256) : wrap64 (wrap64 (t : Int)) = ((0 + t : Nat) : Int) := by unfold wrap64; omega
set_option maxRecDepth 100000 in
set_option maxHeartbeats 400000 in
theorem len32_any (x : Nat) (h0 : 0 < x) (hx : x < 4294967296) (w : World) : Calls Tryz.prog 124 #[.int .u32 x] w (LenPost x w) := by
 go_enter Tryz.func124, Tryz.ntmps124
 by_cases h1 : 65536 <= x
 ·have e1 : decide ((65536 : Int) <= x) = true := by simp; omega
  go_wp2
  ·go_ret
   exact len_end x (x / 65536 / 256) 24 _ w (by omega) (by rw [Nat.div_div_eq_div_mul]) (by omega) (by omega) (fun h => len_wrap 24 _ (by omega) (UInt8.toNat_lt _))
  ·go_ret
   exact len_end x (x / 65536) 16 _ w (by omega) rfl (by omega) (by omega) (fun h => len_wrap 16 _ (by omega) (UInt8.toNat_lt _))
 ·have e1 : decide ((65536 : Int) <= x) = false := by simp; omega
  go_wp2
  ·go_ret
   exact len_end x (x / 256) 8 _ w (by omega) rfl (by omega) (by omega) (fun h => len_wrap 8 _ (by omega) (UInt8.toNat_lt _))
  ·go_ret
   exact len_end x x 0 _ w (by omega) (by simp) (by omega) (by omega) (fun h => len_wrap0 _ (UInt8.toNat_lt _))
theorem lead_mk {x L s : Nat} (h1 : 0 < L) (h2 : L <= 32) (h3 : 2 ^ (L - 1) <= x) (h4 : x < 2 ^ L) (hs : s = 32 - L) : s < 32 /\ 2147483648 <= x * 2 ^ s /\ x * 2 ^ s < 4294967296 := by
 refine ⟨by omega, ?_, ?_⟩
 ·have : 2 ^ (L - 1) * 2 ^ s <= x * 2 ^ s := Nat.mul_le_mul_right _ h3
  rw [<- Nat.pow_add, show L - 1 + s = 31 by omega] at this
  exact this
 ·have : x * 2 ^ s < 2 ^ L * 2 ^ s := Nat.mul_lt_mul_of_pos_right h4 (Nat.pow_pos (by decide))
  rw [<- Nat.pow_add, show L + s = 32 by omega] at this
  exact this
theorem lead32_any (x : Nat) (h0 : 0 < x) (hx : x < 4294967296) (w : World) : Calls Tryz.prog 98 #[.int .u32 x] w fun e w' => ∃ s : Nat, e = .returned (.int .i64 s) /\ s < 32 /\ 2147483648 <= x * 2 ^ s /\ x * 2 ^ s < 4294967296 /\ w' = w := by
 go_enter Tryz.func98, Tryz.ntmps98
 go_wp2_with (go_at_call 124; refine (len32_any x h0 hx _).mono ?_; rintro e wz ⟨L, rfl, a1, a2, a3, a4, hwz⟩; rw [hwz]; have A3 := hid a3; have A4 := hid a4; clear a3 a4)
 go_ret
 obtain ⟨b1, b2, b3⟩ := lead_mk a1 a2 A3.out A4.out rfl
 exact ⟨32 - L, ret_i64 (by omega), b1, b2, b3, rfl⟩
end Go.Proofs.YtdekkieajffblaaGreatDoor
