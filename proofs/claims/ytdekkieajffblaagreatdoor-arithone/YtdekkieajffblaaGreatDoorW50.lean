import Derived.Test.YtdekkieajffblaaGreatDoorW48
set_option linter.unusedVariables false
set_option linter.unusedSimpArgs false
namespace Go.Proofs.YtdekkieajffblaaGreatDoor
open Go.RowKit
theorem downStep {x a X s2 B : Nat} (hd : s2 ∣ B) (hs : 0 < s2) (ha : X % s2 = a % s2) (hx : x < B) : (a * B + x) / s2 % B + B * (X / s2) = (x + B * X) / s2 := by
 obtain ⟨z, hz⟩ : ∃ z, z = X % s2 := ⟨_, rfl⟩
 have hzs : z < s2 := by rw [hz]; exact Nat.mod_lt _ hs
 have e1 : x + B * X = x + B * z + s2 * (B * (X / s2)) := by
  have := Nat.div_add_mod X s2
  rw [<- hz] at this
  have h2 : B * X = B * (s2 * (X / s2) + z) := by rw [this]
  rw [h2]; grind
 have e2 : a * B + x = x + B * z + s2 * (B * (a / s2)) := by
  have := Nat.div_add_mod a s2
  rw [<- ha, <- hz] at this
  have h2 : a * B = (s2 * (a / s2) + z) * B := by rw [this]
  rw [h2]; grind
 rw [e1, e2, Nat.add_mul_div_left _ _ hs, Nat.add_mul_div_left _ _ hs, Nat.add_mul_mod_self_left, Nat.mod_eq_of_lt]
 rw [Nat.div_lt_iff_lt_mul hs]
 have : B * (z + 1) <= B * s2 := Nat.mul_le_mul_left _ hzs
 rw [Nat.mul_add] at this
 omega
theorem pow_dvd32 {s : Nat} (hs : s < 32) : 2 ^ s ∣ B32 := by
 rw [show B32 = 2 ^ 32 from rfl]; exact Nat.pow_dvd_pow 2 (by omega)
theorem low_drop {l : List Nat} {s m : Nat} (hs : s < 32) : val B32 (l.drop m) % 2 ^ s = l.getD m 0 % 2 ^ s := by
 by_cases hm : m < l.length
 ·rw [val_drop_succ B32 l m hm]
  obtain ⟨c, hc⟩ := pow_dvd32 hs
  rw [hc, Nat.mul_assoc, Nat.add_mul_mod_self_left]
 ·rw [List.drop_eq_nil_of_le (by omega), List.getD_eq_getElem?_getD, List.getElem?_eq_none (by omega)]; rfl
set_option maxHeartbeats 2000000 in
theorem shiftDown_any (ao : Option Addr) (n cap : Nat) (l : List Nat) (s : Nat) (w : World) (R : Row .u32 B32 w ao n cap l) (hn : n <= 40) (hs : s < 32) :
  Calls Tryz.prog 102 #[.slice ao n cap, .int .i64 s] w fun e w' => ∃ g L, e = .returned (.slice (some ⟨g, 0, none⟩) n n) /\ (∃ cur, Win .u32 58 w' g 0 n cur L) /\ Dg B32 L /\ val B32 L = val B32 l / 2 ^ s /\ Below w.heap.size w w' := by
 have HR := hid R
 have HL := hid R.len
 have hmx := R.most
 have hft := R.fits
 unfold maxLen at hmx
 clear R
 have hmk := fun wx => run_make_row' (P := Tryz.prog) 22 58 (.int .u32 0) 4 Tryz.underlying22 info_u32 rfl .i64 .i64 n (by omega) (by omega) wx
 go_enter Tryz.func102, Tryz.ntmps102
 go_wp2
 have hW0 := made_win w .u32 58 n
 have hbm := Ba w (.cells (madeCells #[.int .u32 0] n) 58)
 obtain ⟨g, hg⟩ : ∃ g, g = w.heap.size := ⟨_, rfl⟩
 rw [<- hg] at hW0
 generalize hWW : w.alloc (.cells (madeCells #[.int .u32 0] n) 58) = W1 at *
 generalize madeCells #[.int .u32 0] n = cur at *
 have HW0 := hid hW0
 have HBm := hid hbm
 have HG := hid hg
 rw [<- hg]
 clear hmk hWW hW0 hbm hg
 go_loopw [6, 7] (fun t i wr => ∃ m a : Nat, ∃ q : List Nat, m <= n /\ i = .int .i64 ((m : Int) - 1) /\ t = .int .u32 a /\ a < 4294967296 /\ Hid (a = l.getD m 0 /\ q.length = n - m /\ Dg B32 q /\ val B32 q = val B32 (l.drop m) / 2 ^ s /\ Onto .u32 58 g 0 n W1 wr cur (List.replicate m 0 ++ q))) (fun _ i _ => (intOf i + 1).toNat)
 case atStart => exact ⟨n, 0, [], Nat.le_refl _, rfl, rfl, by omega, by rw [List.getD_eq_getElem?_getD, List.getElem?_eq_none (by rw [HL.out]; omega)]; rfl, by simp, Dg.nil _, by rw [List.drop_eq_nil_of_le (by rw [HL.out]; omega)]; simp [val], by
  rw [List.append_nil]; exact HW0.out.onto⟩
 case round =>
  obtain ⟨m, a, q, hm, rfl, rfl, ha, hI⟩ := hrel
  by_cases hz : m = 0
  ·subst hz
   obtain ⟨h0, h1, h2, h3, h4⟩ := hI.out
   have H2 := hid h2
   have H3 := hid h3
   have H4 := hid h4
   clear h0 h1 h2 h3 h4
   go_wp2
   go_ret
   refine ⟨g, q, rfl, by simpa using H4.out.win, H2.out, by simpa using H3.out, HBm.out.trans (H4.out.below (by rw [HG.out]; exact Nat.le_refl _))⟩
  ·obtain ⟨p, rfl⟩ : ∃ p, m = p + 1 := ⟨m - 1, by omega⟩
   obtain ⟨b, o, rfl, hl, hcc⟩ := HR.out.rd.some (by rw [HL.out]; omega)
   obtain ⟨x, hx⟩ : ∃ x, x = l.getD p 0 := ⟨_, rfl⟩
   have hxb : x < B32 := by rw [hx]; exact HR.out.dg.getD _ (by rw [HL.out]; omega)
   have hxb2 : x < 4294967296 := hxb
   have hcx : wr.cell? ⟨b, o + p, none⟩ = some (.int .u32 x) := by
    rw [hI.out.2.2.2.2.other (by rw [HG.out]; omega), HBm.out.cell (p := ⟨b, o + p, none⟩) hl, hcc p (by rw [HL.out]; omega), hx]
   have hcm : wr.cell? ⟨g, p, none⟩ = some (.int .u32 0) := by
    have := hI.out.2.2.2.2.cell (i := p) (by omega)
    rw [getD_append_left (by simp), getD_zeros] at this
    simpa using this
   have hf1 : wr.frozen? ⟨g, p, none⟩ = false := hI.out.2.2.2.2.frozen _
   have HX := hid hx
   have hor := or_join a x ha hxb2
   obtain ⟨z, hzz⟩ : ∃ z, z = a * 4294967296 + x := ⟨_, rfl⟩
   rw [<- hzz] at hor
   have hzb : z < 18446744073709551616 := by omega
   obtain ⟨t, ht⟩ : ∃ t, t = z / 2 ^ s := ⟨_, rfl⟩
   have htz : t <= z := by rw [ht]; exact Nat.div_le_self _ _
   have hshr : (z : Int) / 2 ^ s = (t : Int) := by rw [ht]; simp
   obtain ⟨r, hr⟩ : ∃ r, r = t % 4294967296 := ⟨_, rfl⟩
   have hmod : (t : Int) % 4294967296 = (r : Int) := by omega
   have hrb : r < B32 := by rw [hr]; exact Nat.mod_lt _ (by decide)
   have HRR : Hid (r = (a * B32 + x) / 2 ^ s % B32) := by rw [hr, ht, hzz]; rfl
   have HRB := hid hrb
   clear hcc hx ht hzz hr hrb
   go_wp2
   obtain ⟨h0, h1, h2, h3, h4⟩ := hI.out
   refine ⟨⟨p, x, r :: q, by omega, rfl, rfl, hxb2, HX.out, by simp [h1]; omega, ?_, ?_, ?_⟩, by simp [intOf] <;> omega⟩
   ·exact fun y hy => by rcases List.mem_cons.1 hy with rfl | hy; exact HRB.out; exact h2 y hy
   ·rw [val_cons, h3, HRR.out, val_drop_succ B32 l p (by rw [HL.out]; omega), <- HX.out]
    exact downStep (pow_dvd32 hs) (Nat.pow_pos (by decide)) (by rw [h0]; exact low_drop hs) hxb
   ·have h5 := h4.store (i := p) (by omega) r
    rw [Nat.zero_add] at h5
    have e1 : (List.replicate (p + 1) 0 ++ q).set p r = List.replicate p 0 ++ r :: q := by
     rw [List.replicate_succ', List.append_assoc, List.set_append, if_neg (by simp), List.length_replicate, Nat.sub_self]; rfl
    rw [e1] at h5
    exact h5
set_option maxHeartbeats 4000000 in
theorem guessLimb_any (ao ao' : Option Addr) (n cap cap' : Nat) (u d : List Nat) (w : World) (R : Row .u32 B32 w ao (n + 1) cap u) (R' : Row .u32 B32 w ao' n cap' d) (hn2 : 2 <= n) (hn : n <= 40)
  (hh : 2147483648 <= d.getD (n - 1) 0) (hUV : val B32 u < B32 * val B32 d) :
  Calls Tryz.prog 100 #[.slice ao (n + 1) cap, .slice ao' n cap'] w fun e w' => ∃ g : Nat, e = .returned (.int .u32 g) /\ Gs B32 (val B32 u) (val B32 d) g /\ ∃ k, w' = w.drewN k := by
 obtain ⟨v0, hv0, hV⟩ := val_top2 R'.dg R'.len hn2
 obtain ⟨u0, hu0, hU⟩ := val_top3 R.dg R.len hn2
 obtain ⟨b, o, rfl, hl, hc⟩ := R.rd.some (by rw [R.len]; omega)
 obtain ⟨b', o', rfl, hl', hc'⟩ := R'.rd.some (by rw [R'.len]; omega)
 obtain ⟨h, ehh⟩ : ∃ h, h = d.getD (n - 1) 0 := ⟨_, rfl⟩
 obtain ⟨nx, enx⟩ : ∃ h, h = d.getD (n - 2) 0 := ⟨_, rfl⟩
 obtain ⟨x0, ex0⟩ : ∃ h, h = u.getD n 0 := ⟨_, rfl⟩
 obtain ⟨x1, ex1⟩ : ∃ h, h = u.getD (n - 1) 0 := ⟨_, rfl⟩
 obtain ⟨x2, ex2⟩ : ∃ h, h = u.getD (n - 2) 0 := ⟨_, rfl⟩
 have b0 : x0 < 4294967296 := by rw [ex0]; exact R.dg.getD _ (by rw [R.len]; omega)
 have b1 : x1 < 4294967296 := by rw [ex1]; exact R.dg.getD _ (by rw [R.len]; omega)
 have b2 : x2 < 4294967296 := by rw [ex2]; exact R.dg.getD _ (by rw [R.len]; omega)
 have bh : h < 4294967296 := by rw [ehh]; exact R'.dg.getD _ (by rw [R'.len]; omega)
 have bn : nx < 4294967296 := by rw [enx]; exact R'.dg.getD _ (by rw [R'.len]; omega)
 have c0 : w.cell? ⟨b, o + n, none⟩ = some (.int .u32 x0) := by rw [hc n (by rw [R.len]; omega), ex0]
 have c1 : w.cell? ⟨b, o + (n - 1), none⟩ = some (.int .u32 x1) := by rw [hc (n - 1) (by rw [R.len]; omega), ex1]
 have c2 : w.cell? ⟨b, o + (n - 2), none⟩ = some (.int .u32 x2) := by rw [hc (n - 2) (by rw [R.len]; omega), ex2]
 have ch : w.cell? ⟨b', o' + (n - 1), none⟩ = some (.int .u32 h) := by rw [hc' (n - 1) (by rw [R'.len]; omega), ehh]
 have cn : w.cell? ⟨b', o' + (n - 2), none⟩ = some (.int .u32 nx) := by rw [hc' (n - 2) (by rw [R'.len]; omega), enx]
 rw [<- ehh] at hh
 rw [<- ehh, <- enx] at hV
 rw [<- ex0, <- ex1, <- ex2] at hU
 have hmx := R.most
 have hft := R.fits
 have hmx' := R'.most
 have hft' := R'.fits
 unfold maxLen at hmx hmx'
 clear hc hc' hl hl' R R' ehh enx ex0 ex1 ex2
 obtain ⟨top, htop⟩ : ∃ t, t = x0 * 4294967296 + x1 := ⟨_, rfl⟩
 have hor := or_join x0 x1 b0 b1
 rw [<- htop] at hor
 have hU2 : val B32 u = u0 + B32 ^ (n - 2) * (x2 + B32 * top) := by rw [hU, htop]; rfl
 have htb : top < 18446744073709551616 := by omega
 generalize val B32 u = U at *
 generalize val B32 d = V at *
 have htl := top_lt hV hU2 hv0 bn hUV
 have hfst := guess_first (h := h) hV hU2 hu0 b2 (by omega)
 have H1 := hid hV
 have H2 := hid hU2
 have H3 := hid hv0
 have H4 := hid hu0
 have H5 := hid hUV
 have H6 := hid htl
 have H7 := hid hfst
 clear hU hV hU2 hv0 hu0 hUV htl hfst htop
 obtain ⟨q, hq⟩ : ∃ q, q = top / h := ⟨_, rfl⟩
 obtain ⟨r, hr⟩ : ∃ r, r = top % h := ⟨_, rfl⟩
 have hqr : top = q * h + r := by rw [hq, hr, Nat.mul_comm]; exact (Nat.div_add_mod top h).symm
 have hrh : r < h := by rw [hr]; exact Nat.mod_lt _ (by omega)
 have hqt : q <= top := by rw [hq]; exact Nat.div_le_self _ _
 have ediv : (top : Int).tdiv h = (q : Int) := by rw [hq]; exact (Int.ofNat_tdiv _ _).symm
 have emod : (top : Int).tmod h = (r : Int) := by rw [hr]; exact (Int.ofNat_tmod _ _).symm
 rw [<- hq] at H7
 have H8 := hid hqr
 clear hq hr hqr
 go_enter Tryz.func100, Tryz.ntmps100
 go_wp2
 go_quiet (fail)
 go_wp2
 go_quiet (fail)
 go_wp2
 go_quiet (fail)
 go_wp2
 generalize hW : ((w.drewN _).drewN _).drewN _ = w0
 have HW : Hid (∃ k, w0 = w.drewN k) := ⟨_, by rw [<- hW, World.drewN_drewN, World.drewN_drewN]⟩
 go_loopw [9, 10] (fun t i wr => ∃ G s : Nat, t = .int .u64 G /\ i = .int .u64 s /\ s < 4294967296 /\ G < 18446744073709551616 /\ Hid (top = G * h + s /\ U < (G + 1) * V /\ ∃ k, wr = w.drewN k)) (fun _ i _ => (8589934592 - intOf i).toNat)
 case atStart => exact ⟨q, r, rfl, rfl, by omega, by omega, H8.out, H7.out, HW.out⟩
 case round =>
  clear hW
  obtain ⟨G, s, rfl, rfl, hs, hGb, hI⟩ := hrel
  obtain ⟨k, hk⟩ := hI.out.2.2
  subst hk
  have goOn : Hid (U < G * V -> ∀ G1 s1 : Int, G1 = (G : Int) - 1 -> s1 = (s : Int) + h -> (s : Int) + h <= 4294967295 -> (∃ G_1 s_1 : Nat, Value.int .u64 G1 = Value.int .u64 G_1 /\ Value.int .u64 s1 = Value.int .u64 s_1 /\ s_1 < 4294967296 /\ G_1 < 18446744073709551616 /\
    Hid (top = G_1 * h + s_1 /\ U < (G_1 + 1) * V /\ ∃ k_1, w.drewN k = w.drewN k_1)) /\ (8589934592 - intOf (.int .u64 s1)).toNat < (8589934592 - intOf (.int .u64 (s : Int))).toNat) := by
   rintro hlt G1 s1 rfl rfl hle
   have hGp : 0 < G := by
    apply Nat.pos_of_ne_zero; rintro rfl; simp at hlt
   obtain ⟨F, rfl⟩ : ∃ F, G = F + 1 := ⟨G - 1, by omega⟩
   refine ⟨⟨F, s + h, by congr 1; omega, by congr 1, by omega, by omega, ?_, hlt, k, rfl⟩, by simp [intOf] <;> omega⟩
   have := hI.out.1
   rw [Nat.add_mul] at this; omega
  have stop : Hid (U < G * V -> 4294967295 < (s : Int) + h -> G - 1 < 4294967296 /\ Gs B32 U V (G - 1)) := by
   intro hlt hle
   have hGp : 0 < G := by
    apply Nat.pos_of_ne_zero; rintro rfl; simp at hlt
   obtain ⟨F, rfl⟩ : ∃ F, G = F + 1 := ⟨G - 1, by omega⟩
   have ht : top = F * h + (s + h) := by have := hI.out.1; rw [Nat.add_mul] at this; omega
   obtain ⟨a1, a2⟩ := broken (u2 := x2) (B := B32) ht (by unfold B32; omega) H6.out bn
   exact ⟨a1, a1, hlt, guess_high ht H1.out H2.out H3.out (by omega) a1 a2⟩
  by_cases hG : 4294967295 < G
  ·have e1 : decide ((4294967295 : Int) < G) = true := by simp; omega
   have hlt : Hid (U < G * V) := Nat.lt_of_lt_of_le H5.out (Nat.mul_le_mul_right _ (by unfold B32; omega))
   go_wp2
   ·obtain ⟨a1, a2⟩ := stop.out hlt.out (by assumption)
    go_ret
    refine ⟨G - 1, ?_, a2, k, rfl⟩
    refine congrArg (fun z : Int => Ending.returned (.int .u32 z)) ?_
    omega
   ·exact goOn.out hlt.out _ _ rfl rfl (by assumption)
  ·have e1 : decide ((4294967295 : Int) < G) = false := by simp; omega
   have hor2 := or_join s x2 hs b2
   obtain ⟨z, hz⟩ : ∃ z, z = s * 4294967296 + x2 := ⟨_, rfl⟩
   rw [<- hz] at hor2
   obtain ⟨y, hy⟩ : ∃ y, y = G * nx := ⟨_, rfl⟩
   have hyb : y <= 18446744065119617025 := by rw [hy]; exact Nat.mul_le_mul (show G <= 4294967295 by omega) (show nx <= 4294967295 by omega)
   have ey : (G : Int) * nx = (y : Int) := by rw [hy, Int.natCast_mul]
   have hzb : z < 18446744073709551616 := by omega
   by_cases hc : z < y
   ·have e2 : decide ((z : Int) < y) = true := by simp; omega
    have hlt : Hid (U < G * V) := guess_low hI.out.1 H1.out H2.out H4.out (by rw [hz, hy] at hc; exact hc)
    have hGp : 0 < G := by
     apply Nat.pos_of_ne_zero; rintro rfl; simp at hy; omega
    clear hz hy
    go_wp2
    ·obtain ⟨a1, a2⟩ := stop.out hlt.out (by assumption)
     go_ret
     refine ⟨G - 1, ?_, a2, k, rfl⟩
     refine congrArg (fun z : Int => Ending.returned (.int .u32 z)) ?_
     omega
    ·exact goOn.out hlt.out _ _ rfl rfl (by assumption)
   ·have e2 : decide ((z : Int) < y) = false := by simp; omega
    have hfin : Hid (Gs B32 U V G) := ⟨by unfold B32; omega, hI.out.2.1, guess_high hI.out.1 H1.out H2.out H3.out (by omega) (by unfold B32; omega) (by rw [hz, hy] at hc; unfold B32; omega)⟩
    clear hz hy
    go_wp2
    go_ret
    exact ⟨G, rfl, hfin.out, k, rfl⟩
end Go.Proofs.YtdekkieajffblaaGreatDoor
