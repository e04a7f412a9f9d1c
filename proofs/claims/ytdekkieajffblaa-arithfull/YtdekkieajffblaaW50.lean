/-
  Walks: guessLimb.
-/
import Derived.Test.YtdekkieajffblaaW49
set_option linter.unusedVariables false
set_option linter.unusedSimpArgs false
namespace Go.Proofs.Ytdekkieajffblaa
open Go.RowKit

set_option maxHeartbeats 4000000 in
theorem guessLimb_any (ao ao' : Option Addr) (n cap cap' : Nat) (u d : List Nat) (w : World) (R : Row .u32 B32 w ao (n + 1) cap u) (R' : Row .u32 B32 w ao' n cap' d) (hn2 : 2 ≤ n) (hn : n ≤ 40)
    (hh : 2147483648 ≤ d.getD (n - 1) 0) (hUV : val B32 u < B32 * val B32 d) :
    Calls Try.prog 91 #[.slice ao (n + 1) cap, .slice ao' n cap'] w fun e w' => ∃ g : Nat, e = .returned (.int .u32 g) ∧ Gs B32 (val B32 u) (val B32 d) g ∧ ∃ k, w' = w.drewN k := by
  obtain ⟨v0, hv0, hV⟩ := val_top2 R'.dg R'.len hn2
  obtain ⟨u0, hu0, hU⟩ := val_top3 R.dg R.len hn2
  obtain ⟨b, o, rfl, hl, hc⟩ := R.rd.some (by rw [R.len]; omega)
  obtain ⟨b', o', rfl, hl', hc'⟩ := R'.rd.some (by rw [R'.len]; omega)
  obtain ⟨h, ehh⟩ : ∃ h, h = d.getD (n - 1) 0 := ⟨_, rfl⟩
  obtain ⟨nx, enx⟩ : ∃ h, h = d.getD (n - 2) 0 := ⟨_, rfl⟩
  obtain ⟨x0, ex0⟩ : ∃ h, h = u.getD n 0 := ⟨_, rfl⟩
  obtain ⟨x1, ex1⟩ : ∃ h, h = u.getD (n - 1) 0 := ⟨_, rfl⟩
  obtain ⟨x2, ex2⟩ : ∃ h, h = u.getD (n - 2) 0 := ⟨_, rfl⟩
  have b0 : x0 < 4294967296 := by rw [ex0]; exact R.dg.getD _ (by rw [R.len]; omega)
  have b1 : x1 < 4294967296 := by rw [ex1]; exact R.dg.getD _ (by rw [R.len]; omega)
  have b2 : x2 < 4294967296 := by rw [ex2]; exact R.dg.getD _ (by rw [R.len]; omega)
  have bh : h < 4294967296 := by rw [ehh]; exact R'.dg.getD _ (by rw [R'.len]; omega)
  have bn : nx < 4294967296 := by rw [enx]; exact R'.dg.getD _ (by rw [R'.len]; omega)
  have c0 : w.cell? ⟨b, o + n, none⟩ = some (.int .u32 x0) := by rw [hc n (by rw [R.len]; omega), ex0]
  have c1 : w.cell? ⟨b, o + (n - 1), none⟩ = some (.int .u32 x1) := by rw [hc (n - 1) (by rw [R.len]; omega), ex1]
  have c2 : w.cell? ⟨b, o + (n - 2), none⟩ = some (.int .u32 x2) := by rw [hc (n - 2) (by rw [R.len]; omega), ex2]
  have ch : w.cell? ⟨b', o' + (n - 1), none⟩ = some (.int .u32 h) := by rw [hc' (n - 1) (by rw [R'.len]; omega), ehh]
  have cn : w.cell? ⟨b', o' + (n - 2), none⟩ = some (.int .u32 nx) := by rw [hc' (n - 2) (by rw [R'.len]; omega), enx]
  rw [← ehh] at hh
  rw [← ehh, ← enx] at hV
  rw [← ex0, ← ex1, ← ex2] at hU
  have hmx := R.most
  have hft := R.fits
  have hmx' := R'.most
  have hft' := R'.fits
  unfold maxLen at hmx hmx'
  clear hc hc' hl hl' R R' ehh enx ex0 ex1 ex2
  obtain ⟨top, htop⟩ : ∃ t, t = x0 * 4294967296 + x1 := ⟨_, rfl⟩
  have hor := or_join x0 x1 b0 b1
  rw [← htop] at hor
  have hU2 : val B32 u = u0 + B32 ^ (n - 2) * (x2 + B32 * top) := by rw [hU, htop]; rfl
  have htb : top < 18446744073709551616 := by omega
  generalize val B32 u = U at *
  generalize val B32 d = V at *
  have htl := top_lt hV hU2 hv0 bn hUV
  have hfst := guess_first (h := h) hV hU2 hu0 b2 (by omega)
  have H1 := hid hV
  have H2 := hid hU2
  have H3 := hid hv0
  have H4 := hid hu0
  have H5 := hid hUV
  have H6 := hid htl
  have H7 := hid hfst
  clear hU hV hU2 hv0 hu0 hUV htl hfst htop
  obtain ⟨q, hq⟩ : ∃ q, q = top / h := ⟨_, rfl⟩
  obtain ⟨r, hr⟩ : ∃ r, r = top % h := ⟨_, rfl⟩
  have hqr : top = q * h + r := by rw [hq, hr, Nat.mul_comm]; exact (Nat.div_add_mod top h).symm
  have hrh : r < h := by rw [hr]; exact Nat.mod_lt _ (by omega)
  have hqt : q ≤ top := by rw [hq]; exact Nat.div_le_self _ _
  have ediv : (top : Int).tdiv h = (q : Int) := by rw [hq]; exact (Int.ofNat_tdiv _ _).symm
  have emod : (top : Int).tmod h = (r : Int) := by rw [hr]; exact (Int.ofNat_tmod _ _).symm
  rw [← hq] at H7
  have H8 := hid hqr
  clear hq hr hqr
  go_enter Try.func91, Try.ntmps91
  go_wp2
  go_quiet (fail)
  go_wp2
  go_quiet (fail)
  go_wp2
  go_quiet (fail)
  go_wp2
  generalize hW : ((w.drewN _).drewN _).drewN _ = w0
  have HW : Hid (∃ k, w0 = w.drewN k) := ⟨_, by rw [← hW, World.drewN_drewN, World.drewN_drewN]⟩
  go_loopw [9, 10] (fun t i wr => ∃ G s : Nat, t = .int .u64 G ∧ i = .int .u64 s ∧ s < 4294967296 ∧ G < 18446744073709551616 ∧ Hid (top = G * h + s ∧ U < (G + 1) * V ∧ ∃ k, wr = w.drewN k)) (fun _ i _ => (8589934592 - intOf i).toNat)
  case atStart => exact ⟨q, r, rfl, rfl, by omega, by omega, H8.out, H7.out, HW.out⟩
  case round =>
    clear hW
    obtain ⟨G, s, rfl, rfl, hs, hGb, hI⟩ := hrel
    obtain ⟨k, hk⟩ := hI.out.2.2
    subst hk
    have goOn : Hid (U < G * V → ∀ G1 s1 : Int, G1 = (G : Int) - 1 → s1 = (s : Int) + h → (s : Int) + h ≤ 4294967295 → (∃ G_1 s_1 : Nat, Value.int .u64 G1 = Value.int .u64 G_1 ∧ Value.int .u64 s1 = Value.int .u64 s_1 ∧ s_1 < 4294967296 ∧ G_1 < 18446744073709551616 ∧
        Hid (top = G_1 * h + s_1 ∧ U < (G_1 + 1) * V ∧ ∃ k_1, w.drewN k = w.drewN k_1)) ∧ (8589934592 - intOf (.int .u64 s1)).toNat < (8589934592 - intOf (.int .u64 (s : Int))).toNat) := by
      rintro hlt G1 s1 rfl rfl hle
      have hGp : 0 < G := by
        apply Nat.pos_of_ne_zero; rintro rfl; simp at hlt
      obtain ⟨F, rfl⟩ : ∃ F, G = F + 1 := ⟨G - 1, by omega⟩
      refine ⟨⟨F, s + h, by congr 1; omega, by congr 1, by omega, by omega, ?_, hlt, k, rfl⟩, by simp [intOf] <;> omega⟩
      have := hI.out.1
      rw [Nat.add_mul] at this; omega
    have stop : Hid (U < G * V → 4294967295 < (s : Int) + h → G - 1 < 4294967296 ∧ Gs B32 U V (G - 1)) := by
      intro hlt hle
      have hGp : 0 < G := by
        apply Nat.pos_of_ne_zero; rintro rfl; simp at hlt
      obtain ⟨F, rfl⟩ : ∃ F, G = F + 1 := ⟨G - 1, by omega⟩
      have ht : top = F * h + (s + h) := by have := hI.out.1; rw [Nat.add_mul] at this; omega
      obtain ⟨a1, a2⟩ := broken (u2 := x2) (B := B32) ht (by unfold B32; omega) H6.out bn
      exact ⟨a1, a1, hlt, guess_high ht H1.out H2.out H3.out (by omega) a1 a2⟩
    by_cases hG : 4294967295 < G
    · have e1 : decide ((4294967295 : Int) < G) = true := by simp; omega
      have hlt : Hid (U < G * V) := Nat.lt_of_lt_of_le H5.out (Nat.mul_le_mul_right _ (by unfold B32; omega))
      go_wp2
      · obtain ⟨a1, a2⟩ := stop.out hlt.out (by assumption)
        go_ret
        refine ⟨G - 1, ?_, a2, k, rfl⟩
        refine congrArg (fun z : Int => Ending.returned (.int .u32 z)) ?_
        omega
      · exact goOn.out hlt.out _ _ rfl rfl (by assumption)
    · have e1 : decide ((4294967295 : Int) < G) = false := by simp; omega
      have hor2 := or_join s x2 hs b2
      obtain ⟨z, hz⟩ : ∃ z, z = s * 4294967296 + x2 := ⟨_, rfl⟩
      rw [← hz] at hor2
      obtain ⟨y, hy⟩ : ∃ y, y = G * nx := ⟨_, rfl⟩
      have hyb : y ≤ 18446744065119617025 := by rw [hy]; exact Nat.mul_le_mul (show G ≤ 4294967295 by omega) (show nx ≤ 4294967295 by omega)
      have ey : (G : Int) * nx = (y : Int) := by rw [hy, Int.natCast_mul]
      have hzb : z < 18446744073709551616 := by omega
      by_cases hc : z < y
      · have e2 : decide ((z : Int) < y) = true := by simp; omega
        have hlt : Hid (U < G * V) := guess_low hI.out.1 H1.out H2.out H4.out (by rw [hz, hy] at hc; exact hc)
        have hGp : 0 < G := by
          apply Nat.pos_of_ne_zero; rintro rfl; simp at hy; omega
        clear hz hy
        go_wp2
        · obtain ⟨a1, a2⟩ := stop.out hlt.out (by assumption)
          go_ret
          refine ⟨G - 1, ?_, a2, k, rfl⟩
          refine congrArg (fun z : Int => Ending.returned (.int .u32 z)) ?_
          omega
        · exact goOn.out hlt.out _ _ rfl rfl (by assumption)
      · have e2 : decide ((z : Int) < y) = false := by simp; omega
        have hfin : Hid (Gs B32 U V G) := ⟨by unfold B32; omega, hI.out.2.1, guess_high hI.out.1 H1.out H2.out H3.out (by omega) (by unfold B32; omega) (by rw [hz, hy] at hc; unfold B32; omega)⟩
        clear hz hy
        go_wp2
        go_ret
        exact ⟨G, rfl, hfin.out, k, rfl⟩

end Go.Proofs.Ytdekkieajffblaa
