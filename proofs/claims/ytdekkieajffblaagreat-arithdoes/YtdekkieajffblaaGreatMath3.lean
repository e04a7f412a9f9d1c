/-
  Plain mathematics: long division, digit by digit (Knuth's D).
-/
import Derived.Test.YtdekkieajffblaaGreatW32
import Derived.Test.YtdekkieajffblaaGreatW1
set_option linter.unusedVariables false
set_option linter.unusedSimpArgs false
namespace Go.Proofs.YtdekkieajffblaaGreat
open Go.RowKit

theorem len_le8 {a b : List Nat} (ha : Dg 256 a) (hb : Dg 256 b) (tb : Tr b) (h : val 256 b ≤ val 256 a) : b.length ≤ a.length := by
  by_cases h' : b.length ≤ a.length
  · exact h'
  · have := lt_of_length (B := 256) (by decide) ha tb (by omega); omega

set_option maxHeartbeats 4000000 in
theorem radd_any (neg neg' : Bool) (ao ao' : Option Addr) (n cap n' cap' : Nat) (l l' : List Nat) (w : World) (R : Row .u32 B32 w ao n cap l) (R' : Row .u32 B32 w ao' n' cap' l') (hs : n ≤ 40) (hs' : n' ≤ 40) :
    Calls Tryz.prog 73 #[.agg #[.bool neg, .slice ao n cap], .agg #[.bool neg', .slice ao' n' cap']] w (AddPost w (sgn neg (val B32 l) + sgn neg' (val B32 l'))) := by
  have HR := hid R
  have HR' := hid R'
  clear R R'
  go_enter Tryz.func73, Tryz.ntmps73
  go_wp2
  obtain ⟨x1, x2, x3, hb0⟩ := three_boxes 40 w neg neg' false ao ao' none n cap n' cap' 0 0 _ rfl
  generalize hW0 : (((w.alloc (.cells #[.bool neg, .slice ao n cap] 40)).alloc (.cells #[.bool neg', .slice ao' n' cap'] 40)).alloc (.cells #[.bool false, .slice none 0 0] 40)) = W0 at *
  clear hW0
  have HS : Hid (W0.cell? ⟨w.heap.size, 0, none⟩ = some (.bool neg) ∧ W0.cell? ⟨w.heap.size, 1, none⟩ = some (.slice ao n cap) ∧ W0.cell? ⟨w.heap.size + 1, 0, none⟩ = some (.bool neg') ∧ W0.cell? ⟨w.heap.size + 1, 1, none⟩ = some (.slice ao' n' cap')) := ⟨x1.c.1, x1.c.2, x2.c.1, x2.c.2⟩
  have RW := hid (HR.out.below hb0)
  have RW' := hid (HR'.out.below hb0)
  have X1 := hid x1
  have X2 := hid x2
  have X3 := hid x3
  have HB0 := hid hb0
  clear x1 x2 x3 hb0 HR HR'
  go_region_held3 (fun wx => wx.cell? ⟨w.heap.size, 0, none⟩ = some (.bool neg) ∧ wx.cell? ⟨w.heap.size, 1, none⟩ = some (.slice ao n cap) ∧ wx.cell? ⟨w.heap.size + 1, 0, none⟩ = some (.bool neg') ∧ wx.cell? ⟨w.heap.size + 1, 1, none⟩ = some (.slice ao' n' cap'))
    (first | exact keep4 HS.out (Bd W0 1) | exact keep4 (by assumption) (by assumption))
    (first
      | (go_at_call_of 45 (Value.slice ao n cap); refine (bytes_any neg ao n cap l _ ?_ (by omega)).mono ?_; (exact RW.out.below (Bd W0 1)); rintro e wa ⟨m1, ao1, cap1, l1, rfl, hm1, hO1, ht1, hv1, ba⟩; have O1 := hid hO1; have T1 := hid ht1; have V1 := hid hv1; clear hO1 ht1 hv1)
      | (go_at_call_of 45 (Value.slice ao' n' cap'); refine (bytes_any neg' ao' n' cap' l' _ ?_ (by omega)).mono ?_; (exact (RW'.out.below (Bd W0 1)).below ba); rintro e wb ⟨m2, ao2, cap2, l2, rfl, hm2, hO2, ht2, hv2, bb⟩; have O2 := hid hO2; have T2 := hid ht2; have V2 := hid hv2; clear hO2 ht2 hv2))
  have HBb := hid (Bt (Bt (Bt HB0.out (Bd W0 1)) ba) bb)
  have hW : Below W0.heap.size W0 wb := Bt (Bt (Bd W0 1) ba) bb
  have Y1 := hid (X1.out.on hW)
  have Y2 := hid (X2.out.on hW)
  have Y3 := hid (X3.out.on hW)
  have Rx := hid (O1.out.row.below bb)
  have Ry := hid O2.out.row
  rename_i hHeld
  clear hHeld hW ba bb O1 O2 X1 X2 X3 RW RW' HS HB0
  have HS : Hid (wb.cell? ⟨w.heap.size, 0, none⟩ = some (.bool neg) ∧ wb.cell? ⟨w.heap.size, 1, none⟩ = some (.slice ao n cap) ∧ wb.cell? ⟨w.heap.size + 1, 0, none⟩ = some (.bool neg') ∧ wb.cell? ⟨w.heap.size + 1, 1, none⟩ = some (.slice ao' n' cap')) := ⟨Y1.out.c.1, Y1.out.c.2, Y2.out.c.1, Y2.out.c.2⟩
  obtain ⟨s0, s1, s2, s3⟩ := HS.out
  by_cases hnn : neg = neg'
  · subst hnn
    have e1 : (neg == neg) = true := by simp
    go_wp2
    clear s0 s1 s2 s3
    go_region_held3 (fun wx => wx.cell? ⟨w.heap.size, 0, none⟩ = some (.bool neg) ∧ wx.cell? ⟨w.heap.size, 1, none⟩ = some (.slice ao n cap) ∧ wx.cell? ⟨w.heap.size + 1, 0, none⟩ = some (.bool neg) ∧ wx.cell? ⟨w.heap.size + 1, 1, none⟩ = some (.slice ao' n' cap'))
      (first | exact keep4 HS.out (Bd wb 1) | exact keep4 (by assumption) (by assumption) | exact keep4s (by assumption) (by omega) (by omega))
      (first
        | (go_at_call 98; refine (rplus_any ao1 ao2 m1 cap1 m2 cap2 l1 l2 _ ?_ ?_ (by omega) (by omega)).mono ?_; (exact Rx.out.below (Bd wb 1)); (exact Ry.out.below (Bd wb 1)); rintro e wa ⟨m3, a3, c3, L3, rfl, hm3, hO3, hvL, ba⟩; have RL := hid hO3.row; have HVL := hid hvL; clear hO3 hvL)
        | (go_at_call 50; refine (rwhole_any neg a3 m3 c3 L3 _ ?_ (by omega)).mono ?_; (exact RL.out); rintro e we ⟨x, en, rfl, hA, bb⟩; obtain ⟨sx, ax, nx, cx, lx, rfl, Rxx, hAx⟩ := hA.form; have Z3 := ((Y3.out.on (Bd wb 1)).on ba).on bb; obtain ⟨z30, z31⟩ := Z3.c; obtain ⟨f30, f31⟩ := Z3.f; have HZ := hid Z3; have HRx := hid Rxx; have HAx := hid hAx; clear hA Rxx hAx Z3))
    have hbW : Below w.heap.size w we := Bt (Bt (Bt HBb.out (Bd wb 1)) ba) bb
    have z := HZ.out.set2 sx ax nx cx
    obtain ⟨y0, y1⟩ := z.c
    have rx := HAx.out _ (HRx.out.setBox2 HZ.out sx (.slice ax nx cx))
    rw [HVL.out, V1.out, V2.out] at rx
    have bF := (hbW.setCell (p := ⟨w.heap.size + 1 + 1, 0, none⟩) (by simp; omega) (.bool sx)).setCell (p := ⟨w.heap.size + 1 + 1, 1, none⟩) (by simp; omega) (.slice ax nx cx)
    rename_i hHeld
    clear hHeld
    go_wp2
    have rz := rx.toI
    rw [sgn_add] at rz
    exact bodyPost_ret (v := .tuple #[.agg #[.bool sx, .slice ax nx cx], .int .i64 en]) (by simp [results, Tryz.results73, go_sem, y0, y1]) rfl ⟨_, _, rfl, rz, bF⟩
  · have e1 : (neg == neg') = false := by simpa using hnn
    have HNN := hid hnn
    obtain ⟨C, hC⟩ : ∃ C, C = cmpN (val 256 l1) (val 256 l2) := ⟨_, rfl⟩
    have HCC : Hid (Calls Tryz.prog 44 #[.slice ao1 m1 cap1, .slice ao2 m2 cap2] wb fun e w' => e = .returned (.int .i64 C) ∧ ∃ k, w' = wb.drewN k) := by
      rw [hC]; exact rsize_any ao1 ao2 m1 cap1 m2 cap2 l1 l2 wb Rx.out Ry.out T1.out T2.out
    have HC := hid hC
    clear hC hnn
    go_wp2_with fail
    refine HCC.out.mono ?_
    rintro e w3 ⟨rfl, k3, hw3⟩
    have b3 : Below wb.heap.size wb w3 := by rw [hw3]; exact Bd wb k3
    have RX := hid (Rx.out.below b3)
    have RX' := hid (Ry.out.below b3)
    have Y4 := hid (Y3.out.on b3)
    have HS3 := hid (keep4 HS.out b3)
    have HB3 := hid (Bt HBb.out b3)
    clear b3 hw3 s0 s1 s2 s3 HS Rx Ry Y3 Y1 Y2 HBb HCC
    have HS := HS3
    have Rx := RX
    have Ry := RX'
    have Y3 := Y4
    have HBb := HB3
    clear HS3 RX RX' Y4 HB3
    by_cases hlt : val 256 l1 < val 256 l2
    · have e2 : decide ((0 : Int) ≤ C) = false := by rw [HC.out]; simp [cmpN, hlt]
      have hle : m1 ≤ m2 := by rw [← Rx.out.len, ← Ry.out.len]; exact len_le8 Ry.out.dg Rx.out.dg T1.out (by omega)
      have HLE : Hid (val 256 l1 ≤ val 256 l2) := Nat.le_of_lt hlt
      have HLE2 : Hid (val B32 l ≤ val B32 l') := by have := HLE.out; rw [V1.out, V2.out] at this; exact this
      clear hlt
      go_wp2
      go_region_held3 (fun wx => wx.cell? ⟨w.heap.size, 0, none⟩ = some (.bool neg) ∧ wx.cell? ⟨w.heap.size, 1, none⟩ = some (.slice ao n cap) ∧ wx.cell? ⟨w.heap.size + 1, 0, none⟩ = some (.bool neg') ∧ wx.cell? ⟨w.heap.size + 1, 1, none⟩ = some (.slice ao' n' cap'))
        (first | exact keep4 HS.out (Bd w3 1) | exact keep4 (by assumption) (by assumption) | exact keep4s (by assumption) (by omega) (by omega))
        (first
          | (go_at_call 99; refine (rminus_any ao2 ao1 m2 cap2 m1 cap1 l2 l1 _ ?_ ?_ (by omega) hle HLE.out).mono ?_; (exact Ry.out.below (Bd w3 1)); (exact Rx.out.below (Bd w3 1)); rintro e wa ⟨m3, a3, c3, L3, rfl, hm3, hO3, ht3, hvL, ba⟩; have RL := hid hO3.row; have HVL := hid hvL; clear hO3 ht3 hvL)
          | (go_at_call 50; refine (rwhole_any neg' a3 m3 c3 L3 _ ?_ (by omega)).mono ?_; (exact RL.out); rintro e we ⟨x, en, rfl, hA, bb⟩; obtain ⟨sx, ax, nx, cx, lx, rfl, Rxx, hAx⟩ := hA.form; have Z3 := ((Y3.out.on (Bd w3 1)).on ba).on bb; obtain ⟨z30, z31⟩ := Z3.c; obtain ⟨f30, f31⟩ := Z3.f; have HZ := hid Z3; have HRx := hid Rxx; have HAx := hid hAx; clear hA Rxx hAx Z3))
      have hbW : Below w.heap.size w we := Bt (Bt (Bt HBb.out (Bd w3 1)) ba) bb
      have z := HZ.out.set2 sx ax nx cx
      obtain ⟨y0, y1⟩ := z.c
      have rx := HAx.out _ (HRx.out.setBox2 HZ.out sx (.slice ax nx cx))
      rw [HVL.out, V1.out, V2.out] at rx
      have bF := (hbW.setCell (p := ⟨w.heap.size + 1 + 1, 0, none⟩) (by simp; omega) (.bool sx)).setCell (p := ⟨w.heap.size + 1 + 1, 1, none⟩) (by simp; omega) (.slice ax nx cx)
      rename_i hHeld
      clear hHeld
      go_wp2
      have rz := rx.toI
      rw [sgn_sub_right HNN.out HLE2.out] at rz
      exact bodyPost_ret (v := .tuple #[.agg #[.bool sx, .slice ax nx cx], .int .i64 en]) (by simp [results, Tryz.results73, go_sem, y0, y1]) rfl ⟨_, _, rfl, rz, bF⟩
    · have e2 : decide ((0 : Int) ≤ C) = true := by
        rw [HC.out]; simp [cmpN, hlt]; split <;> omega
      have hle : m2 ≤ m1 := by rw [← Rx.out.len, ← Ry.out.len]; exact len_le8 Rx.out.dg Ry.out.dg T2.out (by omega)
      have HLE : Hid (val 256 l2 ≤ val 256 l1) := by unfold Hid; omega
      have HLE2 : Hid (val B32 l' ≤ val B32 l) := by have := HLE.out; rw [V1.out, V2.out] at this; exact this
      clear hlt
      go_wp2
      go_region_held3 (fun wx => wx.cell? ⟨w.heap.size, 0, none⟩ = some (.bool neg) ∧ wx.cell? ⟨w.heap.size, 1, none⟩ = some (.slice ao n cap) ∧ wx.cell? ⟨w.heap.size + 1, 0, none⟩ = some (.bool neg') ∧ wx.cell? ⟨w.heap.size + 1, 1, none⟩ = some (.slice ao' n' cap'))
        (first | exact keep4 HS.out (Bd w3 1) | exact keep4 (by assumption) (by assumption) | exact keep4s (by assumption) (by omega) (by omega))
        (first
          | (go_at_call 99; refine (rminus_any ao1 ao2 m1 cap1 m2 cap2 l1 l2 _ ?_ ?_ (by omega) hle HLE.out).mono ?_; (exact Rx.out.below (Bd w3 1)); (exact Ry.out.below (Bd w3 1)); rintro e wa ⟨m3, a3, c3, L3, rfl, hm3, hO3, ht3, hvL, ba⟩; have RL := hid hO3.row; have HVL := hid hvL; clear hO3 ht3 hvL)
          | (go_at_call 50; refine (rwhole_any neg a3 m3 c3 L3 _ ?_ (by omega)).mono ?_; (exact RL.out); rintro e we ⟨x, en, rfl, hA, bb⟩; obtain ⟨sx, ax, nx, cx, lx, rfl, Rxx, hAx⟩ := hA.form; have Z3 := ((Y3.out.on (Bd w3 1)).on ba).on bb; obtain ⟨z30, z31⟩ := Z3.c; obtain ⟨f30, f31⟩ := Z3.f; have HZ := hid Z3; have HRx := hid Rxx; have HAx := hid hAx; clear hA Rxx hAx Z3))
      have hbW : Below w.heap.size w we := Bt (Bt (Bt HBb.out (Bd w3 1)) ba) bb
      have z := HZ.out.set2 sx ax nx cx
      obtain ⟨y0, y1⟩ := z.c
      have rx := HAx.out _ (HRx.out.setBox2 HZ.out sx (.slice ax nx cx))
      rw [HVL.out, V1.out, V2.out] at rx
      have bF := (hbW.setCell (p := ⟨w.heap.size + 1 + 1, 0, none⟩) (by simp; omega) (.bool sx)).setCell (p := ⟨w.heap.size + 1 + 1, 1, none⟩) (by simp; omega) (.slice ax nx cx)
      rename_i hHeld
      clear hHeld
      go_wp2
      have rz := rx.toI
      rw [sgn_sub_left HNN.out HLE2.out] at rz
      exact bodyPost_ret (v := .tuple #[.agg #[.bool sx, .slice ax nx cx], .int .i64 en]) (by simp [results, Tryz.results73, go_sem, y0, y1]) rfl ⟨_, _, rfl, rz, bF⟩

end Go.Proofs.YtdekkieajffblaaGreat

set_option linter.unusedVariables false
set_option linter.unusedSimpArgs false
namespace Go.Proofs.YtdekkieajffblaaGreat

theorem guess_low {g h r nx B u2 v0 P u0 top V U : Nat} (ht : top = g * h + r) (hV : V = v0 + P * (nx + B * h)) (hU : U = u0 + P * (u2 + B * top)) (hu : u0 < P) (hg : r * B + u2 < g * nx) : U < g * V := by
  have h1 : P * (r * B + u2 + 1 + B * (g * h)) ≤ P * (g * nx + B * (g * h)) := Nat.mul_le_mul_left _ (by omega)
  have h2 : g * V = g * v0 + P * (g * nx + B * (g * h)) := by subst hV; grind
  have h3 : P * (r * B + u2 + 1 + B * (g * h)) = P * (u2 + B * top) + P := by subst ht; grind
  omega
theorem guess_high {g h r nx B u2 v0 P u0 top V U : Nat} (ht : top = g * h + r) (hV : V = v0 + P * (nx + B * h)) (hU : U = u0 + P * (u2 + B * top)) (hv : v0 < P) (hh : 0 < h) (hgB : g < B) (hg : g * nx ≤ r * B + u2) : g * V ≤ U + V := by
  have h1 : P * (g * nx + B * (g * h)) ≤ P * (r * B + u2 + B * (g * h)) := Nat.mul_le_mul_left _ (by omega)
  have h2 : g * V = g * v0 + P * (g * nx + B * (g * h)) := by subst hV; grind
  have h3 : P * (r * B + u2 + B * (g * h)) = P * (u2 + B * top) := by subst ht; grind
  have h4 : g * v0 ≤ B * P := Nat.mul_le_mul (by omega) (by omega)
  have h5 : P * (B * 1) ≤ P * (nx + B * h) := Nat.mul_le_mul_left _ (by have : B * 1 ≤ B * h := Nat.mul_le_mul_left _ hh; omega)
  have h6 : B * P = P * (B * 1) := by grind
  omega
theorem guess_first {h nx B u2 v0 P u0 top V U : Nat} (hV : V = v0 + P * (nx + B * h)) (hU : U = u0 + P * (u2 + B * top)) (hu : u0 < P) (hu2 : u2 < B) (hh : 0 < h) : U < (top / h + 1) * V := by
  have h1 : top < h * (top / h + 1) := by have := Nat.div_add_mod top h; have := Nat.mod_lt top hh; rw [Nat.mul_add]; omega
  have h2 : P * (B * (top + 1)) ≤ P * (B * (h * (top / h + 1))) := Nat.mul_le_mul_left _ (Nat.mul_le_mul_left _ h1)
  have h3 : P * (B * (h * (top / h + 1))) ≤ (top / h + 1) * V := by
    generalize top / h + 1 = z
    have : z * V = z * v0 + z * (P * nx) + P * (B * (h * z)) := by subst hV; grind
    omega
  have h4 : P * (u2 + B * top + 1) ≤ P * (B * (top + 1)) := Nat.mul_le_mul_left _ (by rw [Nat.mul_add]; omega)
  have h5 : P * (u2 + B * top + 1) = P * (u2 + B * top) + P := by grind
  omega
theorem top_lt {h nx B u2 v0 P u0 top V U : Nat} (hV : V = v0 + P * (nx + B * h)) (hU : U = u0 + P * (u2 + B * top)) (hv : v0 < P) (hnx : nx < B) (hUV : U < B * V) : top < B * (h + 1) := by
  have h1 : V ≤ P * (B * (h + 1)) := by
    have h2 : P * (nx + B * h + 1) ≤ P * (B * (h + 1)) := Nat.mul_le_mul_left _ (by rw [Nat.mul_add]; omega)
    have h3 : P * (nx + B * h + 1) = P * (nx + B * h) + P := by grind
    omega
  have h4 : B * V ≤ B * (P * (B * (h + 1))) := Nat.mul_le_mul_left _ h1
  have h5 : P * B * top < P * B * (B * (h + 1)) := by
    have e1 : P * (u2 + B * top) = P * u2 + P * B * top := by grind
    have e2 : B * (P * (B * (h + 1))) = P * B * (B * (h + 1)) := by grind
    omega
  exact Nat.lt_of_mul_lt_mul_left h5
theorem broken {g h r nx B u2 top : Nat} (ht : top = g * h + r) (hr : B ≤ r) (htop : top < B * (h + 1)) (hnx : nx < B) : g < B ∧ g * nx ≤ r * B + u2 := by
  have h1 : g < B := by
    have : g * h < B * h := by rw [Nat.mul_add] at htop; omega
    exact Nat.lt_of_mul_lt_mul_right this
  refine ⟨h1, ?_⟩
  have h2 : g * nx ≤ B * B := Nat.mul_le_mul (by omega) (by omega)
  have h3 : B * B ≤ r * B := Nat.mul_le_mul_right _ hr
  omega

theorem val_top2 {B n : Nat} {d : List Nat} (hd : Dg B d) (hl : d.length = n) (hn : 2 ≤ n) : ∃ v0, v0 < B ^ (n - 2) ∧ val B d = v0 + B ^ (n - 2) * (d.getD (n - 2) 0 + B * d.getD (n - 1) 0) := by
  refine ⟨val B (d.take (n - 2)), ?_, ?_⟩
  · have := val_lt (hd.take (n - 2)); rwa [List.length_take, Nat.min_eq_left (by omega)] at this
  · rw [val_split B d (n - 2) (by omega), val_drop_succ B d _ (by omega), show n - 2 + 1 = n - 1 by omega, val_drop_succ B d (n - 1) (by omega), List.drop_eq_nil_of_le (by omega)]
    simp [val]
theorem val_top3 {B n : Nat} {u : List Nat} (hd : Dg B u) (hl : u.length = n + 1) (hn : 2 ≤ n) : ∃ u0, u0 < B ^ (n - 2) ∧ val B u = u0 + B ^ (n - 2) * (u.getD (n - 2) 0 + B * (u.getD n 0 * B + u.getD (n - 1) 0)) := by
  refine ⟨val B (u.take (n - 2)), ?_, ?_⟩
  · have := val_lt (hd.take (n - 2)); rwa [List.length_take, Nat.min_eq_left (by omega)] at this
  · rw [val_split B u (n - 2) (by omega), val_drop_succ B u _ (by omega), show n - 2 + 1 = n - 1 by omega, val_drop_succ B u (n - 1) (by omega), show n - 1 + 1 = n by omega, val_drop_succ B u n (by omega), List.drop_eq_nil_of_le (by omega)]
    simp only [val, Nat.mul_zero, Nat.add_zero]
    rw [Nat.mul_comm B (u.getD n 0), Nat.add_comm (u.getD (n - 1) 0)]

/-- A guessed digit: right, or one too great. -/
def Gs (B U V g : Nat) : Prop := g < B ∧ U < (g + 1) * V ∧ g * V ≤ U + V

theorem div_of {U V q : Nat} (h1 : q * V ≤ U) (h2 : U < (q + 1) * V) : U / V = q ∧ U % V = U - q * V := by
  have hV : 0 < V := by
    apply Nat.pos_of_ne_zero; intro e; subst e; simp at h2
  have e1 : U / V = q := by
    apply Nat.le_antisymm
    · exact Nat.le_of_lt_succ ((Nat.div_lt_iff_lt_mul hV).2 (by rw [Nat.succ_eq_add_one]; exact h2))
    · exact (Nat.le_div_iff_mul_le hV).2 h1
  refine ⟨e1, ?_⟩
  have := Nat.div_add_mod U V
  rw [e1, Nat.mul_comm] at this
  omega

theorem dig_ok {B U V g L M : Nat} (h : Gs B U V g) (hL : L < M) (hU : U < M) (he : U = L + g * V) : U / V = g ∧ L = U % V := by
  obtain ⟨h1, h2⟩ := div_of (U := U) (V := V) (q := g) (by omega) h.2.1
  exact ⟨h1, by omega⟩
theorem dig_back {B U V g L L2 c M : Nat} (h : Gs B U V g) (hV : V < M) (hL : L < M) (he : U + M = L + g * V) (hL2 : L2 < M) (hc : c ≤ 1) (ha : L2 + M * c = L + V) : 0 < g ∧ U / V = g - 1 ∧ L2 = U % V := by
  obtain ⟨hb, h1, h2⟩ := h
  have hg : 0 < g := by
    apply Nat.pos_of_ne_zero; intro e; subst e; simp at he; omega
  obtain ⟨k, rfl⟩ : ∃ k, g = k + 1 := ⟨g - 1, by omega⟩
  rw [Nat.add_mul, Nat.one_mul] at h2 he
  obtain ⟨e1, e2⟩ := div_of (U := U) (V := V) (q := k) (by omega) (by rw [Nat.add_mul, Nat.one_mul]; omega)
  refine ⟨hg, by omega, ?_⟩
  have : c = 0 ∨ c = 1 := by omega
  rcases this with rfl | rfl <;> omega

/-- What a row's part holds, where what is above it is nought. -/
theorem val_part {B m k : Nat} {L : List Nat} (hm : m + k ≤ L.length) (hd : Dg B L) (h : val B (L.drop m) < B ^ k) (hB : 0 < B) : val B ((L.drop m).take k) = val B (L.drop m) ∧ val B (L.drop (m + k)) = 0 := by
  have e := val_split B (L.drop m) k (by rw [List.length_drop]; omega)
  rw [List.drop_drop] at e
  have h0 : val B (L.drop (m + k)) = 0 := by
    apply Nat.eq_zero_of_not_pos; intro hp
    have : B ^ k * 1 ≤ B ^ k * val B (L.drop (m + k)) := Nat.mul_le_mul_left _ hp
    omega
  refine ⟨?_, h0⟩
  rw [h0] at e; omega

theorem div_round {A B V Q R x U : Nat} (h : A = Q * V + R) (hU : U = x + B * R) : x + B * A = (U / V + B * Q) * V + U % V := by
  have := Nat.div_add_mod U V
  have e : (U / V + B * Q) * V = V * (U / V) + B * (Q * V) := by grind
  rw [e, h, Nat.mul_add]
  omega

/-- Shifted by as much, the quotient is the same, and the rest is shifted. -/
theorem unshift {a b s2 Q R : Nat} (hs : 0 < s2) (h : a * s2 = Q * (b * s2) + R) (hR : R < b * s2) : Q = a / b ∧ R / s2 = a % b := by
  have h0 : Q * (b * s2) = Q * b * s2 := by grind
  have h1 : Q * b ≤ a := by
    apply Nat.le_of_mul_le_mul_right _ hs; omega
  obtain ⟨r, rfl⟩ : ∃ r, a = Q * b + r := ⟨a - Q * b, by omega⟩
  rw [Nat.add_mul] at h
  have h2 : R = r * s2 := by omega
  subst h2
  have h3 : r < b := Nat.lt_of_mul_lt_mul_right hR
  obtain ⟨e1, e2⟩ := div_of (U := Q * b + r) (V := b) (q := Q) (by omega) (by rw [Nat.add_mul]; omega)
  refine ⟨e1.symm, ?_⟩
  rw [Nat.mul_div_cancel _ hs]; omega

end Go.Proofs.YtdekkieajffblaaGreat
