/-
  Walks, of the document's answer: Add.
-/
import Derived.Test.YtaenegcnobindaaW32
set_option linter.unusedVariables false
set_option linter.unusedSimpArgs false
namespace Go.Proofs.Ytaenegcnobindaa
open Go.RowKit

theorem len_le8 {a b : List Nat} (ha : Dg 256 a) (hb : Dg 256 b) (tb : Tr b) (h : val 256 b ≤ val 256 a) : b.length ≤ a.length := by
  by_cases h' : b.length ≤ a.length
  · exact h'
  · have := lt_of_length (B := 256) (by decide) ha tb (by omega); omega

set_option maxHeartbeats 4000000 in
theorem radd_any (neg neg' : Bool) (ao ao' : Option Addr) (n cap n' cap' : Nat) (l l' : List Nat) (w : World) (R : Row .u32 B32 w ao n cap l) (R' : Row .u32 B32 w ao' n' cap' l') (hs : n ≤ 40) (hs' : n' ≤ 40) :
    Calls Try.prog 23 #[.agg #[.bool neg, .slice ao n cap], .agg #[.bool neg', .slice ao' n' cap']] w (AddPost w (sgn neg (val B32 l) + sgn neg' (val B32 l'))) := by
  have HR := hid R
  have HR' := hid R'
  clear R R'
  go_enter Try.func23, Try.ntmps23
  go_wp2
  obtain ⟨x1, x2, x3, hb0⟩ := three_boxes 24 w neg neg' false ao ao' none n cap n' cap' 0 0 _ rfl
  generalize hW0 : (((w.alloc (.cells #[.bool neg, .slice ao n cap] 24)).alloc (.cells #[.bool neg', .slice ao' n' cap'] 24)).alloc (.cells #[.bool false, .slice none 0 0] 24)) = W0 at *
  clear hW0
  have HS : Hid (W0.cell? ⟨w.heap.size, 0, none⟩ = some (.bool neg) ∧ W0.cell? ⟨w.heap.size, 1, none⟩ = some (.slice ao n cap) ∧ W0.cell? ⟨w.heap.size + 1, 0, none⟩ = some (.bool neg') ∧ W0.cell? ⟨w.heap.size + 1, 1, none⟩ = some (.slice ao' n' cap')) := ⟨x1.c.1, x1.c.2, x2.c.1, x2.c.2⟩
  have RW := hid (HR.out.below hb0)
  have RW' := hid (HR'.out.below hb0)
  have X1 := hid x1
  have X2 := hid x2
  have X3 := hid x3
  have HB0 := hid hb0
  clear x1 x2 x3 hb0 HR HR'
  go_region_held3 (fun wx => wx.cell? ⟨w.heap.size, 0, none⟩ = some (.bool neg) ∧ wx.cell? ⟨w.heap.size, 1, none⟩ = some (.slice ao n cap) ∧ wx.cell? ⟨w.heap.size + 1, 0, none⟩ = some (.bool neg') ∧ wx.cell? ⟨w.heap.size + 1, 1, none⟩ = some (.slice ao' n' cap'))
    (first | exact keep4 HS.out (Bd W0 1) | exact keep4 (by assumption) (by assumption))
    (first
      | (go_at_call_of 38 (Value.slice ao n cap); refine (bytes_any neg ao n cap l _ ?_ (by omega)).mono ?_; (exact RW.out.below (Bd W0 1)); rintro e wa ⟨m1, ao1, cap1, l1, rfl, hm1, hO1, ht1, hv1, ba⟩; have O1 := hid hO1; have T1 := hid ht1; have V1 := hid hv1; clear hO1 ht1 hv1)
      | (go_at_call_of 38 (Value.slice ao' n' cap'); refine (bytes_any neg' ao' n' cap' l' _ ?_ (by omega)).mono ?_; (exact (RW'.out.below (Bd W0 1)).below ba); rintro e wb ⟨m2, ao2, cap2, l2, rfl, hm2, hO2, ht2, hv2, bb⟩; have O2 := hid hO2; have T2 := hid ht2; have V2 := hid hv2; clear hO2 ht2 hv2))
  have HBb := hid (Bt (Bt (Bt HB0.out (Bd W0 1)) ba) bb)
  have hW : Below W0.heap.size W0 wb := Bt (Bt (Bd W0 1) ba) bb
  have Y1 := hid (X1.out.on hW)
  have Y2 := hid (X2.out.on hW)
  have Y3 := hid (X3.out.on hW)
  have Rx := hid (O1.out.row.below bb)
  have Ry := hid O2.out.row
  rename_i hHeld
  clear hHeld hW ba bb O1 O2 X1 X2 X3 RW RW' HS HB0
  have HS : Hid (wb.cell? ⟨w.heap.size, 0, none⟩ = some (.bool neg) ∧ wb.cell? ⟨w.heap.size, 1, none⟩ = some (.slice ao n cap) ∧ wb.cell? ⟨w.heap.size + 1, 0, none⟩ = some (.bool neg') ∧ wb.cell? ⟨w.heap.size + 1, 1, none⟩ = some (.slice ao' n' cap')) := ⟨Y1.out.c.1, Y1.out.c.2, Y2.out.c.1, Y2.out.c.2⟩
  obtain ⟨s0, s1, s2, s3⟩ := HS.out
  by_cases hnn : neg = neg'
  · subst hnn
    have e1 : (neg == neg) = true := by simp
    go_wp2
    clear s0 s1 s2 s3
    go_region_held3 (fun wx => wx.cell? ⟨w.heap.size, 0, none⟩ = some (.bool neg) ∧ wx.cell? ⟨w.heap.size, 1, none⟩ = some (.slice ao n cap) ∧ wx.cell? ⟨w.heap.size + 1, 0, none⟩ = some (.bool neg) ∧ wx.cell? ⟨w.heap.size + 1, 1, none⟩ = some (.slice ao' n' cap'))
      (first | exact keep4 HS.out (Bd wb 1) | exact keep4 (by assumption) (by assumption) | exact keep4s (by assumption) (by omega) (by omega))
      (first
        | (go_at_call 43; refine (rplus_any ao1 ao2 m1 cap1 m2 cap2 l1 l2 _ ?_ ?_ (by omega) (by omega)).mono ?_; (exact Rx.out.below (Bd wb 1)); (exact Ry.out.below (Bd wb 1)); rintro e wa ⟨m3, a3, c3, L3, rfl, hm3, hO3, hvL, ba⟩; have RL := hid hO3.row; have HVL := hid hvL; clear hO3 hvL)
        | (go_at_call 34; refine (rwhole_any neg a3 m3 c3 L3 _ ?_ (by omega)).mono ?_; (exact RL.out); rintro e we ⟨x, en, rfl, hA, bb⟩; obtain ⟨sx, ax, nx, cx, lx, rfl, Rxx, hAx⟩ := hA.form; have Z3 := ((Y3.out.on (Bd wb 1)).on ba).on bb; obtain ⟨z30, z31⟩ := Z3.c; obtain ⟨f30, f31⟩ := Z3.f; have HZ := hid Z3; have HRx := hid Rxx; have HAx := hid hAx; clear hA Rxx hAx Z3))
    have hbW : Below w.heap.size w we := Bt (Bt (Bt HBb.out (Bd wb 1)) ba) bb
    have z := HZ.out.set2 sx ax nx cx
    obtain ⟨y0, y1⟩ := z.c
    have rx := HAx.out _ (HRx.out.setBox2 HZ.out sx (.slice ax nx cx))
    rw [HVL.out, V1.out, V2.out] at rx
    have bF := (hbW.setCell (p := ⟨w.heap.size + 1 + 1, 0, none⟩) (by simp; omega) (.bool sx)).setCell (p := ⟨w.heap.size + 1 + 1, 1, none⟩) (by simp; omega) (.slice ax nx cx)
    rename_i hHeld
    clear hHeld
    go_wp2
    have rz := rx.toI
    rw [sgn_add] at rz
    exact bodyPost_ret (v := .tuple #[.agg #[.bool sx, .slice ax nx cx], .int .i64 en]) (by simp [results, Try.results23, go_sem, y0, y1]) rfl ⟨_, _, rfl, rz, bF⟩
  · have e1 : (neg == neg') = false := by simpa using hnn
    have HNN := hid hnn
    obtain ⟨C, hC⟩ : ∃ C, C = cmpN (val 256 l1) (val 256 l2) := ⟨_, rfl⟩
    have HCC : Hid (Calls Try.prog 37 #[.slice ao1 m1 cap1, .slice ao2 m2 cap2] wb fun e w' => e = .returned (.int .i64 C) ∧ ∃ k, w' = wb.drewN k) := by
      rw [hC]; exact rsize_any ao1 ao2 m1 cap1 m2 cap2 l1 l2 wb Rx.out Ry.out T1.out T2.out
    have HC := hid hC
    clear hC hnn
    go_wp2_with fail
    refine HCC.out.mono ?_
    rintro e w3 ⟨rfl, k3, hw3⟩
    have b3 : Below wb.heap.size wb w3 := by rw [hw3]; exact Bd wb k3
    have RX := hid (Rx.out.below b3)
    have RX' := hid (Ry.out.below b3)
    have Y4 := hid (Y3.out.on b3)
    have HS3 := hid (keep4 HS.out b3)
    have HB3 := hid (Bt HBb.out b3)
    clear b3 hw3 s0 s1 s2 s3 HS Rx Ry Y3 Y1 Y2 HBb HCC
    have HS := HS3
    have Rx := RX
    have Ry := RX'
    have Y3 := Y4
    have HBb := HB3
    clear HS3 RX RX' Y4 HB3
    by_cases hlt : val 256 l1 < val 256 l2
    · have e2 : decide ((0 : Int) ≤ C) = false := by rw [HC.out]; simp [cmpN, hlt]
      have hle : m1 ≤ m2 := by rw [← Rx.out.len, ← Ry.out.len]; exact len_le8 Ry.out.dg Rx.out.dg T1.out (by omega)
      have HLE : Hid (val 256 l1 ≤ val 256 l2) := Nat.le_of_lt hlt
      have HLE2 : Hid (val B32 l ≤ val B32 l') := by have := HLE.out; rw [V1.out, V2.out] at this; exact this
      clear hlt
      go_wp2
      go_region_held3 (fun wx => wx.cell? ⟨w.heap.size, 0, none⟩ = some (.bool neg) ∧ wx.cell? ⟨w.heap.size, 1, none⟩ = some (.slice ao n cap) ∧ wx.cell? ⟨w.heap.size + 1, 0, none⟩ = some (.bool neg') ∧ wx.cell? ⟨w.heap.size + 1, 1, none⟩ = some (.slice ao' n' cap'))
        (first | exact keep4 HS.out (Bd w3 1) | exact keep4 (by assumption) (by assumption) | exact keep4s (by assumption) (by omega) (by omega))
        (first
          | (go_at_call 44; refine (rminus_any ao2 ao1 m2 cap2 m1 cap1 l2 l1 _ ?_ ?_ (by omega) hle HLE.out).mono ?_; (exact Ry.out.below (Bd w3 1)); (exact Rx.out.below (Bd w3 1)); rintro e wa ⟨m3, a3, c3, L3, rfl, hm3, hO3, ht3, hvL, ba⟩; have RL := hid hO3.row; have HVL := hid hvL; clear hO3 ht3 hvL)
          | (go_at_call 34; refine (rwhole_any neg' a3 m3 c3 L3 _ ?_ (by omega)).mono ?_; (exact RL.out); rintro e we ⟨x, en, rfl, hA, bb⟩; obtain ⟨sx, ax, nx, cx, lx, rfl, Rxx, hAx⟩ := hA.form; have Z3 := ((Y3.out.on (Bd w3 1)).on ba).on bb; obtain ⟨z30, z31⟩ := Z3.c; obtain ⟨f30, f31⟩ := Z3.f; have HZ := hid Z3; have HRx := hid Rxx; have HAx := hid hAx; clear hA Rxx hAx Z3))
      have hbW : Below w.heap.size w we := Bt (Bt (Bt HBb.out (Bd w3 1)) ba) bb
      have z := HZ.out.set2 sx ax nx cx
      obtain ⟨y0, y1⟩ := z.c
      have rx := HAx.out _ (HRx.out.setBox2 HZ.out sx (.slice ax nx cx))
      rw [HVL.out, V1.out, V2.out] at rx
      have bF := (hbW.setCell (p := ⟨w.heap.size + 1 + 1, 0, none⟩) (by simp; omega) (.bool sx)).setCell (p := ⟨w.heap.size + 1 + 1, 1, none⟩) (by simp; omega) (.slice ax nx cx)
      rename_i hHeld
      clear hHeld
      go_wp2
      have rz := rx.toI
      rw [sgn_sub_right HNN.out HLE2.out] at rz
      exact bodyPost_ret (v := .tuple #[.agg #[.bool sx, .slice ax nx cx], .int .i64 en]) (by simp [results, Try.results23, go_sem, y0, y1]) rfl ⟨_, _, rfl, rz, bF⟩
    · have e2 : decide ((0 : Int) ≤ C) = true := by
        rw [HC.out]; simp [cmpN, hlt]; split <;> omega
      have hle : m2 ≤ m1 := by rw [← Rx.out.len, ← Ry.out.len]; exact len_le8 Rx.out.dg Ry.out.dg T2.out (by omega)
      have HLE : Hid (val 256 l2 ≤ val 256 l1) := by unfold Hid; omega
      have HLE2 : Hid (val B32 l' ≤ val B32 l) := by have := HLE.out; rw [V1.out, V2.out] at this; exact this
      clear hlt
      go_wp2
      go_region_held3 (fun wx => wx.cell? ⟨w.heap.size, 0, none⟩ = some (.bool neg) ∧ wx.cell? ⟨w.heap.size, 1, none⟩ = some (.slice ao n cap) ∧ wx.cell? ⟨w.heap.size + 1, 0, none⟩ = some (.bool neg') ∧ wx.cell? ⟨w.heap.size + 1, 1, none⟩ = some (.slice ao' n' cap'))
        (first | exact keep4 HS.out (Bd w3 1) | exact keep4 (by assumption) (by assumption) | exact keep4s (by assumption) (by omega) (by omega))
        (first
          | (go_at_call 44; refine (rminus_any ao1 ao2 m1 cap1 m2 cap2 l1 l2 _ ?_ ?_ (by omega) hle HLE.out).mono ?_; (exact Rx.out.below (Bd w3 1)); (exact Ry.out.below (Bd w3 1)); rintro e wa ⟨m3, a3, c3, L3, rfl, hm3, hO3, ht3, hvL, ba⟩; have RL := hid hO3.row; have HVL := hid hvL; clear hO3 ht3 hvL)
          | (go_at_call 34; refine (rwhole_any neg a3 m3 c3 L3 _ ?_ (by omega)).mono ?_; (exact RL.out); rintro e we ⟨x, en, rfl, hA, bb⟩; obtain ⟨sx, ax, nx, cx, lx, rfl, Rxx, hAx⟩ := hA.form; have Z3 := ((Y3.out.on (Bd w3 1)).on ba).on bb; obtain ⟨z30, z31⟩ := Z3.c; obtain ⟨f30, f31⟩ := Z3.f; have HZ := hid Z3; have HRx := hid Rxx; have HAx := hid hAx; clear hA Rxx hAx Z3))
      have hbW : Below w.heap.size w we := Bt (Bt (Bt HBb.out (Bd w3 1)) ba) bb
      have z := HZ.out.set2 sx ax nx cx
      obtain ⟨y0, y1⟩ := z.c
      have rx := HAx.out _ (HRx.out.setBox2 HZ.out sx (.slice ax nx cx))
      rw [HVL.out, V1.out, V2.out] at rx
      have bF := (hbW.setCell (p := ⟨w.heap.size + 1 + 1, 0, none⟩) (by simp; omega) (.bool sx)).setCell (p := ⟨w.heap.size + 1 + 1, 1, none⟩) (by simp; omega) (.slice ax nx cx)
      rename_i hHeld
      clear hHeld
      go_wp2
      have rz := rx.toI
      rw [sgn_sub_left HNN.out HLE2.out] at rz
      exact bodyPost_ret (v := .tuple #[.agg #[.bool sx, .slice ax nx cx], .int .i64 en]) (by simp [results, Try.results23, go_sem, y0, y1]) rfl ⟨_, _, rfl, rz, bF⟩

end Go.Proofs.Ytaenegcnobindaa
