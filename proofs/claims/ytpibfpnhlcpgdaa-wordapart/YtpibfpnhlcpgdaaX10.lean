/-
  Walk: WordApart.
-/
import Derived.Test.YtpibfpnhlcpgdaaX9
set_option linter.unusedVariables false
set_option linter.unusedSimpArgs false
set_option maxRecDepth 100000
namespace Go.Proofs.Ytpibfpnhlcpgdaa
open Go.RowKit

set_option maxHeartbeats 16000000 in
theorem wordApart_walk (k n t k' n' t' : Int) (w : World) (hk : Z64 k) (hn : Z64 n) (ht : Z64 t) (hk' : Z64 k') (hn' : Z64 n') (ht' : Z64 t') : Calls Try.prog 7 #[SVal k n t, SVal k' n' t'] w fun e w' => e = .returned (.bool true) ∧ Below w.heap.size w w' := by
  have C1 := hid (made_any k n t hk hn ht)
  have C2 := hid (made_any k' n' t' hk' hn' ht')
  have CW := hid wawake_any
  have bA := Baa w (.cells #[.int .i64 k, .int .i64 n, .int .i64 t] 23) (.cells #[.int .i64 k', .int .i64 n', .int .i64 t'] 23)
  have hx := ((Ba (w.alloc (.cells #[.int .i64 k, .int .i64 n, .int .i64 t] 23)) (.cells #[.int .i64 k', .int .i64 n', .int .i64 t'] 23)).block w.heap.size (by rw [size_alloc]; omega)).trans (blk_new w #[.int .i64 k, .int .i64 n, .int .i64 t] 23)
  have hy := heap_alloc2_new w (.cells #[.int .i64 k, .int .i64 n, .int .i64 t] 23) (.cells #[.int .i64 k', .int .i64 n', .int .i64 t'] 23)
  have HA : Hid (rightB k n t = true → rightB k' n' t' = true → ((wordR k n t = wordR k' n' t') ↔ (k = k' ∧ n = n' ∧ (if k = 8 then t else 0) = (if k' = 8 then t' else 0)))) := fun h h' => word_apart h h'
  unfold SVal at *
  obtain ⟨gy, hgy⟩ : ∃ q, q = w.heap.size + 1 := ⟨_, rfl⟩
  obtain ⟨gx, hgx⟩ : ∃ q, q = w.heap.size := ⟨_, rfl⟩
  go_enter Try.func7, Try.ntmps7
  go_wp2_with fail
  rw [← hgx] at hx
  rw [← hgy] at hy
  have hne : Hid (gx ≠ gy ∧ w.heap.size ≤ gx ∧ w.heap.size ≤ gy) := by refine ⟨?_, ?_, ?_⟩ <;> omega
  rw [← hgy, ← hgx]
  clear hgx hgy
  generalize (w.alloc (.cells #[.int .i64 k, .int .i64 n, .int .i64 t] 23)).alloc (.cells #[.int .i64 k', .int .i64 n', .int .i64 t'] 23) = W at *
  refine (C1.out _).mono ?_
  rintro e W1 ⟨rfl, b1⟩
  have hx1 := (b1.block gx (Array.getElem?_eq_some_iff.1 hx).1).trans hx
  have hy1 := (b1.block gy (Array.getElem?_eq_some_iff.1 hy).1).trans hy
  have c0 : W1.cell? ⟨gy, 0, none⟩ = some (.int .i64 k') := blk_cell hy1 0
  have c1 : W1.cell? ⟨gy, 1, none⟩ = some (.int .i64 n') := blk_cell hy1 1
  have c2 : W1.cell? ⟨gy, 2, none⟩ = some (.int .i64 t') := blk_cell hy1 2
  have HX1 := hid hx1
  have HY1 := hid hy1
  have HB1 := hid (Bt bA b1)
  clear hx hy hx1 hy1 b1 bA
  go_wp2_with fail
  clear c0 c1 c2
  refine (C2.out _).mono ?_
  rintro e W2 ⟨rfl, b2⟩
  have hx2 := (b2.block gx (Array.getElem?_eq_some_iff.1 HX1.out).1).trans HX1.out
  have hy2 := (b2.block gy (Array.getElem?_eq_some_iff.1 HY1.out).1).trans HY1.out
  have c0 : W2.cell? ⟨gy, 0, none⟩ = some (.int .i64 k') := blk_cell hy2 0
  have c1 : W2.cell? ⟨gy, 1, none⟩ = some (.int .i64 n') := blk_cell hy2 1
  have c2 : W2.cell? ⟨gy, 2, none⟩ = some (.int .i64 t') := blk_cell hy2 2
  have d0 : W2.cell? ⟨gx, 0, none⟩ = some (.int .i64 k) := blk_cell hx2 0
  have d1 : W2.cell? ⟨gx, 1, none⟩ = some (.int .i64 n) := blk_cell hx2 1
  have d2 : W2.cell? ⟨gx, 2, none⟩ = some (.int .i64 t) := blk_cell hx2 2
  have f2 := blk_free hx2 2
  have g2 := blk_free hy2 2
  have HX2 := hid hx2
  have HY2 := hid hy2
  have HB2 := hid (Bt HB1.out b2)
  clear hx2 hy2 b2
  obtain ⟨rb, hrb⟩ : ∃ r, r = rightB k n t := ⟨_, rfl⟩
  obtain ⟨rb', hrb'⟩ : ∃ r, r = rightB k' n' t' := ⟨_, rfl⟩
  rw [← hrb, ← hrb'] at HA
  rw [← hrb, ← hrb']
  clear hrb hrb' C1 C2
  generalize wordR k n t = x at *
  generalize wordR k' n' t' = x' at *
  cases rb
  · go_wp2_with (go_at_call 12; with_reducible refine (CW.out _).mono ?_; rintro e w9 ⟨rfl, hw9⟩; rw [hw9]; clear hw9)
    go_ret
    exact ⟨rfl, HB2.out⟩
  cases rb'
  · go_wp2_with (go_at_call 12; with_reducible refine (CW.out _).mono ?_; rintro e w9 ⟨rfl, hw9⟩; rw [hw9]; clear hw9)
    go_ret
    exact ⟨rfl, HB2.out⟩
  have HI := hid (HA.out rfl rfl)
  clear HA
  by_cases h8 : k = 8 <;> by_cases h8' : k' = 8
  · have hi : (x = x') ↔ (k = k' ∧ n = n' ∧ t = t') := by
      have := HI.out
      rw [if_pos h8, if_pos h8'] at this
      exact this
    have e1 : (k == 8) = true := by simpa using h8
    have e2 : (k' == 8) = true := by simpa using h8'
    have HBE := hid HB2.out
    by_cases hq : k = k' ∧ n = n' ∧ t = t'
    · obtain rfl := hi.2 hq
      have ex : (x == x) = true := by simp
      have ek : (k == k') = true := by simpa using hq.1
      have en : (n == n') = true := by simpa using hq.2.1
      have et : ((t : Int) == t') = true := by simpa using hq.2.2
      obtain ⟨hq1, hq2, hq3⟩ := hq
      clear hi HI
      go_wp2_with (go_at_call 12; with_reducible refine (CW.out _).mono ?_; rintro e w9 ⟨rfl, hw9⟩; rw [hw9]; clear hw9)
      all_goals first
        | (exfalso; omega)
        | (exact absurd ⟨rfl, rfl, rfl⟩ hq)
        | (exfalso; simp_all; done)
        | (go_ret; exact ⟨rfl, HBE.out⟩)
    · have ex : (x == x') = false := by
        have : ¬ x = x' := fun e => hq (hi.1 e)
        simpa using this
      clear hi HI
      go_wp2_with (go_at_call 12; with_reducible refine (CW.out _).mono ?_; rintro e w9 ⟨rfl, hw9⟩; rw [hw9]; clear hw9)
      all_goals first
        | (exfalso; omega)
        | (exact absurd ⟨rfl, rfl, rfl⟩ hq)
        | (exfalso; simp_all; done)
        | (go_ret; exact ⟨rfl, HBE.out⟩)
  · have hi : (x = x') ↔ (k = k' ∧ n = n' ∧ t = (0 : Int)) := by
      have := HI.out
      rw [if_pos h8, if_neg h8'] at this
      exact this
    have e1 : (k == 8) = true := by simpa using h8
    have e2 : (k' == 8) = false := by simpa using h8'
    have hy4 : (W2.setCell ⟨gy, 2, none⟩ (.int .i64 0)).heap[gy]? = some (.cells #[.int .i64 k', .int .i64 n', .int .i64 0] 23 (0, 0)) := by
      have := blk_set (i := 2) HY2.out (.int .i64 0); rw [this]; rfl
    have hx4 := (Below.heap_setCell W2 ⟨gy, 2, none⟩ (.int .i64 0) gx hne.out.1).trans HX2.out
    have r0 : (W2.setCell ⟨gy, 2, none⟩ (.int .i64 0)).cell? ⟨gx, 0, none⟩ = some (.int .i64 k) := blk_cell hx4 0
    have r1 : (W2.setCell ⟨gy, 2, none⟩ (.int .i64 0)).cell? ⟨gx, 1, none⟩ = some (.int .i64 n) := blk_cell hx4 1
    have r2 : (W2.setCell ⟨gy, 2, none⟩ (.int .i64 0)).cell? ⟨gx, 2, none⟩ = some (.int .i64 t) := blk_cell hx4 2
    have s0 : (W2.setCell ⟨gy, 2, none⟩ (.int .i64 0)).cell? ⟨gy, 0, none⟩ = some (.int .i64 k') := blk_cell hy4 0
    have s1 : (W2.setCell ⟨gy, 2, none⟩ (.int .i64 0)).cell? ⟨gy, 1, none⟩ = some (.int .i64 n') := blk_cell hy4 1
    have s2 : (W2.setCell ⟨gy, 2, none⟩ (.int .i64 0)).cell? ⟨gy, 2, none⟩ = some (.int .i64 0) := blk_cell hy4 2
    clear hx4 hy4
    have HBE := hid (Below.setCell (p := ⟨gy, 2, none⟩) HB2.out hne.out.2.2 (.int .i64 0))
    by_cases hq : k = k' ∧ n = n' ∧ t = (0 : Int)
    · obtain rfl := hi.2 hq
      have ex : (x == x) = true := by simp
      have ek : (k == k') = true := by simpa using hq.1
      have en : (n == n') = true := by simpa using hq.2.1
      have et : ((t : Int) == 0) = true := by simpa using hq.2.2
      obtain ⟨hq1, hq2, hq3⟩ := hq
      clear hi HI
      go_wp2_with (go_at_call 12; with_reducible refine (CW.out _).mono ?_; rintro e w9 ⟨rfl, hw9⟩; rw [hw9]; clear hw9)
      all_goals first
        | (exfalso; omega)
        | (exact absurd ⟨rfl, rfl, rfl⟩ hq)
        | (exfalso; simp_all; done)
        | (go_ret; exact ⟨rfl, HBE.out⟩)
    · have ex : (x == x') = false := by
        have : ¬ x = x' := fun e => hq (hi.1 e)
        simpa using this
      clear hi HI
      go_wp2_with (go_at_call 12; with_reducible refine (CW.out _).mono ?_; rintro e w9 ⟨rfl, hw9⟩; rw [hw9]; clear hw9)
      all_goals first
        | (exfalso; omega)
        | (exact absurd ⟨rfl, rfl, rfl⟩ hq)
        | (exfalso; simp_all; done)
        | (go_ret; exact ⟨rfl, HBE.out⟩)
  · have hi : (x = x') ↔ (k = k' ∧ n = n' ∧ (0 : Int) = t') := by
      have := HI.out
      rw [if_neg h8, if_pos h8'] at this
      exact this
    have e1 : (k == 8) = false := by simpa using h8
    have e2 : (k' == 8) = true := by simpa using h8'
    have hx3 : (W2.setCell ⟨gx, 2, none⟩ (.int .i64 0)).heap[gx]? = some (.cells #[.int .i64 k, .int .i64 n, .int .i64 0] 23 (0, 0)) := by
      have := blk_set (i := 2) HX2.out (.int .i64 0); rw [this]; rfl
    have hy3 := (Below.heap_setCell W2 ⟨gx, 2, none⟩ (.int .i64 0) gy (Ne.symm hne.out.1)).trans HY2.out
    have p0 : (W2.setCell ⟨gx, 2, none⟩ (.int .i64 0)).cell? ⟨gx, 0, none⟩ = some (.int .i64 k) := blk_cell hx3 0
    have p1 : (W2.setCell ⟨gx, 2, none⟩ (.int .i64 0)).cell? ⟨gx, 1, none⟩ = some (.int .i64 n) := blk_cell hx3 1
    have p2 : (W2.setCell ⟨gx, 2, none⟩ (.int .i64 0)).cell? ⟨gx, 2, none⟩ = some (.int .i64 0) := blk_cell hx3 2
    have q0 : (W2.setCell ⟨gx, 2, none⟩ (.int .i64 0)).cell? ⟨gy, 0, none⟩ = some (.int .i64 k') := blk_cell hy3 0
    have q1 : (W2.setCell ⟨gx, 2, none⟩ (.int .i64 0)).cell? ⟨gy, 1, none⟩ = some (.int .i64 n') := blk_cell hy3 1
    have q2 : (W2.setCell ⟨gx, 2, none⟩ (.int .i64 0)).cell? ⟨gy, 2, none⟩ = some (.int .i64 t') := blk_cell hy3 2
    have q3 := blk_free hy3 2
    have HX3 := hid hx3
    have HY3 := hid hy3
    clear hx3 hy3
    have HBE := hid (Below.setCell (p := ⟨gx, 2, none⟩) HB2.out hne.out.2.1 (.int .i64 0))
    by_cases hq : k = k' ∧ n = n' ∧ (0 : Int) = t'
    · obtain rfl := hi.2 hq
      have ex : (x == x) = true := by simp
      have ek : (k == k') = true := by simpa using hq.1
      have en : (n == n') = true := by simpa using hq.2.1
      have et : ((0 : Int) == t') = true := by simpa using hq.2.2
      obtain ⟨hq1, hq2, hq3⟩ := hq
      clear hi HI
      go_wp2_with (go_at_call 12; with_reducible refine (CW.out _).mono ?_; rintro e w9 ⟨rfl, hw9⟩; rw [hw9]; clear hw9)
      all_goals first
        | (exfalso; omega)
        | (exact absurd ⟨rfl, rfl, rfl⟩ hq)
        | (exfalso; simp_all; done)
        | (go_ret; exact ⟨rfl, HBE.out⟩)
    · have ex : (x == x') = false := by
        have : ¬ x = x' := fun e => hq (hi.1 e)
        simpa using this
      clear hi HI
      go_wp2_with (go_at_call 12; with_reducible refine (CW.out _).mono ?_; rintro e w9 ⟨rfl, hw9⟩; rw [hw9]; clear hw9)
      all_goals first
        | (exfalso; omega)
        | (exact absurd ⟨rfl, rfl, rfl⟩ hq)
        | (exfalso; simp_all; done)
        | (go_ret; exact ⟨rfl, HBE.out⟩)
  · have hi : (x = x') ↔ (k = k' ∧ n = n' ∧ (0 : Int) = 0) := by
      have := HI.out
      rw [if_neg h8, if_neg h8'] at this
      exact this
    have e1 : (k == 8) = false := by simpa using h8
    have e2 : (k' == 8) = false := by simpa using h8'
    have hx3 : (W2.setCell ⟨gx, 2, none⟩ (.int .i64 0)).heap[gx]? = some (.cells #[.int .i64 k, .int .i64 n, .int .i64 0] 23 (0, 0)) := by
      have := blk_set (i := 2) HX2.out (.int .i64 0); rw [this]; rfl
    have hy3 := (Below.heap_setCell W2 ⟨gx, 2, none⟩ (.int .i64 0) gy (Ne.symm hne.out.1)).trans HY2.out
    have p0 : (W2.setCell ⟨gx, 2, none⟩ (.int .i64 0)).cell? ⟨gx, 0, none⟩ = some (.int .i64 k) := blk_cell hx3 0
    have p1 : (W2.setCell ⟨gx, 2, none⟩ (.int .i64 0)).cell? ⟨gx, 1, none⟩ = some (.int .i64 n) := blk_cell hx3 1
    have p2 : (W2.setCell ⟨gx, 2, none⟩ (.int .i64 0)).cell? ⟨gx, 2, none⟩ = some (.int .i64 0) := blk_cell hx3 2
    have q0 : (W2.setCell ⟨gx, 2, none⟩ (.int .i64 0)).cell? ⟨gy, 0, none⟩ = some (.int .i64 k') := blk_cell hy3 0
    have q1 : (W2.setCell ⟨gx, 2, none⟩ (.int .i64 0)).cell? ⟨gy, 1, none⟩ = some (.int .i64 n') := blk_cell hy3 1
    have q2 : (W2.setCell ⟨gx, 2, none⟩ (.int .i64 0)).cell? ⟨gy, 2, none⟩ = some (.int .i64 t') := blk_cell hy3 2
    have q3 := blk_free hy3 2
    have HX3 := hid hx3
    have HY3 := hid hy3
    clear hx3 hy3
    have hy4 : ((W2.setCell ⟨gx, 2, none⟩ (.int .i64 0)).setCell ⟨gy, 2, none⟩ (.int .i64 0)).heap[gy]? = some (.cells #[.int .i64 k', .int .i64 n', .int .i64 0] 23 (0, 0)) := by
      have := blk_set (i := 2) HY3.out (.int .i64 0); rw [this]; rfl
    have hx4 := (Below.heap_setCell (W2.setCell ⟨gx, 2, none⟩ (.int .i64 0)) ⟨gy, 2, none⟩ (.int .i64 0) gx hne.out.1).trans HX3.out
    have r0 : ((W2.setCell ⟨gx, 2, none⟩ (.int .i64 0)).setCell ⟨gy, 2, none⟩ (.int .i64 0)).cell? ⟨gx, 0, none⟩ = some (.int .i64 k) := blk_cell hx4 0
    have r1 : ((W2.setCell ⟨gx, 2, none⟩ (.int .i64 0)).setCell ⟨gy, 2, none⟩ (.int .i64 0)).cell? ⟨gx, 1, none⟩ = some (.int .i64 n) := blk_cell hx4 1
    have r2 : ((W2.setCell ⟨gx, 2, none⟩ (.int .i64 0)).setCell ⟨gy, 2, none⟩ (.int .i64 0)).cell? ⟨gx, 2, none⟩ = some (.int .i64 0) := blk_cell hx4 2
    have s0 : ((W2.setCell ⟨gx, 2, none⟩ (.int .i64 0)).setCell ⟨gy, 2, none⟩ (.int .i64 0)).cell? ⟨gy, 0, none⟩ = some (.int .i64 k') := blk_cell hy4 0
    have s1 : ((W2.setCell ⟨gx, 2, none⟩ (.int .i64 0)).setCell ⟨gy, 2, none⟩ (.int .i64 0)).cell? ⟨gy, 1, none⟩ = some (.int .i64 n') := blk_cell hy4 1
    have s2 : ((W2.setCell ⟨gx, 2, none⟩ (.int .i64 0)).setCell ⟨gy, 2, none⟩ (.int .i64 0)).cell? ⟨gy, 2, none⟩ = some (.int .i64 0) := blk_cell hy4 2
    clear hx4 hy4
    have HBE := hid (Below.setCell (p := ⟨gy, 2, none⟩) (Below.setCell (p := ⟨gx, 2, none⟩) HB2.out hne.out.2.1 (.int .i64 0)) hne.out.2.2 (.int .i64 0))
    by_cases hq : k = k' ∧ n = n' ∧ (0 : Int) = 0
    · obtain rfl := hi.2 hq
      have ex : (x == x) = true := by simp
      have ek : (k == k') = true := by simpa using hq.1
      have en : (n == n') = true := by simpa using hq.2.1
      have et : ((0 : Int) == 0) = true := by simp
      obtain ⟨hq1, hq2, hq3⟩ := hq
      clear hi HI
      go_wp2_with (go_at_call 12; with_reducible refine (CW.out _).mono ?_; rintro e w9 ⟨rfl, hw9⟩; rw [hw9]; clear hw9)
      all_goals first
        | (exfalso; omega)
        | (exact absurd ⟨rfl, rfl, rfl⟩ hq)
        | (exfalso; simp_all; done)
        | (go_ret; exact ⟨rfl, HBE.out⟩)
    · have ex : (x == x') = false := by
        have : ¬ x = x' := fun e => hq (hi.1 e)
        simpa using this
      clear hi HI
      go_wp2_with (go_at_call 12; with_reducible refine (CW.out _).mono ?_; rintro e w9 ⟨rfl, hw9⟩; rw [hw9]; clear hw9)
      all_goals first
        | (exfalso; omega)
        | (exact absurd ⟨rfl, rfl, rfl⟩ hq)
        | (exfalso; simp_all; done)
        | (go_ret; exact ⟨rfl, HBE.out⟩)
end Go.Proofs.Ytpibfpnhlcpgdaa
