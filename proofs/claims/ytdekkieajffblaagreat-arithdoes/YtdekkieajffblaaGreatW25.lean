/-
  Walks, of the document's answer: Mul.
-/
import Derived.Test.YtdekkieajffblaaGreatW24
import Derived.Laws.Bits128
set_option linter.unusedVariables false
set_option linter.unusedSimpArgs false
namespace Go.Proofs.YtdekkieajffblaaGreat
open Go.RowKit

theorem and_255 (t : Nat) (h : t < 9223372036854775808) : bits .and .i64 (t : Int) 255 = ((t % 256 : Nat) : Int) := by
  have h1 : (BitVec.ofInt 64 (t : Int)).toNat = t := by
    rw [BitVec.ofInt_natCast, BitVec.toNat_ofNat]; exact Nat.mod_eq_of_lt (by omega)
  show IntKind.i64.wrap ((BitVec.ofInt 64 (t : Int) &&& BitVec.ofInt 64 255).toNat : Int) = _
  rw [BitVec.toNat_and, h1]
  have h2 : (BitVec.ofInt 64 255).toNat = 2 ^ 8 - 1 := by decide
  rw [h2, Nat.and_two_pow_sub_one_eq_mod, IntKind.wrap_i64]
  omega

set_option maxHeartbeats 4000000 in
theorem rmul_any (neg neg' : Bool) (ao ao' : Option Addr) (n cap n' cap' : Nat) (l l' : List Nat) (w : World) (R : Row .u32 B32 w ao n cap l) (R' : Row .u32 B32 w ao' n' cap' l') (hs : n ≤ 40) (hs' : n' ≤ 40) :
    Calls Tryz.prog 75 #[.agg #[.bool neg, .slice ao n cap], .agg #[.bool neg', .slice ao' n' cap']] w (FitPost w (neg != neg') (val B32 l * val B32 l')) := by
  have HR := hid R
  have HR' := hid R'
  clear R R'
  go_enter Tryz.func75, Tryz.ntmps75
  go_wp2
  obtain ⟨x1, x2, x3, hb0⟩ := three_boxes 40 w neg neg' false ao ao' none n cap n' cap' 0 0 _ rfl
  generalize hW0 : (((w.alloc (.cells #[.bool neg, .slice ao n cap] 40)).alloc (.cells #[.bool neg', .slice ao' n' cap'] 40)).alloc (.cells #[.bool false, .slice none 0 0] 40)) = W0 at *
  clear hW0
  have HS : Hid (W0.cell? ⟨w.heap.size, 0, none⟩ = some (.bool neg) ∧ W0.cell? ⟨w.heap.size, 1, none⟩ = some (.slice ao n cap) ∧ W0.cell? ⟨w.heap.size + 1, 0, none⟩ = some (.bool neg') ∧ W0.cell? ⟨w.heap.size + 1, 1, none⟩ = some (.slice ao' n' cap')) := ⟨x1.c.1, x1.c.2, x2.c.1, x2.c.2⟩
  have RW := hid (HR.out.below hb0)
  have RW' := hid (HR'.out.below hb0)
  have X1 := hid x1
  have X2 := hid x2
  have X3 := hid x3
  have HB0 := hid hb0
  clear x1 x2 x3 hb0 HR HR'
  go_region_held3 (fun wx => wx.cell? ⟨w.heap.size, 0, none⟩ = some (.bool neg) ∧ wx.cell? ⟨w.heap.size, 1, none⟩ = some (.slice ao n cap) ∧ wx.cell? ⟨w.heap.size + 1, 0, none⟩ = some (.bool neg') ∧ wx.cell? ⟨w.heap.size + 1, 1, none⟩ = some (.slice ao' n' cap'))
    (first | exact keep4 HS.out (Bd W0 1) | exact keep4 (by assumption) (by assumption))
    (first
      | (go_at_call_of 45 (Value.slice ao n cap); refine (bytes_any neg ao n cap l _ ?_ (by omega)).mono ?_; (exact RW.out.below (Bd W0 1)); rintro e wa ⟨m1, ao1, cap1, l1, rfl, hm1, hO1, ht1, hv1, ba⟩; have O1 := hid hO1; have T1 := hid ht1; have V1 := hid hv1; clear hO1 ht1 hv1)
      | (go_at_call_of 45 (Value.slice ao' n' cap'); refine (bytes_any neg' ao' n' cap' l' _ ?_ (by omega)).mono ?_; (exact (RW'.out.below (Bd W0 1)).below ba); rintro e wb ⟨m2, ao2, cap2, l2, rfl, hm2, hO2, ht2, hv2, bb⟩; have O2 := hid hO2; have T2 := hid ht2; have V2 := hid hv2; clear hO2 ht2 hv2))
  have HBb := hid (Bt (Bt (Bt HB0.out (Bd W0 1)) ba) bb)
  have hW : Below W0.heap.size W0 wb := Bt (Bt (Bd W0 1) ba) bb
  have Y1 := hid (X1.out.on hW)
  have Y2 := hid (X2.out.on hW)
  have Y3 := hid (X3.out.on hW)
  have Rx := hid (O1.out.row.below bb)
  have Ry := hid O2.out.row
  rename_i hHeld
  clear hHeld hW ba bb O1 O2 X1 X2 X3 RW RW' HS HB0
  obtain ⟨N, hN⟩ : ∃ N, N = m1 + m2 + 1 := ⟨_, rfl⟩
  have hmk := fun wx => run_make_row' (P := Tryz.prog) 87 5 (.int .u8 0) 1 Tryz.underlying87 info_u8 rfl .i64 .i64 N (by omega) (by omega) wx
  rw [show ((N : Nat) : Int) = (m1 : Int) + m2 + 1 by omega] at hmk
  have hN1 : m1 + m2 + 1 ≤ N := by omega
  have hN2 : N ≤ m1 + m2 + 1 := by omega
  clear hN
  go_wp2
  have hW0 := made_win wb .u8 5 N
  have hbm := Ba wb (.cells (madeCells #[.int .u8 0] N) 5)
  obtain ⟨g, hg⟩ : ∃ g, g = wb.heap.size := ⟨_, rfl⟩
  rw [← hg] at hW0
  generalize hWW : wb.alloc (.cells (madeCells #[.int .u8 0] N) 5) = W1 at *
  generalize madeCells #[.int .u8 0] N = cur at *
  have HW0 := hid hW0
  have HBm := hid hbm
  have HG := hid hg
  rw [← hg]
  have HLx := hid Rx.out.len
  have HLy := hid Ry.out.len
  clear hmk hWW hW0 hbm hg
  go_loopw [9] (fun i wr => ∃ k : Nat, ∃ L : List Nat, k ≤ m1 ∧ i = .int .i64 k ∧ Hid (Onto .u8 5 g 0 N W1 wr cur L ∧ Dg 256 L ∧ val 256 L = val 256 (l1.take k) * val 256 l2 ∧ ∀ p, k + m2 ≤ p → L.getD p 0 = 0)) (fun i _ => m1 - (intOf i).toNat)
  case atStart => exact ⟨0, List.replicate N 0, Nat.zero_le _, rfl, HW0.out.onto, Dg.zeros (by decide) N, by rw [val_zeros]; simp [val], fun p _ => getD_zeros _ _⟩
  case round =>
    obtain ⟨k, L, hk, rfl, hI⟩ := hrel
    by_cases hlt : k < m1
    · obtain ⟨wo, rfl⟩ : ∃ wo : World, wo = wr := ⟨_, rfl⟩
      obtain ⟨b, o, rfl, hl, hc⟩ := Rx.out.rd.some (by rw [HLx.out]; omega)
      obtain ⟨x, hx⟩ : ∃ x, x = l1.getD k 0 := ⟨_, rfl⟩
      have hxb : x < 256 := by rw [hx]; exact Rx.out.dg.getD _ (by rw [HLx.out]; exact hlt)
      have HCX : Hid (wb.cell? ⟨b, o + k, none⟩ = some (.int .u8 x)) := by unfold Hid; rw [hc k (by rw [HLx.out]; exact hlt), hx]
      have HX := hid hx
      clear hc hx
      go_wp2
      go_loopw [10, 11] (fun c i wr => ∃ j cc : Nat, ∃ M : List Nat, j ≤ m2 + 1 ∧ i = .int .i64 j ∧ c = .int .i64 cc ∧ cc ≤ 255 ∧ (j = m2 + 1 → cc = 0) ∧ Hid (Onto .u8 5 g 0 N W1 wr cur M ∧ Dg 256 M ∧ val 256 M + 256 ^ (k + j) * cc = val 256 (l1.take k) * val 256 l2 + 256 ^ k * (x * val 256 (l2.take j)) ∧ ∀ p, k + m2 ≤ p → k + j ≤ p → M.getD p 0 = 0)) (fun _ i _ => m2 + 1 - (intOf i).toNat)
      case atStart => exact ⟨0, 0, L, Nat.zero_le _, rfl, rfl, by omega, fun _ => rfl, hI.out.1, hI.out.2.1, by rw [hI.out.2.2.1]; simp [val], fun p hp _ => hI.out.2.2.2 p hp⟩
      case round =>
        obtain ⟨j, cc, M, hj, rfl, rfl, hcc, hcz, hJ⟩ := hrel
        have hML := hJ.out.1.len
        have HCZ := hid hcz
        clear hcz
        by_cases hjlt : j < m2
        · have ej : decide ((j : Int) < m2) = true := by simp; omega
          obtain ⟨b', o', rfl, hl', hc'⟩ := Ry.out.rd.some (by rw [HLy.out]; omega)
          obtain ⟨y, hy⟩ : ∃ y, y = l2.getD j 0 := ⟨_, rfl⟩
          have hyb : y < 256 := by rw [hy]; exact Ry.out.dg.getD _ (by rw [HLy.out]; exact hjlt)
          have hcy : wr.cell? ⟨b', o' + j, none⟩ = some (.int .u8 y) := by
            rw [hJ.out.1.other (by rw [HG.out]; omega), HBm.out.cell (p := ⟨b', o' + j, none⟩) hl', hc' j (by rw [HLy.out]; exact hjlt), hy]
          have hcx : wr.cell? ⟨b, o + k, none⟩ = some (.int .u8 x) := by
            rw [hJ.out.1.other (by rw [HG.out]; omega), HBm.out.cell (p := ⟨b, o + k, none⟩) hl, HCX.out]
          obtain ⟨z, hz⟩ : ∃ z, z = M.getD (k + j) 0 := ⟨_, rfl⟩
          have hzb : z < 256 := by rw [hz]; exact hJ.out.2.1.getD _ (by rw [hML]; omega)
          have hcz : wr.cell? ⟨g, k + j, none⟩ = some (.int .u8 z) := by
            have := hJ.out.1.cell (i := k + j) (by omega)
            rw [Nat.zero_add, ← hz] at this
            exact this
          have hfz : wr.frozen? ⟨g, k + j, none⟩ = false := hJ.out.1.frozen _
          have HY := hid hy
          have HZ := hid hz
          have HML := hid hML
          clear hy hz hc' hML
          have hxy : x * y ≤ 65025 := Nat.mul_le_mul (show x ≤ 255 by omega) (show y ≤ 255 by omega)
          obtain ⟨t, ht⟩ : ∃ t, t = x * y + z + cc := ⟨_, rfl⟩
          have hand : bits .and .i64 ((cc : Int) + z + x * y) 255 = ((t % 256 : Nat) : Int) := by
            rw [show ((cc : Int) + z + x * y) = ((t : Nat) : Int) by rw [ht]; simp; omega]
            exact and_255 t (by omega)
          have htm : t % 256 < 256 := Nat.mod_lt _ (by decide)
          obtain ⟨r, hr⟩ : ∃ r, r = t % 256 := ⟨_, rfl⟩
          rw [← hr] at hand htm
          have HRr := hid hr
          have HT := hid ht
          clear ht hr
          go_wp2
          go_quiet (fail)
          go_wp2
          have e1 : ((cc : Int) + z + x * y) / 256 = ((t / 256 : Nat) : Int) := by rw [HT.out]; omega
          rw [e1]
          obtain ⟨j1, j2, j3, j4⟩ := hJ.out
          refine ⟨⟨j + 1, t / 256, M.set (k + j) r, by omega, by go_num, rfl, ?_, ?_, ?_, ?_, ?_, ?_⟩, by simp [intOf] <;> omega⟩
          · have := HT.out; omega
          · intro h; omega
          · have := (j1.drewN nq).store (i := k + j) (by omega) r
            rw [Nat.zero_add] at this
            exact this
          · exact j2.set htm
          · have hset := val_set (B := 256) (L := M) (p := k + j) (x := t % 256) (by rw [HML.out]; omega)
            rw [← HRr.out, ← HZ.out, HRr.out, HT.out] at hset
            have h1 := mul_step j3 hset
            rw [HRr.out, val_take_succ 256 l2 j (by rw [HLy.out]; exact hjlt), ← HY.out, ← Nat.add_assoc k j 1, Nat.pow_succ, HT.out]
            have h2 : 256 ^ k * (x * (val 256 (l2.take j) + 256 ^ j * y)) = 256 ^ k * (x * val 256 (l2.take j)) + 256 ^ (k + j) * (x * y) := by
              rw [Nat.mul_add, Nat.mul_add, Nat.pow_add, Nat.mul_assoc, Nat.mul_left_comm x]
            rw [h2]
            exact h1
          · intro p hp hp2
            rw [getD_set (by rw [HML.out]; omega), if_neg (by omega)]
            exact j4 p hp (by omega)
        · have ej : decide ((j : Int) < m2) = false := by simp; omega
          by_cases hc0 : cc = 0
          · subst hc0
            go_wp2
            obtain ⟨j1, j2, j3, j4⟩ := hJ.out
            refine ⟨⟨k + 1, M, by omega, by go_num, j1, j2, ?_, fun p hp => j4 p (by omega) (by omega)⟩, by simp [intOf] <;> omega⟩
            rw [List.take_of_length_le (l := l2) (i := j) (by rw [HLy.out]; omega)] at j3
            rw [val_take_succ 256 l1 k (by rw [HLx.out]; exact hlt), ← HX.out, Nat.add_mul, Nat.mul_assoc]
            simpa using j3
          · have ec : decide ((0 : Int) < cc) = true := by simp; omega
            obtain rfl : j = m2 := by
              have := HCZ.out
              by_cases h : j = m2 + 1
              · exact absurd (this h) hc0
              · omega
            have hcz : wr.cell? ⟨g, k + j, none⟩ = some (.int .u8 0) := by
              have := hJ.out.1.cell (i := k + j) (by omega)
              rw [Nat.zero_add, hJ.out.2.2.2 (k + j) (Nat.le_refl _) (Nat.le_refl _)] at this
              exact this
            have hfz : wr.frozen? ⟨g, k + j, none⟩ = false := hJ.out.1.frozen _
            have hand : bits .and .i64 (cc : Int) 255 = ((cc : Nat) : Int) := by
              rw [and_255 cc (by omega)]; omega
            have HML := hid hML
            clear hML
            go_wp2
            obtain ⟨j1, j2, j3, j4⟩ := hJ.out
            refine ⟨⟨j + 1, 0, M.set (k + j) cc, by omega, by go_num, ?_, by omega, fun _ => rfl, ?_, ?_, ?_, ?_⟩, by simp [intOf] <;> omega⟩
            · exact congrArg (Value.int .i64) (by omega)
            · have := j1.store (i := k + j) (by omega) cc
              rw [Nat.zero_add] at this
              exact this
            · exact j2.set (by omega)
            · have hset := val_set (B := 256) (L := M) (p := k + j) (x := cc) (by rw [HML.out]; omega)
              rw [j4 (k + j) (Nat.le_refl _) (Nat.le_refl _), j3] at hset
              rw [List.take_of_length_le (l := l2) (i := j) (by rw [HLy.out]; exact Nat.le_refl _)] at hset
              rw [List.take_of_length_le (l := l2) (i := j + 1) (by rw [HLy.out]; omega)]
              simpa using hset
            · intro p hp hp2
              rw [getD_set (by rw [HML.out]; omega), if_neg (by omega)]
              exact j4 p hp (by omega)
    · obtain rfl : k = m1 := by omega
      obtain ⟨i1, i2, i3, i4⟩ := hI.out
      have hgp : w.heap.size + 1 + 1 < g := by rw [HG.out]; exact Y3.out.lt
      have bx : ∀ {p x a m c}, Box 40 wb p x a m c → Box 40 wr p x a m c := fun h => (i1.block _ (by have := h.lt; rw [HG.out]; omega)).trans (h.on HBm.out)
      have y1 := bx Y1.out
      have y2 := bx Y2.out
      have Z3 := hid (bx Y3.out)
      obtain ⟨c10, _⟩ := y1.c
      obtain ⟨c20, _⟩ := y2.c
      have HRow := hid (i1.row_ i2 (Nat.le_refl _) (by unfold maxLen; omega))
      rw [List.take_of_length_le (by rw [HLx.out]; omega)] at i3
      have HVL := hid i3
      have HBr := hid (HBb.out.trans ((HBm.out.trans (i1.below (by rw [HG.out]; exact Nat.le_refl _))).mono (by have := HBb.out.size; exact this)))
      clear bx y1 y2 hI i1 i2 i3 i4
      go_wp2_with fail
      refine (rwhole_any (neg != neg') (some ⟨g, 0, none⟩) N N L wr HRow.out (by omega)).mono ?_
      rintro e w5 ⟨x, en, rfl, hA, b5⟩
      obtain ⟨sx, ax, nx, cx, lx, rfl, Rxx, hAx⟩ := hA.form
      have Z5 := hid (Z3.out.on b5)
      obtain ⟨z30, z31⟩ := Z5.out.c
      obtain ⟨f30, f31⟩ := Z5.out.f
      have HB5 := hid (Bt HBr.out b5)
      have HAx := hid hAx
      have HRxx := hid Rxx
      clear hA hAx Rxx b5
      go_wp2
      have z := Z5.out.set2 sx ax nx cx
      obtain ⟨y0, y1⟩ := z.c
      have rx := HAx.out _ (HRxx.out.setBox2 Z5.out sx (.slice ax nx cx))
      rw [HVL.out, V1.out, V2.out] at rx
      exact bodyPost_ret (v := .tuple #[.agg #[.bool sx, .slice ax nx cx], .int .i64 en]) (by simp [results, Tryz.results75, go_sem, y0, y1]) rfl ⟨_, _, rfl, rx, (HB5.out.setCell (p := ⟨w.heap.size + 1 + 1, 0, none⟩) (by simp; omega) _).setCell (p := ⟨w.heap.size + 1 + 1, 1, none⟩) (by simp; omega) _⟩

end Go.Proofs.YtdekkieajffblaaGreat
