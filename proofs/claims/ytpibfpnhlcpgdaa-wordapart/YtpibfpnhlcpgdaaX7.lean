/-
  Walks: WordTells, WordOne.
-/
import Derived.Test.YtpibfpnhlcpgdaaX6
import Derived.BigQuiet
import Derived.Deep.QuietTactic
set_option linter.unusedVariables false
set_option linter.unusedSimpArgs false
set_option maxRecDepth 100000
namespace Go.Proofs.Ytpibfpnhlcpgdaa
open Go.RowKit

theorem told_of {x k n t : Int} (h : ofR x = (k, n, t)) : toldL x = [if k = 1 then n else 0, if k = 2 then n else 0, if k = 4 then n else 0, if k = 5 then n else 0, if k = 6 then n else 0, if k = 7 then n else 0, if k = 8 then n else 0, if k = 8 then t else 0] := by
  simp [toldL, hasR, typR, h]
theorem make8 (w : World) : (Instr.makeSlice 32 (.int .i64 8) (.int .i64 8)).run Try.prog w = .ok (.slice (some ⟨w.heap.size, 0, none⟩) 8 8) (w.alloc (.cells #[.int .i64 0, .int .i64 0, .int .i64 0, .int .i64 0, .int .i64 0, .int .i64 0, .int .i64 0, .int .i64 0] 2)) := by
  obtain ⟨i0, hi0, hz0, hz1, hz2⟩ : ∃ i0, Try.prog.info? 2 = some i0 ∧ i0.zero = some (.int .i64 0) ∧ i0.size = 1 ∧ i0.bytes = 8 := by
    have hi := info_i64
    cases h : Try.prog.info? 2 with
    | none => rw [h] at hi; cases hi
    | some i => rw [h] at hi; simp at hi; exact ⟨i, rfl, hi.1, hi.2.1, hi.2.2⟩
  have := run_makeSlice (P := Try.prog) (w := w) 32 2 i0 (.int .i64 0) Try.underlying32 hi0 hz0 .i64 .i64 8 8 (by omega) (by omega) (by rw [hz1]; decide) (by rw [hz2]; decide) (by omega)
  rw [hz1] at this
  have e : madeCells (Value.int .i64 0).cells (Int.toNat 8 * 1) = #[.int .i64 0, .int .i64 0, .int .i64 0, .int .i64 0, .int .i64 0, .int .i64 0, .int .i64 0, .int .i64 0] := by kernel_rfl
  rw [e] at this
  exact this
set_option maxHeartbeats 16000000 in
theorem wordTells_walk (x : Int) (w : World) (hx : U64 x) : Calls Try.prog 4 #[.int .u64 x] w fun e w' => e = .returned (.bool true) ∧ Below w.heap.size w w' := by
  have C1 := hid (rof_any x hx)
  have C2 := hid (told_any x hx)
  have CW := hid wawake_any
  have hright := ofR_right (w := x)
  obtain ⟨o, ho⟩ : ∃ o, o = ofR x := ⟨_, rfl⟩
  rw [← ho] at C1 hright
  obtain ⟨k, n, t⟩ := o
  have HTL := hid (told_of ho.symm)
  simp only at C1 hright
  unfold SVal at C1
  have HR := hid hright
  clear hright ho
  go_enter Try.func4, Try.ntmps4
  go_wp2_with fail
  refine (C1.out _).mono ?_
  rintro e W1 ⟨rfl, b1⟩
  have HB1 := hid b1
  clear b1
  go_wp2_with fail
  refine (C2.out _).mono ?_
  rintro e W2 ⟨g, cap, rfl, hc1, hc2, hcell, b2⟩
  have hx1 := (b2.block W1.heap.size (by rw [size_alloc]; omega)).trans (blk_new W1 #[.int .i64 k, .int .i64 n, .int .i64 t] 23)
  have HX1 := hid hx1
  have HB2 := hid (Bt HB1.out (Bt (Ba W1 (.cells #[.int .i64 k, .int .i64 n, .int .i64 t] 23)) b2))
  have HC := hid hcell
  obtain ⟨gs, hgs⟩ : ∃ q, q = W1.heap.size := ⟨_, rfl⟩
  rw [← hgs] at hx1 HX1
  rw [← hgs]
  have hgsl : gs < W2.heap.size := (Array.getElem?_eq_some_iff.1 hx1).1
  unfold maxLen at hc2
  have c0 : ∀ ob, (W2.alloc ob).cell? ⟨gs, 0, none⟩ = some (.int .i64 k) := fun ob => (cell_old _ _ _ _ hgsl).trans (blk_cell hx1 0)
  have c1 : ∀ ob, (W2.alloc ob).cell? ⟨gs, 1, none⟩ = some (.int .i64 n) := fun ob => (cell_old _ _ _ _ hgsl).trans (blk_cell hx1 1)
  have c2 : ∀ ob, (W2.alloc ob).cell? ⟨gs, 2, none⟩ = some (.int .i64 t) := fun ob => (cell_old _ _ _ _ hgsl).trans (blk_cell hx1 2)
  have hmk := make8 W2
  clear b2 hx1 hcell hgs
  have hk : k = 0 ∨ k = 1 ∨ k = 2 ∨ k = 3 ∨ k = 4 ∨ k = 5 ∨ k = 6 ∨ k = 7 ∨ k = 8 := by
    rcases HR.out with h | h
    · injection h with h1 h2; omega
    · rcases right_cases h with ⟨h1, _⟩ | ⟨h1, _⟩ | ⟨h1, _⟩ | ⟨h1, _⟩ | ⟨h1, _⟩ | ⟨h1, _⟩ <;> omega
  rcases hk with rfl | rfl | rfl | rfl | rfl | rfl | rfl | rfl | rfl
  · have HBW := hid (Ba W2 (.cells #[.int .i64 0, .int .i64 0, .int .i64 0, .int .i64 0, .int .i64 0, .int .i64 0, .int .i64 0, .int .i64 0] 2))
    have HW : Hid (∀ i, i < 8 → (W2.alloc (.cells #[.int .i64 0, .int .i64 0, .int .i64 0, .int .i64 0, .int .i64 0, .int .i64 0, .int .i64 0, .int .i64 0] 2)).cell? ⟨W2.heap.size, i, none⟩ = some (.int .i64 ((toldL x).getD i 0))) := fun i hi => by
      rw [blk_cell (blk_new W2 #[.int .i64 0, .int .i64 0, .int .i64 0, .int .i64 0, .int .i64 0, .int .i64 0, .int .i64 0, .int .i64 0] 2), HTL.out]
      have h8 : i = 0 ∨ i = 1 ∨ i = 2 ∨ i = 3 ∨ i = 4 ∨ i = 5 ∨ i = 6 ∨ i = 7 := by omega
      rcases h8 with rfl | rfl | rfl | rfl | rfl | rfl | rfl | rfl <;> rfl
    go_wp2_with fail
    clear c0 c1 c2 hmk
    have HL8 : Hid ((toldL x).length = 8) := by unfold Hid; rw [HTL.out]; rfl
    obtain ⟨gw, hgw⟩ : ∃ q, q = W2.heap.size := ⟨_, rfl⟩
    rw [← hgw] at HW
    rw [← hgw]
    have HBA := hid (Bt HB2.out HBW.out)
    have HC' : Hid (∀ i, i < 8 → (W2.alloc (.cells #[.int .i64 0, .int .i64 0, .int .i64 0, .int .i64 0, .int .i64 0, .int .i64 0, .int .i64 0, .int .i64 0] 2)).cell? ⟨g, i, none⟩ = some (.int .i64 ((toldL x).getD i 0))) := fun i hi => (HBW.out.cell (p := ⟨g, i, none⟩) (cell_lt (HC.out i hi))).trans (HC.out i hi)
    clear hgw hgsl HC HB2 HX1
    generalize W2.alloc (.cells #[.int .i64 0, .int .i64 0, .int .i64 0, .int .i64 0, .int .i64 0, .int .i64 0, .int .i64 0, .int .i64 0] 2) = W at *
    go_loopw [7] (fun i wr => ∃ q : Nat, q ≤ 8 ∧ i = .int .i64 q ∧ Hid (Below W.heap.size W wr)) (fun i _ => 8 - (intOf i).toNat)
    case atStart => exact ⟨0, Nat.zero_le _, rfl, Below.refl _ _⟩
    case round =>
      obtain ⟨q, hq, rfl, hb⟩ := hrel
      by_cases hlt : q < 8
      · obtain ⟨z, hz⟩ : ∃ z, z = (toldL x).getD q 0 := ⟨_, rfl⟩
        have d1 : wr.cell? ⟨g, q, none⟩ = some (.int .i64 z) := by rw [hz]; exact (hb.out.cell (p := ⟨g, q, none⟩) (cell_lt (HC'.out q hlt))).trans (HC'.out q hlt)
        have d2 : wr.cell? ⟨gw, q, none⟩ = some (.int .i64 z) := by rw [hz]; exact (hb.out.cell (p := ⟨gw, q, none⟩) (cell_lt (HW.out q hlt))).trans (HW.out q hlt)
        have ez : (z == z) = true := by simp
        clear hz
        go_wp2_with fail
        go_quiet (fail)
        go_wp2_with fail
        exact ⟨⟨q + 1, by omega, by go_num, Bt hb.out (Bd wr _)⟩, by simp [intOf] <;> omega⟩
      · obtain rfl : q = 8 := by omega
        go_wp2_with (go_at_call 12; with_reducible refine (CW.out _).mono ?_; rintro e w9 ⟨rfl, hw9⟩; rw [hw9]; clear hw9)
        go_ret
        exact ⟨rfl, Bt HBA.out hb.out⟩
  · have HBW := hid (Ba W2 (.cells #[.int .i64 n, .int .i64 0, .int .i64 0, .int .i64 0, .int .i64 0, .int .i64 0, .int .i64 0, .int .i64 0] 2))
    have HW : Hid (∀ i, i < 8 → (W2.alloc (.cells #[.int .i64 n, .int .i64 0, .int .i64 0, .int .i64 0, .int .i64 0, .int .i64 0, .int .i64 0, .int .i64 0] 2)).cell? ⟨W2.heap.size, i, none⟩ = some (.int .i64 ((toldL x).getD i 0))) := fun i hi => by
      rw [blk_cell (blk_new W2 #[.int .i64 n, .int .i64 0, .int .i64 0, .int .i64 0, .int .i64 0, .int .i64 0, .int .i64 0, .int .i64 0] 2), HTL.out]
      have h8 : i = 0 ∨ i = 1 ∨ i = 2 ∨ i = 3 ∨ i = 4 ∨ i = 5 ∨ i = 6 ∨ i = 7 := by omega
      rcases h8 with rfl | rfl | rfl | rfl | rfl | rfl | rfl | rfl <;> rfl
    go_wp2_with fail
    clear c0 c1 c2 hmk
    have HL8 : Hid ((toldL x).length = 8) := by unfold Hid; rw [HTL.out]; rfl
    obtain ⟨gw, hgw⟩ : ∃ q, q = W2.heap.size := ⟨_, rfl⟩
    rw [← hgw] at HW
    rw [← hgw]
    have HBA := hid (Bt HB2.out HBW.out)
    have HC' : Hid (∀ i, i < 8 → (W2.alloc (.cells #[.int .i64 n, .int .i64 0, .int .i64 0, .int .i64 0, .int .i64 0, .int .i64 0, .int .i64 0, .int .i64 0] 2)).cell? ⟨g, i, none⟩ = some (.int .i64 ((toldL x).getD i 0))) := fun i hi => (HBW.out.cell (p := ⟨g, i, none⟩) (cell_lt (HC.out i hi))).trans (HC.out i hi)
    clear hgw hgsl HC HB2 HX1
    generalize W2.alloc (.cells #[.int .i64 n, .int .i64 0, .int .i64 0, .int .i64 0, .int .i64 0, .int .i64 0, .int .i64 0, .int .i64 0] 2) = W at *
    go_loopw [7] (fun i wr => ∃ q : Nat, q ≤ 8 ∧ i = .int .i64 q ∧ Hid (Below W.heap.size W wr)) (fun i _ => 8 - (intOf i).toNat)
    case atStart => exact ⟨0, Nat.zero_le _, rfl, Below.refl _ _⟩
    case round =>
      obtain ⟨q, hq, rfl, hb⟩ := hrel
      by_cases hlt : q < 8
      · obtain ⟨z, hz⟩ : ∃ z, z = (toldL x).getD q 0 := ⟨_, rfl⟩
        have d1 : wr.cell? ⟨g, q, none⟩ = some (.int .i64 z) := by rw [hz]; exact (hb.out.cell (p := ⟨g, q, none⟩) (cell_lt (HC'.out q hlt))).trans (HC'.out q hlt)
        have d2 : wr.cell? ⟨gw, q, none⟩ = some (.int .i64 z) := by rw [hz]; exact (hb.out.cell (p := ⟨gw, q, none⟩) (cell_lt (HW.out q hlt))).trans (HW.out q hlt)
        have ez : (z == z) = true := by simp
        clear hz
        go_wp2_with fail
        go_quiet (fail)
        go_wp2_with fail
        exact ⟨⟨q + 1, by omega, by go_num, Bt hb.out (Bd wr _)⟩, by simp [intOf] <;> omega⟩
      · obtain rfl : q = 8 := by omega
        go_wp2_with (go_at_call 12; with_reducible refine (CW.out _).mono ?_; rintro e w9 ⟨rfl, hw9⟩; rw [hw9]; clear hw9)
        go_ret
        exact ⟨rfl, Bt HBA.out hb.out⟩
  · have HBW := hid (Ba W2 (.cells #[.int .i64 0, .int .i64 n, .int .i64 0, .int .i64 0, .int .i64 0, .int .i64 0, .int .i64 0, .int .i64 0] 2))
    have HW : Hid (∀ i, i < 8 → (W2.alloc (.cells #[.int .i64 0, .int .i64 n, .int .i64 0, .int .i64 0, .int .i64 0, .int .i64 0, .int .i64 0, .int .i64 0] 2)).cell? ⟨W2.heap.size, i, none⟩ = some (.int .i64 ((toldL x).getD i 0))) := fun i hi => by
      rw [blk_cell (blk_new W2 #[.int .i64 0, .int .i64 n, .int .i64 0, .int .i64 0, .int .i64 0, .int .i64 0, .int .i64 0, .int .i64 0] 2), HTL.out]
      have h8 : i = 0 ∨ i = 1 ∨ i = 2 ∨ i = 3 ∨ i = 4 ∨ i = 5 ∨ i = 6 ∨ i = 7 := by omega
      rcases h8 with rfl | rfl | rfl | rfl | rfl | rfl | rfl | rfl <;> rfl
    go_wp2_with fail
    clear c0 c1 c2 hmk
    have HL8 : Hid ((toldL x).length = 8) := by unfold Hid; rw [HTL.out]; rfl
    obtain ⟨gw, hgw⟩ : ∃ q, q = W2.heap.size := ⟨_, rfl⟩
    rw [← hgw] at HW
    rw [← hgw]
    have HBA := hid (Bt HB2.out HBW.out)
    have HC' : Hid (∀ i, i < 8 → (W2.alloc (.cells #[.int .i64 0, .int .i64 n, .int .i64 0, .int .i64 0, .int .i64 0, .int .i64 0, .int .i64 0, .int .i64 0] 2)).cell? ⟨g, i, none⟩ = some (.int .i64 ((toldL x).getD i 0))) := fun i hi => (HBW.out.cell (p := ⟨g, i, none⟩) (cell_lt (HC.out i hi))).trans (HC.out i hi)
    clear hgw hgsl HC HB2 HX1
    generalize W2.alloc (.cells #[.int .i64 0, .int .i64 n, .int .i64 0, .int .i64 0, .int .i64 0, .int .i64 0, .int .i64 0, .int .i64 0] 2) = W at *
    go_loopw [7] (fun i wr => ∃ q : Nat, q ≤ 8 ∧ i = .int .i64 q ∧ Hid (Below W.heap.size W wr)) (fun i _ => 8 - (intOf i).toNat)
    case atStart => exact ⟨0, Nat.zero_le _, rfl, Below.refl _ _⟩
    case round =>
      obtain ⟨q, hq, rfl, hb⟩ := hrel
      by_cases hlt : q < 8
      · obtain ⟨z, hz⟩ : ∃ z, z = (toldL x).getD q 0 := ⟨_, rfl⟩
        have d1 : wr.cell? ⟨g, q, none⟩ = some (.int .i64 z) := by rw [hz]; exact (hb.out.cell (p := ⟨g, q, none⟩) (cell_lt (HC'.out q hlt))).trans (HC'.out q hlt)
        have d2 : wr.cell? ⟨gw, q, none⟩ = some (.int .i64 z) := by rw [hz]; exact (hb.out.cell (p := ⟨gw, q, none⟩) (cell_lt (HW.out q hlt))).trans (HW.out q hlt)
        have ez : (z == z) = true := by simp
        clear hz
        go_wp2_with fail
        go_quiet (fail)
        go_wp2_with fail
        exact ⟨⟨q + 1, by omega, by go_num, Bt hb.out (Bd wr _)⟩, by simp [intOf] <;> omega⟩
      · obtain rfl : q = 8 := by omega
        go_wp2_with (go_at_call 12; with_reducible refine (CW.out _).mono ?_; rintro e w9 ⟨rfl, hw9⟩; rw [hw9]; clear hw9)
        go_ret
        exact ⟨rfl, Bt HBA.out hb.out⟩
  · have HBW := hid (Ba W2 (.cells #[.int .i64 0, .int .i64 0, .int .i64 0, .int .i64 0, .int .i64 0, .int .i64 0, .int .i64 0, .int .i64 0] 2))
    have HW : Hid (∀ i, i < 8 → (W2.alloc (.cells #[.int .i64 0, .int .i64 0, .int .i64 0, .int .i64 0, .int .i64 0, .int .i64 0, .int .i64 0, .int .i64 0] 2)).cell? ⟨W2.heap.size, i, none⟩ = some (.int .i64 ((toldL x).getD i 0))) := fun i hi => by
      rw [blk_cell (blk_new W2 #[.int .i64 0, .int .i64 0, .int .i64 0, .int .i64 0, .int .i64 0, .int .i64 0, .int .i64 0, .int .i64 0] 2), HTL.out]
      have h8 : i = 0 ∨ i = 1 ∨ i = 2 ∨ i = 3 ∨ i = 4 ∨ i = 5 ∨ i = 6 ∨ i = 7 := by omega
      rcases h8 with rfl | rfl | rfl | rfl | rfl | rfl | rfl | rfl <;> rfl
    go_wp2_with fail
    clear c0 c1 c2 hmk
    have HL8 : Hid ((toldL x).length = 8) := by unfold Hid; rw [HTL.out]; rfl
    obtain ⟨gw, hgw⟩ : ∃ q, q = W2.heap.size := ⟨_, rfl⟩
    rw [← hgw] at HW
    rw [← hgw]
    have HBA := hid (Bt HB2.out HBW.out)
    have HC' : Hid (∀ i, i < 8 → (W2.alloc (.cells #[.int .i64 0, .int .i64 0, .int .i64 0, .int .i64 0, .int .i64 0, .int .i64 0, .int .i64 0, .int .i64 0] 2)).cell? ⟨g, i, none⟩ = some (.int .i64 ((toldL x).getD i 0))) := fun i hi => (HBW.out.cell (p := ⟨g, i, none⟩) (cell_lt (HC.out i hi))).trans (HC.out i hi)
    clear hgw hgsl HC HB2 HX1
    generalize W2.alloc (.cells #[.int .i64 0, .int .i64 0, .int .i64 0, .int .i64 0, .int .i64 0, .int .i64 0, .int .i64 0, .int .i64 0] 2) = W at *
    go_loopw [7] (fun i wr => ∃ q : Nat, q ≤ 8 ∧ i = .int .i64 q ∧ Hid (Below W.heap.size W wr)) (fun i _ => 8 - (intOf i).toNat)
    case atStart => exact ⟨0, Nat.zero_le _, rfl, Below.refl _ _⟩
    case round =>
      obtain ⟨q, hq, rfl, hb⟩ := hrel
      by_cases hlt : q < 8
      · obtain ⟨z, hz⟩ : ∃ z, z = (toldL x).getD q 0 := ⟨_, rfl⟩
        have d1 : wr.cell? ⟨g, q, none⟩ = some (.int .i64 z) := by rw [hz]; exact (hb.out.cell (p := ⟨g, q, none⟩) (cell_lt (HC'.out q hlt))).trans (HC'.out q hlt)
        have d2 : wr.cell? ⟨gw, q, none⟩ = some (.int .i64 z) := by rw [hz]; exact (hb.out.cell (p := ⟨gw, q, none⟩) (cell_lt (HW.out q hlt))).trans (HW.out q hlt)
        have ez : (z == z) = true := by simp
        clear hz
        go_wp2_with fail
        go_quiet (fail)
        go_wp2_with fail
        exact ⟨⟨q + 1, by omega, by go_num, Bt hb.out (Bd wr _)⟩, by simp [intOf] <;> omega⟩
      · obtain rfl : q = 8 := by omega
        go_wp2_with (go_at_call 12; with_reducible refine (CW.out _).mono ?_; rintro e w9 ⟨rfl, hw9⟩; rw [hw9]; clear hw9)
        go_ret
        exact ⟨rfl, Bt HBA.out hb.out⟩
  · have HBW := hid (Ba W2 (.cells #[.int .i64 0, .int .i64 0, .int .i64 n, .int .i64 0, .int .i64 0, .int .i64 0, .int .i64 0, .int .i64 0] 2))
    have HW : Hid (∀ i, i < 8 → (W2.alloc (.cells #[.int .i64 0, .int .i64 0, .int .i64 n, .int .i64 0, .int .i64 0, .int .i64 0, .int .i64 0, .int .i64 0] 2)).cell? ⟨W2.heap.size, i, none⟩ = some (.int .i64 ((toldL x).getD i 0))) := fun i hi => by
      rw [blk_cell (blk_new W2 #[.int .i64 0, .int .i64 0, .int .i64 n, .int .i64 0, .int .i64 0, .int .i64 0, .int .i64 0, .int .i64 0] 2), HTL.out]
      have h8 : i = 0 ∨ i = 1 ∨ i = 2 ∨ i = 3 ∨ i = 4 ∨ i = 5 ∨ i = 6 ∨ i = 7 := by omega
      rcases h8 with rfl | rfl | rfl | rfl | rfl | rfl | rfl | rfl <;> rfl
    go_wp2_with fail
    clear c0 c1 c2 hmk
    have HL8 : Hid ((toldL x).length = 8) := by unfold Hid; rw [HTL.out]; rfl
    obtain ⟨gw, hgw⟩ : ∃ q, q = W2.heap.size := ⟨_, rfl⟩
    rw [← hgw] at HW
    rw [← hgw]
    have HBA := hid (Bt HB2.out HBW.out)
    have HC' : Hid (∀ i, i < 8 → (W2.alloc (.cells #[.int .i64 0, .int .i64 0, .int .i64 n, .int .i64 0, .int .i64 0, .int .i64 0, .int .i64 0, .int .i64 0] 2)).cell? ⟨g, i, none⟩ = some (.int .i64 ((toldL x).getD i 0))) := fun i hi => (HBW.out.cell (p := ⟨g, i, none⟩) (cell_lt (HC.out i hi))).trans (HC.out i hi)
    clear hgw hgsl HC HB2 HX1
    generalize W2.alloc (.cells #[.int .i64 0, .int .i64 0, .int .i64 n, .int .i64 0, .int .i64 0, .int .i64 0, .int .i64 0, .int .i64 0] 2) = W at *
    go_loopw [7] (fun i wr => ∃ q : Nat, q ≤ 8 ∧ i = .int .i64 q ∧ Hid (Below W.heap.size W wr)) (fun i _ => 8 - (intOf i).toNat)
    case atStart => exact ⟨0, Nat.zero_le _, rfl, Below.refl _ _⟩
    case round =>
      obtain ⟨q, hq, rfl, hb⟩ := hrel
      by_cases hlt : q < 8
      · obtain ⟨z, hz⟩ : ∃ z, z = (toldL x).getD q 0 := ⟨_, rfl⟩
        have d1 : wr.cell? ⟨g, q, none⟩ = some (.int .i64 z) := by rw [hz]; exact (hb.out.cell (p := ⟨g, q, none⟩) (cell_lt (HC'.out q hlt))).trans (HC'.out q hlt)
        have d2 : wr.cell? ⟨gw, q, none⟩ = some (.int .i64 z) := by rw [hz]; exact (hb.out.cell (p := ⟨gw, q, none⟩) (cell_lt (HW.out q hlt))).trans (HW.out q hlt)
        have ez : (z == z) = true := by simp
        clear hz
        go_wp2_with fail
        go_quiet (fail)
        go_wp2_with fail
        exact ⟨⟨q + 1, by omega, by go_num, Bt hb.out (Bd wr _)⟩, by simp [intOf] <;> omega⟩
      · obtain rfl : q = 8 := by omega
        go_wp2_with (go_at_call 12; with_reducible refine (CW.out _).mono ?_; rintro e w9 ⟨rfl, hw9⟩; rw [hw9]; clear hw9)
        go_ret
        exact ⟨rfl, Bt HBA.out hb.out⟩
  · have HBW := hid (Ba W2 (.cells #[.int .i64 0, .int .i64 0, .int .i64 0, .int .i64 n, .int .i64 0, .int .i64 0, .int .i64 0, .int .i64 0] 2))
    have HW : Hid (∀ i, i < 8 → (W2.alloc (.cells #[.int .i64 0, .int .i64 0, .int .i64 0, .int .i64 n, .int .i64 0, .int .i64 0, .int .i64 0, .int .i64 0] 2)).cell? ⟨W2.heap.size, i, none⟩ = some (.int .i64 ((toldL x).getD i 0))) := fun i hi => by
      rw [blk_cell (blk_new W2 #[.int .i64 0, .int .i64 0, .int .i64 0, .int .i64 n, .int .i64 0, .int .i64 0, .int .i64 0, .int .i64 0] 2), HTL.out]
      have h8 : i = 0 ∨ i = 1 ∨ i = 2 ∨ i = 3 ∨ i = 4 ∨ i = 5 ∨ i = 6 ∨ i = 7 := by omega
      rcases h8 with rfl | rfl | rfl | rfl | rfl | rfl | rfl | rfl <;> rfl
    go_wp2_with fail
    clear c0 c1 c2 hmk
    have HL8 : Hid ((toldL x).length = 8) := by unfold Hid; rw [HTL.out]; rfl
    obtain ⟨gw, hgw⟩ : ∃ q, q = W2.heap.size := ⟨_, rfl⟩
    rw [← hgw] at HW
    rw [← hgw]
    have HBA := hid (Bt HB2.out HBW.out)
    have HC' : Hid (∀ i, i < 8 → (W2.alloc (.cells #[.int .i64 0, .int .i64 0, .int .i64 0, .int .i64 n, .int .i64 0, .int .i64 0, .int .i64 0, .int .i64 0] 2)).cell? ⟨g, i, none⟩ = some (.int .i64 ((toldL x).getD i 0))) := fun i hi => (HBW.out.cell (p := ⟨g, i, none⟩) (cell_lt (HC.out i hi))).trans (HC.out i hi)
    clear hgw hgsl HC HB2 HX1
    generalize W2.alloc (.cells #[.int .i64 0, .int .i64 0, .int .i64 0, .int .i64 n, .int .i64 0, .int .i64 0, .int .i64 0, .int .i64 0] 2) = W at *
    go_loopw [7] (fun i wr => ∃ q : Nat, q ≤ 8 ∧ i = .int .i64 q ∧ Hid (Below W.heap.size W wr)) (fun i _ => 8 - (intOf i).toNat)
    case atStart => exact ⟨0, Nat.zero_le _, rfl, Below.refl _ _⟩
    case round =>
      obtain ⟨q, hq, rfl, hb⟩ := hrel
      by_cases hlt : q < 8
      · obtain ⟨z, hz⟩ : ∃ z, z = (toldL x).getD q 0 := ⟨_, rfl⟩
        have d1 : wr.cell? ⟨g, q, none⟩ = some (.int .i64 z) := by rw [hz]; exact (hb.out.cell (p := ⟨g, q, none⟩) (cell_lt (HC'.out q hlt))).trans (HC'.out q hlt)
        have d2 : wr.cell? ⟨gw, q, none⟩ = some (.int .i64 z) := by rw [hz]; exact (hb.out.cell (p := ⟨gw, q, none⟩) (cell_lt (HW.out q hlt))).trans (HW.out q hlt)
        have ez : (z == z) = true := by simp
        clear hz
        go_wp2_with fail
        go_quiet (fail)
        go_wp2_with fail
        exact ⟨⟨q + 1, by omega, by go_num, Bt hb.out (Bd wr _)⟩, by simp [intOf] <;> omega⟩
      · obtain rfl : q = 8 := by omega
        go_wp2_with (go_at_call 12; with_reducible refine (CW.out _).mono ?_; rintro e w9 ⟨rfl, hw9⟩; rw [hw9]; clear hw9)
        go_ret
        exact ⟨rfl, Bt HBA.out hb.out⟩
  · have HBW := hid (Ba W2 (.cells #[.int .i64 0, .int .i64 0, .int .i64 0, .int .i64 0, .int .i64 n, .int .i64 0, .int .i64 0, .int .i64 0] 2))
    have HW : Hid (∀ i, i < 8 → (W2.alloc (.cells #[.int .i64 0, .int .i64 0, .int .i64 0, .int .i64 0, .int .i64 n, .int .i64 0, .int .i64 0, .int .i64 0] 2)).cell? ⟨W2.heap.size, i, none⟩ = some (.int .i64 ((toldL x).getD i 0))) := fun i hi => by
      rw [blk_cell (blk_new W2 #[.int .i64 0, .int .i64 0, .int .i64 0, .int .i64 0, .int .i64 n, .int .i64 0, .int .i64 0, .int .i64 0] 2), HTL.out]
      have h8 : i = 0 ∨ i = 1 ∨ i = 2 ∨ i = 3 ∨ i = 4 ∨ i = 5 ∨ i = 6 ∨ i = 7 := by omega
      rcases h8 with rfl | rfl | rfl | rfl | rfl | rfl | rfl | rfl <;> rfl
    go_wp2_with fail
    clear c0 c1 c2 hmk
    have HL8 : Hid ((toldL x).length = 8) := by unfold Hid; rw [HTL.out]; rfl
    obtain ⟨gw, hgw⟩ : ∃ q, q = W2.heap.size := ⟨_, rfl⟩
    rw [← hgw] at HW
    rw [← hgw]
    have HBA := hid (Bt HB2.out HBW.out)
    have HC' : Hid (∀ i, i < 8 → (W2.alloc (.cells #[.int .i64 0, .int .i64 0, .int .i64 0, .int .i64 0, .int .i64 n, .int .i64 0, .int .i64 0, .int .i64 0] 2)).cell? ⟨g, i, none⟩ = some (.int .i64 ((toldL x).getD i 0))) := fun i hi => (HBW.out.cell (p := ⟨g, i, none⟩) (cell_lt (HC.out i hi))).trans (HC.out i hi)
    clear hgw hgsl HC HB2 HX1
    generalize W2.alloc (.cells #[.int .i64 0, .int .i64 0, .int .i64 0, .int .i64 0, .int .i64 n, .int .i64 0, .int .i64 0, .int .i64 0] 2) = W at *
    go_loopw [7] (fun i wr => ∃ q : Nat, q ≤ 8 ∧ i = .int .i64 q ∧ Hid (Below W.heap.size W wr)) (fun i _ => 8 - (intOf i).toNat)
    case atStart => exact ⟨0, Nat.zero_le _, rfl, Below.refl _ _⟩
    case round =>
      obtain ⟨q, hq, rfl, hb⟩ := hrel
      by_cases hlt : q < 8
      · obtain ⟨z, hz⟩ : ∃ z, z = (toldL x).getD q 0 := ⟨_, rfl⟩
        have d1 : wr.cell? ⟨g, q, none⟩ = some (.int .i64 z) := by rw [hz]; exact (hb.out.cell (p := ⟨g, q, none⟩) (cell_lt (HC'.out q hlt))).trans (HC'.out q hlt)
        have d2 : wr.cell? ⟨gw, q, none⟩ = some (.int .i64 z) := by rw [hz]; exact (hb.out.cell (p := ⟨gw, q, none⟩) (cell_lt (HW.out q hlt))).trans (HW.out q hlt)
        have ez : (z == z) = true := by simp
        clear hz
        go_wp2_with fail
        go_quiet (fail)
        go_wp2_with fail
        exact ⟨⟨q + 1, by omega, by go_num, Bt hb.out (Bd wr _)⟩, by simp [intOf] <;> omega⟩
      · obtain rfl : q = 8 := by omega
        go_wp2_with (go_at_call 12; with_reducible refine (CW.out _).mono ?_; rintro e w9 ⟨rfl, hw9⟩; rw [hw9]; clear hw9)
        go_ret
        exact ⟨rfl, Bt HBA.out hb.out⟩
  · have HBW := hid (Ba W2 (.cells #[.int .i64 0, .int .i64 0, .int .i64 0, .int .i64 0, .int .i64 0, .int .i64 n, .int .i64 0, .int .i64 0] 2))
    have HW : Hid (∀ i, i < 8 → (W2.alloc (.cells #[.int .i64 0, .int .i64 0, .int .i64 0, .int .i64 0, .int .i64 0, .int .i64 n, .int .i64 0, .int .i64 0] 2)).cell? ⟨W2.heap.size, i, none⟩ = some (.int .i64 ((toldL x).getD i 0))) := fun i hi => by
      rw [blk_cell (blk_new W2 #[.int .i64 0, .int .i64 0, .int .i64 0, .int .i64 0, .int .i64 0, .int .i64 n, .int .i64 0, .int .i64 0] 2), HTL.out]
      have h8 : i = 0 ∨ i = 1 ∨ i = 2 ∨ i = 3 ∨ i = 4 ∨ i = 5 ∨ i = 6 ∨ i = 7 := by omega
      rcases h8 with rfl | rfl | rfl | rfl | rfl | rfl | rfl | rfl <;> rfl
    go_wp2_with fail
    clear c0 c1 c2 hmk
    have HL8 : Hid ((toldL x).length = 8) := by unfold Hid; rw [HTL.out]; rfl
    obtain ⟨gw, hgw⟩ : ∃ q, q = W2.heap.size := ⟨_, rfl⟩
    rw [← hgw] at HW
    rw [← hgw]
    have HBA := hid (Bt HB2.out HBW.out)
    have HC' : Hid (∀ i, i < 8 → (W2.alloc (.cells #[.int .i64 0, .int .i64 0, .int .i64 0, .int .i64 0, .int .i64 0, .int .i64 n, .int .i64 0, .int .i64 0] 2)).cell? ⟨g, i, none⟩ = some (.int .i64 ((toldL x).getD i 0))) := fun i hi => (HBW.out.cell (p := ⟨g, i, none⟩) (cell_lt (HC.out i hi))).trans (HC.out i hi)
    clear hgw hgsl HC HB2 HX1
    generalize W2.alloc (.cells #[.int .i64 0, .int .i64 0, .int .i64 0, .int .i64 0, .int .i64 0, .int .i64 n, .int .i64 0, .int .i64 0] 2) = W at *
    go_loopw [7] (fun i wr => ∃ q : Nat, q ≤ 8 ∧ i = .int .i64 q ∧ Hid (Below W.heap.size W wr)) (fun i _ => 8 - (intOf i).toNat)
    case atStart => exact ⟨0, Nat.zero_le _, rfl, Below.refl _ _⟩
    case round =>
      obtain ⟨q, hq, rfl, hb⟩ := hrel
      by_cases hlt : q < 8
      · obtain ⟨z, hz⟩ : ∃ z, z = (toldL x).getD q 0 := ⟨_, rfl⟩
        have d1 : wr.cell? ⟨g, q, none⟩ = some (.int .i64 z) := by rw [hz]; exact (hb.out.cell (p := ⟨g, q, none⟩) (cell_lt (HC'.out q hlt))).trans (HC'.out q hlt)
        have d2 : wr.cell? ⟨gw, q, none⟩ = some (.int .i64 z) := by rw [hz]; exact (hb.out.cell (p := ⟨gw, q, none⟩) (cell_lt (HW.out q hlt))).trans (HW.out q hlt)
        have ez : (z == z) = true := by simp
        clear hz
        go_wp2_with fail
        go_quiet (fail)
        go_wp2_with fail
        exact ⟨⟨q + 1, by omega, by go_num, Bt hb.out (Bd wr _)⟩, by simp [intOf] <;> omega⟩
      · obtain rfl : q = 8 := by omega
        go_wp2_with (go_at_call 12; with_reducible refine (CW.out _).mono ?_; rintro e w9 ⟨rfl, hw9⟩; rw [hw9]; clear hw9)
        go_ret
        exact ⟨rfl, Bt HBA.out hb.out⟩
  · have HBW := hid (Ba W2 (.cells #[.int .i64 0, .int .i64 0, .int .i64 0, .int .i64 0, .int .i64 0, .int .i64 0, .int .i64 n, .int .i64 t] 2))
    have HW : Hid (∀ i, i < 8 → (W2.alloc (.cells #[.int .i64 0, .int .i64 0, .int .i64 0, .int .i64 0, .int .i64 0, .int .i64 0, .int .i64 n, .int .i64 t] 2)).cell? ⟨W2.heap.size, i, none⟩ = some (.int .i64 ((toldL x).getD i 0))) := fun i hi => by
      rw [blk_cell (blk_new W2 #[.int .i64 0, .int .i64 0, .int .i64 0, .int .i64 0, .int .i64 0, .int .i64 0, .int .i64 n, .int .i64 t] 2), HTL.out]
      have h8 : i = 0 ∨ i = 1 ∨ i = 2 ∨ i = 3 ∨ i = 4 ∨ i = 5 ∨ i = 6 ∨ i = 7 := by omega
      rcases h8 with rfl | rfl | rfl | rfl | rfl | rfl | rfl | rfl <;> rfl
    go_wp2_with fail
    clear c0 c1 c2 hmk
    have HL8 : Hid ((toldL x).length = 8) := by unfold Hid; rw [HTL.out]; rfl
    obtain ⟨gw, hgw⟩ : ∃ q, q = W2.heap.size := ⟨_, rfl⟩
    rw [← hgw] at HW
    rw [← hgw]
    have HBA := hid (Bt HB2.out HBW.out)
    have HC' : Hid (∀ i, i < 8 → (W2.alloc (.cells #[.int .i64 0, .int .i64 0, .int .i64 0, .int .i64 0, .int .i64 0, .int .i64 0, .int .i64 n, .int .i64 t] 2)).cell? ⟨g, i, none⟩ = some (.int .i64 ((toldL x).getD i 0))) := fun i hi => (HBW.out.cell (p := ⟨g, i, none⟩) (cell_lt (HC.out i hi))).trans (HC.out i hi)
    clear hgw hgsl HC HB2 HX1
    generalize W2.alloc (.cells #[.int .i64 0, .int .i64 0, .int .i64 0, .int .i64 0, .int .i64 0, .int .i64 0, .int .i64 n, .int .i64 t] 2) = W at *
    go_loopw [7] (fun i wr => ∃ q : Nat, q ≤ 8 ∧ i = .int .i64 q ∧ Hid (Below W.heap.size W wr)) (fun i _ => 8 - (intOf i).toNat)
    case atStart => exact ⟨0, Nat.zero_le _, rfl, Below.refl _ _⟩
    case round =>
      obtain ⟨q, hq, rfl, hb⟩ := hrel
      by_cases hlt : q < 8
      · obtain ⟨z, hz⟩ : ∃ z, z = (toldL x).getD q 0 := ⟨_, rfl⟩
        have d1 : wr.cell? ⟨g, q, none⟩ = some (.int .i64 z) := by rw [hz]; exact (hb.out.cell (p := ⟨g, q, none⟩) (cell_lt (HC'.out q hlt))).trans (HC'.out q hlt)
        have d2 : wr.cell? ⟨gw, q, none⟩ = some (.int .i64 z) := by rw [hz]; exact (hb.out.cell (p := ⟨gw, q, none⟩) (cell_lt (HW.out q hlt))).trans (HW.out q hlt)
        have ez : (z == z) = true := by simp
        clear hz
        go_wp2_with fail
        go_quiet (fail)
        go_wp2_with fail
        exact ⟨⟨q + 1, by omega, by go_num, Bt hb.out (Bd wr _)⟩, by simp [intOf] <;> omega⟩
      · obtain rfl : q = 8 := by omega
        go_wp2_with (go_at_call 12; with_reducible refine (CW.out _).mono ?_; rintro e w9 ⟨rfl, hw9⟩; rw [hw9]; clear hw9)
        go_ret
        exact ⟨rfl, Bt HBA.out hb.out⟩
end Go.Proofs.Ytpibfpnhlcpgdaa
