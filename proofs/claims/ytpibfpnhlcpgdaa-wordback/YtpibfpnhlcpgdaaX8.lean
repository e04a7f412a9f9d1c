/-
  Walk: WordOne.
-/
import Derived.Test.YtpibfpnhlcpgdaaX7
set_option linter.unusedVariables false
set_option linter.unusedSimpArgs false
set_option maxRecDepth 100000
namespace Go.Proofs.Ytpibfpnhlcpgdaa
open Go.RowKit

/-- How many of the first plain words a word is. -/
def cnt (x : Int) : Nat → Int
  | 0 => 0
  | q + 1 => cnt x q + one ((q : Int) * 8 + 2 == x)
theorem one_cases (b : Bool) : one b = 0 ∨ one b = 1 := by cases b <;> simp [one]
theorem manyR_le (x : Int) : 0 ≤ manyR x ∧ manyR x ≤ 1 := by
  unfold manyR isR
  generalize (ofR x).1 = K
  by_cases h1 : K = 1 <;> by_cases h2 : K = 2 <;> by_cases h4 : K = 4 <;> by_cases h5 : K = 5 <;> by_cases h6 : K = 6 <;> by_cases h7 : K = 7 <;> by_cases h8 : K = 8 <;> simp_all [one]
theorem cnt_rng (x : Int) (q : Nat) : 0 ≤ cnt x q ∧ cnt x q ≤ q := by
  induction q with
  | zero => simp [cnt]
  | succ q ih => unfold cnt; rcases one_cases ((q : Int) * 8 + 2 == x) with h | h <;> rw [h] <;> omega
theorem one_in_all (x : Int) : manyR x + cnt x 6 ≤ 1 := by
  by_cases hp : x = 2 ∨ x = 10 ∨ x = 18 ∨ x = 26 ∨ x = 34 ∨ x = 42
  · rcases hp with rfl | rfl | rfl | rfl | rfl | rfl <;> decide
  · have h0 : cnt x 6 = 0 := by
      have hf : ∀ q : Nat, q < 6 → one ((q : Int) * 8 + 2 == x) = 0 := fun q hq => by
        have : ((q : Int) * 8 + 2 == x) = false := by simp; omega
        rw [this]; rfl
      simp only [cnt, hf 0 (by omega), hf 1 (by omega), hf 2 (by omega), hf 3 (by omega), hf 4 (by omega), hf 5 (by omega)]
      rfl
    have := manyR_le x
    omega
def plainW : List Int := [2, 10, 18, 26, 34, 42]
set_option maxHeartbeats 8000000 in
theorem wordOne_walk (x : Int) (w : World) (hx : U64 x) : Calls Try.prog 5 #[.int .u64 x] w fun e w' => e = .returned (.bool true) ∧ Below w.heap.size w w' := by
  have C2 := hid (told_any x hx)
  have CW := hid wawake_any
  have HM := hid (manyR_le x)
  have HO := hid (one_in_all x)
  obtain ⟨M, hMM⟩ : ∃ M, M = manyR x := ⟨_, rfl⟩
  rw [← hMM] at C2 HM HO
  clear hMM
  go_enter Try.func5, Try.ntmps5
  go_wp2_with fail
  refine (C2.out _).mono ?_
  rintro e W2 ⟨g, cap, rfl, hc1, hc2, hcell, b2⟩
  have HB2 := hid (Bt b2 (Ba W2 (.cells #[.int .u64 2, .int .u64 10, .int .u64 18, .int .u64 26, .int .u64 34, .int .u64 42] 25)))
  have hnew := blk_new W2 #[.int .u64 2, .int .u64 10, .int .u64 18, .int .u64 26, .int .u64 34, .int .u64 42] 25
  have HP : Hid (∀ q : Nat, q < 6 → (W2.alloc (.cells #[.int .u64 2, .int .u64 10, .int .u64 18, .int .u64 26, .int .u64 34, .int .u64 42] 25)).cell? ⟨W2.heap.size, q, none⟩ = some (.int .u64 ((q : Int) * 8 + 2))) := fun q hq => by
    rw [blk_cell hnew]
    have h8 : q = 0 ∨ q = 1 ∨ q = 2 ∨ q = 3 ∨ q = 4 ∨ q = 5 := by omega
    rcases h8 with rfl | rfl | rfl | rfl | rfl | rfl <;> rfl
  clear hc1 hc2 hcell b2 hnew
  go_wp2_with fail
  obtain ⟨gw, hgw⟩ : ∃ q, q = W2.heap.size := ⟨_, rfl⟩
  rw [← hgw] at HP
  rw [← hgw]
  clear hgw
  generalize W2.alloc (.cells #[.int .u64 2, .int .u64 10, .int .u64 18, .int .u64 26, .int .u64 34, .int .u64 42] 25) = W at *
  go_loopw [4, 14] (fun m i wr => ∃ q : Nat, q ≤ 6 ∧ i = .int .i64 q ∧ m = .int .i64 (M + cnt x q) ∧ Hid (Below W.heap.size W wr)) (fun _ i _ => 6 - (intOf i).toNat)
  case atStart => exact ⟨0, Nat.zero_le _, rfl, by simp [cnt], Below.refl _ _⟩
  case round =>
    obtain ⟨q, hq, rfl, rfl, hb⟩ := hrel
    by_cases hlt : q < 6
    · have d1 : wr.cell? ⟨gw, q, none⟩ = some (.int .u64 ((q : Int) * 8 + 2)) := (hb.out.cell (p := ⟨gw, q, none⟩) (cell_lt (HP.out q hlt))).trans (HP.out q hlt)
      have hcr := hid (cnt_rng x q)
      have hstep : Hid (cnt x (q + 1) = cnt x q + one ((q : Int) * 8 + 2 == x)) := rfl
      have hmr : 0 ≤ M + cnt x q ∧ M + cnt x q ≤ 7 := by have := HM.out; have := hcr.out; omega
      obtain ⟨mm, hmm⟩ : ∃ mm, mm = M + cnt x q := ⟨_, rfl⟩
      rw [← hmm] at hmr
      rw [← hmm]
      have HMM := hid hmm
      clear hmm
      obtain ⟨be, hbe⟩ : ∃ be, be = ((q : Int) * 8 + 2 == x) := ⟨_, rfl⟩
      rw [← hbe] at hstep
      have hbe' := hbe.symm
      clear hbe
      cases be
      · go_wp2_with fail
        exact ⟨⟨q + 1, by omega, by go_num, by rw [hstep.out, HMM.out]; simp [one], hb.out⟩, by simp [intOf] <;> omega⟩
      · go_wp2_with fail
        exact ⟨⟨q + 1, by omega, by go_num, by rw [hstep.out, HMM.out]; simp [one, Int.add_assoc], hb.out⟩, by simp [intOf] <;> omega⟩
    · obtain rfl : q = 6 := by omega
      have hle := HO.out
      obtain ⟨mm, hmm⟩ : ∃ mm, mm = M + cnt x 6 := ⟨_, rfl⟩
      rw [← hmm] at hle
      rw [← hmm]
      clear hmm
      go_wp2_with (go_at_call 12; with_reducible refine (CW.out _).mono ?_; rintro e w9 ⟨rfl, hw9⟩; rw [hw9]; clear hw9)
      all_goals first
        | omega
        | (go_ret; exact ⟨rfl, Bt HB2.out hb.out⟩)
end Go.Proofs.Ytpibfpnhlcpgdaa
