/-
  Walks: shiftUp.
-/
import Derived.Test.YtaenegcnobindabW45
import Derived.Test.YtaenegcnobindabW23
set_option linter.unusedVariables false
set_option linter.unusedSimpArgs false
namespace Go.Proofs.Ytaenegcnobindab
open Go.RowKit

theorem shiftStep {P vq c vl x s2 lo hi B : Nat} (h : vq + P * c = vl * s2) (ht : lo + B * hi = x * s2) : vq + P * (c + lo) + P * B * hi = (vl + P * x) * s2 := by
  rw [Nat.add_mul, ← h, Nat.mul_assoc P x, ← ht, Nat.mul_add, Nat.mul_add, Nat.mul_assoc]
  omega

theorem shift_lo {t s : Nat} (x : Nat) (hs : s < 32) (ht : t = x * 2 ^ s) : t % 4294967296 % 2 ^ s = 0 ∧ t % 4294967296 + 2 ^ s ≤ 4294967296 := by
  have hd : 2 ^ s ∣ 4294967296 := by
    rw [show 4294967296 = 2 ^ 32 from rfl]; exact Nat.pow_dvd_pow 2 (by omega)
  have h1 : t % 4294967296 % 2 ^ s = 0 := by
    rw [Nat.mod_mod_of_dvd _ hd, ht, Nat.mul_mod_left]
  refine ⟨h1, ?_⟩
  have hp : 0 < 2 ^ s := Nat.pow_pos (by decide)
  obtain ⟨k, hk⟩ := Nat.dvd_of_mod_eq_zero h1
  obtain ⟨K, hK⟩ := hd
  have h2 : t % 4294967296 < 4294967296 := Nat.mod_lt _ (by decide)
  rw [hk, hK] at h2
  have h3 := Nat.lt_of_mul_lt_mul_left h2
  have h4 : 2 ^ s * (k + 1) ≤ 2 ^ s * K := Nat.mul_le_mul_left _ h3
  rw [hk]
  rw [Nat.mul_add, ← hK] at h4
  omega

set_option maxHeartbeats 2000000 in
theorem shiftUp_any (ao : Option Addr) (n cap : Nat) (l : List Nat) (s : Nat) (w : World) (R : Row .u32 B32 w ao n cap l) (hn : n ≤ 40) (hs : s < 32) :
    Calls Try.prog 56 #[.slice ao n cap, .int .i64 s] w fun e w' => ∃ g L, e = .returned (.slice (some ⟨g, 0, none⟩) (n + 1) (n + 1)) ∧ w.heap.size ≤ g ∧ (∃ cur, Win .u32 56 w' g 0 (n + 1) cur L) ∧ Dg B32 L ∧ val B32 L = val B32 l * 2 ^ s ∧ Below w.heap.size w w' := by
  have HR := hid R
  have HL := hid R.len
  have hmx := R.most
  have hft := R.fits
  unfold maxLen at hmx
  clear R
  obtain ⟨N, hN⟩ : ∃ N, N = n + 1 := ⟨_, rfl⟩
  have hmk := fun wx => run_make_row' (P := Try.prog) 22 56 (.int .u32 0) 4 Try.underlying22 info_u32 rfl .i64 .i64 N (by omega) (by omega) wx
  rw [show ((N : Nat) : Int) = (n : Int) + 1 by omega] at hmk
  have hN1 : n + 1 ≤ N := by omega
  have hN2 : N ≤ n + 1 := by omega
  have HNN := hid hN
  clear hN
  go_enter Try.func56, Try.ntmps56
  go_wp2
  have hW0 := made_win w .u32 56 N
  have hbm := Ba w (.cells (madeCells #[.int .u32 0] N) 56)
  obtain ⟨g, hg⟩ : ∃ g, g = w.heap.size := ⟨_, rfl⟩
  rw [← hg] at hW0
  generalize hWW : w.alloc (.cells (madeCells #[.int .u32 0] N) 56) = W1 at *
  generalize madeCells #[.int .u32 0] N = cur at *
  have HW0 := hid hW0
  have HBm := hid hbm
  have HG := hid hg
  rw [← hg]
  clear hmk hWW hW0 hbm hg
  go_loopw [15] (fun i wr => ∃ m c : Nat, ∃ q : List Nat, m ≤ n ∧ i = .int .i64 m ∧ c < 2 ^ s ∧ Hid (q.length = m ∧ Dg B32 q ∧ val B32 q + B32 ^ m * c = val B32 (l.take m) * 2 ^ s ∧ Onto .u32 56 g 0 N W1 wr cur (q ++ c :: List.replicate (n - m) 0))) (fun i _ => n - (intOf i).toNat)
  case atStart => exact ⟨0, 0, [], Nat.zero_le _, rfl, Nat.pow_pos (by decide), rfl, Dg.nil _, by simp [val], by
    have := HW0.out.onto
    rw [HNN.out, List.replicate_succ] at this
    rw [HNN.out]; simpa using this⟩
  case round =>
    obtain ⟨m, c, q, hm, rfl, hcs, hI⟩ := hrel
    by_cases hlt : m < n
    · obtain ⟨b, o, rfl, hl, hcc⟩ := HR.out.rd.some (by rw [HL.out]; omega)
      obtain ⟨x, hx⟩ : ∃ x, x = l.getD m 0 := ⟨_, rfl⟩
      have hxb : x < B32 := by rw [hx]; exact HR.out.dg.getD _ (by rw [HL.out]; exact hlt)
      have hxb2 : x < 4294967296 := hxb
      have hcx : wr.cell? ⟨b, o + m, none⟩ = some (.int .u32 x) := by
        rw [hI.out.2.2.2.other (by rw [HG.out]; omega), HBm.out.cell (p := ⟨b, o + m, none⟩) hl, hcc m (by rw [HL.out]; exact hlt), hx]
      have hcm : wr.cell? ⟨g, m, none⟩ = some (.int .u32 c) := by
        have := hI.out.2.2.2.cell (i := m) (by omega)
        rw [List.getD_eq_getElem?_getD, List.getElem?_append_right (by rw [hI.out.1]; omega), hI.out.1, Nat.sub_self] at this
        simpa using this
      have hf1 : wr.frozen? ⟨g, m, none⟩ = false := hI.out.2.2.2.frozen _
      have hf2 : wr.frozen? ⟨g, m + 1, none⟩ = false := hI.out.2.2.2.frozen _
      have hcm1 : wr.cell? ⟨g, m + 1, none⟩ = some (.int .u32 0) := by
        have := hI.out.2.2.2.cell (i := m + 1) (by omega)
        rw [List.getD_eq_getElem?_getD, List.getElem?_append_right (by rw [hI.out.1]; omega), hI.out.1, show m + 1 - m = 1 by omega] at this
        rw [show n - m = (n - m - 1) + 1 by omega, List.replicate_succ] at this
        simpa using this
      have HX := hid hx
      obtain ⟨t, ht⟩ : ∃ t, t = x * 2 ^ s := ⟨_, rfl⟩
      have hp32 : 2 ^ s ≤ 2 ^ 31 := Nat.pow_le_pow_right (by decide) (by omega)
      have htb : t < 4294967296 * 2 ^ s := by rw [ht]; exact Nat.mul_lt_mul_of_pos_right hxb2 (Nat.pow_pos (by decide))
      have htb2 : t < 18446744073709551616 := by omega
      have hwr : IntKind.u64.wrap ((x : Int) * 2 ^ s) = (t : Int) := by
        rw [show ((x : Int) * 2 ^ s) = (t : Int) by rw [ht]; simp, IntKind.wrap_u64]; omega
      obtain ⟨hlo1, hlo2⟩ := shift_lo x hs ht
      obtain ⟨lo, hlo⟩ : ∃ lo, lo = t % 4294967296 := ⟨_, rfl⟩
      obtain ⟨hi, hhi⟩ : ∃ hi, hi = t / 4294967296 := ⟨_, rfl⟩
      rw [← hlo] at hlo1 hlo2
      have hhs : hi < 2 ^ s := by rw [hhi, Nat.div_lt_iff_lt_mul (by decide), Nat.mul_comm]; exact htb
      have elo : (t : Int) % 4294967296 = (lo : Int) := by omega
      have ediv : (t : Int) / 4294967296 = (hi : Int) := by omega
      have emod : (hi : Int) % 4294967296 = (hi : Int) := by omega
      obtain ⟨r, hr⟩ : ∃ r, r = c + lo := ⟨_, rfl⟩
      have hor : bits .or .u32 (c : Int) (lo : Int) = (r : Int) := by
        rw [u32_or_nat _ _ (by omega) (by omega), Nat.or_comm, nat_join s _ _ hlo1 hcs, hr, Nat.add_comm]
      have hrb : r < 4294967296 := by omega
      have hsum : lo + B32 * hi = x * 2 ^ s := by rw [← ht, hlo, hhi]; unfold B32; omega
      have HSUM := hid hsum
      have HRr := hid hr
      have HRB := hid (show r < B32 from hrb)
      clear hcc hx ht hlo hhi hr hsum hlo1 hlo2 htb hp32
      go_wp2
      obtain ⟨h1, h2, h3, h4⟩ := hI.out
      refine ⟨⟨m + 1, hi, q ++ [r], by omega, by go_num, hhs, ?_, ?_, ?_, ?_⟩, by simp [intOf] <;> omega⟩
      · simp [h1]
      · exact h2.append (Dg.one HRB.out)
      · rw [val_snoc, h1, val_take_succ B32 l m (by rw [HL.out]; exact hlt), ← HX.out, HRr.out, Nat.pow_succ]
        exact shiftStep h3 HSUM.out
      · have h5 := (h4.store (i := m) (by omega) r).store (i := m + 1) (by omega) hi
        rw [Nat.zero_add, Nat.zero_add] at h5
        have e1 : ((q ++ c :: List.replicate (n - m) 0).set m r).set (m + 1) hi = q ++ [r] ++ hi :: List.replicate (n - (m + 1)) 0 := by
          rw [show n - m = (n - (m + 1)) + 1 by omega, List.replicate_succ]
          rw [List.set_append, if_neg (by omega), h1, Nat.sub_self, List.set_cons_zero, List.set_append, if_neg (by omega), h1, show m + 1 - m = 1 by omega]
          simp
        rw [e1] at h5
        exact h5
    · obtain rfl : m = n := by omega
      obtain ⟨h1, h2, h3, h4⟩ := hI.out
      rw [Nat.sub_self, List.replicate_zero, HNN.out] at h4
      rw [List.take_of_length_le (by rw [HL.out]; exact Nat.le_refl _)] at h3
      have hp32 : 2 ^ s ≤ 2 ^ 31 := Nat.pow_le_pow_right (by decide) (by omega)
      have H4 := hid h4
      have HV := hid h3
      have HQ := hid h2
      have HQL := hid h1
      clear h1 h2 h3 h4 hI
      go_wp2
      go_ret
      rw [HNN.out]
      refine ⟨g, q ++ [c], rfl, by rw [HG.out]; exact Nat.le_refl _, H4.out.win, HQ.out.append (Dg.one (by unfold B32; omega)), ?_, HBm.out.trans (H4.out.below (by rw [HG.out]; exact Nat.le_refl _))⟩
      rw [val_snoc, HQL.out]; exact HV.out

end Go.Proofs.Ytaenegcnobindab
