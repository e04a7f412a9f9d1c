/-
  Walks: subRows.
-/
import Derived.Test.YtaenegcnobindabW27
import Derived.Test.YtaenegcnobindabW9
set_option linter.unusedVariables false
set_option linter.unusedSimpArgs false
namespace Go.Proofs.Ytaenegcnobindab
open Go.RowKit

theorem subStep {B P q c vl vl' x y d b : Nat} (h : vl + P * c = q + vl') (hs : x + B * b = d + y + c) : vl + P * x + P * B * b = q + P * d + (vl' + P * y) := by
  have h2 : P * (x + B * b) = P * (d + y + c) := by rw [hs]
  rw [Nat.mul_add, Nat.mul_add, Nat.mul_add, ← Nat.mul_assoc] at h2
  omega
theorem sub_end {N vl vl' q b : Nat} (h : vl + N * b = q + vl') (hq : q < N) (hb : b ≤ 1) (hv : vl' ≤ vl) : q = vl - vl' := by
  have : b = 0 ∨ b = 1 := by omega
  rcases this with rfl | rfl
  · rw [Nat.mul_zero] at h; omega
  · rw [Nat.mul_one] at h; omega

set_option maxHeartbeats 2000000 in
theorem subRows_any (ao ao' : Option Addr) (n cap n' cap' : Nat) (l l' : List Nat) (w : World) (R : Row .u32 B32 w ao n cap l) (R' : Row .u32 B32 w ao' n' cap' l') (hs : n ≤ 1000) (hle : n' ≤ n) (hv : val B32 l' ≤ val B32 l) :
    Calls Try.prog 30 #[.slice ao n cap, .slice ao' n' cap'] w fun e w' => ∃ a2 c2 L, e = .returned (.slice a2 n c2) ∧ Row .u32 B32 w' a2 n c2 L ∧ val B32 L = val B32 l - val B32 l' ∧ Below w.heap.size w w' := by
  have HR := hid R
  have HR' := hid R'
  have HL := hid R.len
  have HL' := hid R'.len
  have HD := hid R.dg
  have HV := hid hv
  clear R R' hv
  go_enter Try.func30, Try.ntmps30
  go_wp2_with fail
  refine (clone_any ao n cap l w HR.out hs).mono ?_
  rintro e w1 ⟨a1, cap1, rfl, hO, b1⟩
  have HO := hid hO
  have HB1 := hid b1
  have hmx := hO.row.most
  have hft := hO.row.fits
  unfold maxLen at hmx
  have RB := hid (HR'.out.below b1)
  by_cases hn0 : n = 0
  · subst hn0
    have h' : n' = 0 := by omega
    subst h'
    clear hO b1
    go_wp2
    go_loopw [6, 13] (fun c i wr => i = .int .i64 0 ∧ wr = w1) (fun _ i _ => 0)
    case atStart => exact ⟨rfl, rfl⟩
    case round =>
      obtain ⟨rfl, hwr⟩ := hrel
      rw [hwr]
      go_wp2
      go_ret
      have hl0 : l' = [] := List.length_eq_zero_iff.1 HL'.out
      exact ⟨a1, cap1, l, rfl, HO.out.row, by rw [hl0]; simp [val], HB1.out⟩
  · obtain ⟨g, cur, ha1, hg, hW⟩ := hO.own.resolve_left hn0
    subst ha1
    have HW := hid hW
    have HG := hid hg
    have hne : n' ≠ 0 → ∀ ad, ao' = some ad → ad.block ≠ g := fun h0 ad h => by
      subst h
      obtain ⟨b', o', hao, hl', _⟩ := HR'.out.rd.some (by rw [HL'.out]; omega)
      cases hao
      simp; omega
    have HNE := hid hne
    clear hO b1 hW hg hne
    go_wp2
    go_loopw [6, 13] (fun c i wr => ∃ m : Nat, ∃ cc : Nat, ∃ q : List Nat, m ≤ n ∧ i = .int .i64 m ∧ c = .int .u32 cc ∧ cc ≤ 1 ∧ Hid (q.length = m ∧ Dg B32 q ∧ val B32 (l.take m) + B32 ^ m * cc = val B32 q + val B32 (l'.take m) ∧ Onto .u32 56 g 0 n w1 wr cur (q ++ l.drop m))) (fun _ i _ => n - (intOf i).toNat)
    case atStart => exact ⟨0, 0, [], Nat.zero_le _, rfl, rfl, by omega, rfl, Dg.nil _, by simp [val], by simpa using HW.out.onto⟩
    case round =>
      obtain ⟨m, cc, q, hm, rfl, rfl, hcc, hI⟩ := hrel
      by_cases hlt : m < n
      · obtain ⟨x, hx⟩ : ∃ x, x = l.getD m 0 := ⟨_, rfl⟩
        obtain ⟨y, hy⟩ : ∃ y, y = l'.getD m 0 := ⟨_, rfl⟩
        have hll : m < l.length := by rw [HL.out]; exact hlt
        have hxb : x < B32 := by rw [hx]; exact HD.out.getD _ hll
        have hyb : y < B32 := by rw [hy]; exact getD_lt HR'.out.dg (by decide) _
        have hc : wr.cell? ⟨g, m, none⟩ = some (.int .u32 x) := by
          have := hI.out.2.2.2.cell (i := m) hlt
          rw [List.getD_eq_getElem?_getD, List.getElem?_append_right (by rw [hI.out.1]; omega), hI.out.1, Nat.sub_self, List.getElem?_drop, Nat.add_zero, ← List.getD_eq_getElem?_getD, ← hx, Nat.zero_add] at this
          exact this
        have hfz : wr.frozen? ⟨g, m, none⟩ = false := hI.out.2.2.2.frozen _
        have HX := hid hx
        have HY := hid hy
        have HLL := hid hll
        obtain ⟨Q, hQ⟩ : ∃ Q, Q = (x + B32 - y - cc) % B32 := ⟨_, rfl⟩
        obtain ⟨D, hD⟩ : ∃ D : Nat, D = if x < y + cc then 1 else 0 := ⟨_, rfl⟩
        have HC : Hid (∀ w, Calls Try.prog 50 #[.int .u32 x, .int .u32 y, .int .u32 cc] w fun e w' => e = .returned (.tuple #[.int .u32 Q, .int .u32 D]) ∧ w' = w) := fun w => by rw [hQ, hD]; exact sub32_any x y cc hxb hyb hcc w
        have hQb : Q < B32 := by rw [hQ]; exact Nat.mod_lt _ (by decide)
        have hDb : D ≤ 1 := by rw [hD]; split <;> omega
        have hst : x + B32 * D = Q + y + cc := by
          rw [hQ, hD]; unfold B32 at *; split <;> omega
        have HQB := hid hQb
        have HST := hid hst
        clear hx hll hQ hD hQb hst
        have fin : Hid (∀ wx, wx = wr → (∃ m_1 cc : Nat, ∃ q : List Nat, m_1 ≤ n ∧ Value.int .i64 ((m : Int) + 1) = .int .i64 m_1 ∧ Value.int .u32 D = .int .u32 cc ∧ cc ≤ 1 ∧ Hid (q.length = m_1 ∧ Dg B32 q ∧ val B32 (l.take m_1) + B32 ^ m_1 * cc = val B32 q + val B32 (l'.take m_1) ∧ Onto .u32 56 g 0 n w1 (wx.setCell ⟨g, m, none⟩ (.int .u32 Q)) cur (q ++ l.drop m_1)))) := by
          rintro wx rfl
          obtain ⟨h1, h2, h3, h4⟩ := hI.out
          refine ⟨m + 1, D, q ++ [Q], by omega, by go_num, rfl, hDb, ?_, ?_, ?_, ?_⟩
          · simp [h1]
          · exact h2.append (Dg.one HQB.out)
          · rw [val_snoc, h1, val_take_succ B32 l m HLL.out, val_take_next B32 l' m, ← HX.out, ← HY.out, Nat.pow_succ]
            exact subStep h3 HST.out
          · rw [← set_append_drop h1 HLL.out]
            have := h4.store hlt Q
            rw [Nat.zero_add] at this
            exact this
        by_cases hlt' : m < n'
        · have e1 : decide ((m : Int) < n') = true := by simp; omega
          obtain ⟨b', o', hao, hl', hc'⟩ := RB.out.rd.some (by rw [HL'.out]; omega)
          have hbg : b' ≠ g := HNE.out (by omega) _ hao
          subst hao
          have hcy : wr.cell? ⟨b', o' + m, none⟩ = some (.int .u32 y) := by
            rw [hI.out.2.2.2.other hbg, hc' m (by rw [HL'.out]; exact hlt'), hy]
          clear hy hc' hl'
          go_wp2_with (go_at_call 50; refine (HC.out _).mono ?_; rintro e wz ⟨rfl, hwz⟩; rw [hwz])
          exact ⟨fin.out _ rfl, by simp [intOf] <;> omega⟩
        · have e1 : decide ((m : Int) < n') = false := by simp; omega
          have hy0 : y = 0 := by
            rw [hy, List.getD_eq_getElem?_getD, List.getElem?_eq_none (by rw [HL'.out]; omega)]; rfl
          clear hy
          subst hy0
          go_wp2_with (go_at_call 50; refine (HC.out _).mono ?_; rintro e wz ⟨rfl, hwz⟩; rw [hwz])
          exact ⟨fin.out _ rfl, by simp [intOf] <;> omega⟩
      · obtain rfl : m = n := by omega
        go_wp2
        go_ret
        obtain ⟨h1, h2, h3, h4⟩ := hI.out
        rw [List.drop_eq_nil_of_le (by rw [HL.out]; omega), List.append_nil] at h4
        rw [List.take_of_length_le (l := l) (by rw [HL.out]; omega), List.take_of_length_le (l := l') (by rw [HL'.out]; omega)] at h3
        refine ⟨_, cap1, q, rfl, h4.row_ h2 hft (by unfold maxLen; omega), ?_, Bb HB1.out (h4.below HG.out) (by exact Nat.le_refl _)⟩
        refine sub_end h3 ?_ hcc HV.out
        have := val_lt h2
        rw [h1] at this
        exact this

end Go.Proofs.Ytaenegcnobindab
