/-
  Walks: addInto, addRows.
-/
import Derived.Test.YtaenegcnobindabW26
import Derived.Test.YtaenegcnobindabW10
set_option linter.unusedVariables false
set_option linter.unusedSimpArgs false
namespace Go.Proofs.Ytaenegcnobindab
open Go.RowKit

theorem val_take_next (B : Nat) (l : List Nat) (m : Nat) : val B (l.take (m + 1)) = val B (l.take m) + B ^ m * l.getD m 0 := by
  by_cases h : m < l.length
  · exact val_take_succ B l m h
  · rw [List.take_of_length_le (by omega), List.take_of_length_le (by omega), List.getD_eq_getElem?_getD, List.getElem?_eq_none (by omega)]
    simp
theorem getD_lt {B : Nat} {l : List Nat} (h : Dg B l) (hB : 0 < B) (m : Nat) : l.getD m 0 < B := by
  by_cases hm : m < l.length
  · exact h.getD _ hm
  · rw [List.getD_eq_getElem?_getD, List.getElem?_eq_none (by omega)]; exact hB
theorem addStep {B P q c vl vl' x y : Nat} (h : q + P * c = vl + vl') : q + P * ((x + y + c) % B) + P * B * ((x + y + c) / B) = vl + P * x + (vl' + P * y) := by
  have h1 := Nat.div_add_mod (x + y + c) B
  have h2 : P * ((x + y + c) % B) + P * B * ((x + y + c) / B) = P * (x + y + c) := by
    rw [Nat.mul_assoc, ← Nat.mul_add, Nat.add_comm ((x + y + c) % B), h1]
  rw [Nat.mul_add, Nat.mul_add] at h2
  omega

set_option maxHeartbeats 2000000 in
theorem addInto_any (g o n cap : Nat) (cur : Array Value) (l : List Nat) (ao' : Option Addr) (n' cap' : Nat) (l' : List Nat) (w : World) (W : Win .u32 56 w g o n cur l) (hdg : Dg B32 l) (hn : n ≤ maxLen)
    (R' : Row .u32 B32 w ao' n' cap' l') (hne : n' ≠ 0 → ∀ ad, ao' = some ad → ad.block ≠ g) :
    Calls Try.prog 47 #[.slice (some ⟨g, o, none⟩) n cap, .slice ao' n' cap'] w fun e w' => e = .returned (.tuple #[]) ∧ ∃ L c, Onto .u32 56 g o n w w' cur L ∧ Dg B32 L ∧ c ≤ 1 ∧ val B32 L + B32 ^ n * c = val B32 l + val B32 (l'.take n) := by
  have HW := hid W
  have HD := hid hdg
  have HL := hid W.len
  have HR' := hid R'
  have HL' := hid R'.len
  have HNE := hid hne
  have hmx' := R'.most
  have hft' := R'.fits
  unfold maxLen at hn hmx'
  clear W hdg R' hne
  go_enter Try.func47, Try.ntmps47
  go_wp2
  go_loopw [4, 9] (fun c i wr => ∃ m : Nat, ∃ cc : Nat, ∃ q : List Nat, m ≤ n ∧ i = .int .i64 m ∧ c = .int .u32 cc ∧ cc ≤ 1 ∧ Hid (q.length = m ∧ Dg B32 q ∧ val B32 q + B32 ^ m * cc = val B32 (l.take m) + val B32 (l'.take m) ∧ Onto .u32 56 g o n w wr cur (q ++ l.drop m))) (fun _ i _ => n - (intOf i).toNat)
  case atStart => exact ⟨0, 0, [], Nat.zero_le _, rfl, rfl, by omega, rfl, Dg.nil _, by simp [val], by simpa using HW.out.onto⟩
  case round =>
    obtain ⟨m, cc, q, hm, rfl, rfl, hcc, hI⟩ := hrel
    by_cases hlt : m < n
    · obtain ⟨x, hx⟩ : ∃ x, x = l.getD m 0 := ⟨_, rfl⟩
      obtain ⟨y, hy⟩ : ∃ y, y = l'.getD m 0 := ⟨_, rfl⟩
      have hll : m < l.length := by rw [HL.out]; exact hlt
      have hxb : x < B32 := by rw [hx]; exact HD.out.getD _ hll
      have hyb : y < B32 := by rw [hy]; exact getD_lt HR'.out.dg (by decide) _
      have hc : wr.cell? ⟨g, o + m, none⟩ = some (.int .u32 x) := by
        have := hI.out.2.2.2.cell (i := m) hlt
        rw [List.getD_eq_getElem?_getD, List.getElem?_append_right (by rw [hI.out.1]; omega), hI.out.1, Nat.sub_self, List.getElem?_drop, Nat.add_zero, ← List.getD_eq_getElem?_getD, ← hx] at this
        exact this
      have hfz : wr.frozen? ⟨g, o + m, none⟩ = false := hI.out.2.2.2.frozen _
      have HX := hid hx
      have HY := hid hy
      have HLL := hid hll
      obtain ⟨Q, hQ⟩ : ∃ Q, Q = (x + y + cc) % B32 := ⟨_, rfl⟩
      obtain ⟨D, hD⟩ : ∃ D, D = (x + y + cc) / B32 := ⟨_, rfl⟩
      have HC : Hid (∀ w, Calls Try.prog 60 #[.int .u32 x, .int .u32 y, .int .u32 cc] w fun e w' => e = .returned (.tuple #[.int .u32 Q, .int .u32 D]) ∧ w' = w) := fun w => by rw [hQ, hD]; exact add32_any x y cc hxb hyb hcc w
      have HQ := hid hQ
      have HDD := hid hD
      have hQb : Q < B32 := by rw [hQ]; exact Nat.mod_lt _ (by decide)
      have hDb : D ≤ 1 := by unfold B32 at *; omega
      have HQB := hid hQb
      clear hx hll hQ hD hQb
      have fin : Hid (∀ wx, wx = wr → (∃ m_1 cc : Nat, ∃ q : List Nat, m_1 ≤ n ∧ Value.int .i64 ((m : Int) + 1) = .int .i64 m_1 ∧ Value.int .u32 D = .int .u32 cc ∧ cc ≤ 1 ∧ Hid (q.length = m_1 ∧ Dg B32 q ∧ val B32 q + B32 ^ m_1 * cc = val B32 (l.take m_1) + val B32 (l'.take m_1) ∧ Onto .u32 56 g o n w (wx.setCell ⟨g, o + m, none⟩ (.int .u32 Q)) cur (q ++ l.drop m_1)))) := by
        rintro wx rfl
        obtain ⟨h1, h2, h3, h4⟩ := hI.out
        refine ⟨m + 1, D, q ++ [Q], by omega, by go_num, rfl, hDb, ?_, ?_, ?_, ?_⟩
        · simp [h1]
        · exact h2.append (Dg.one HQB.out)
        · rw [val_snoc, h1, val_take_succ B32 l m HLL.out, val_take_next B32 l' m, ← HX.out, ← HY.out, HQ.out, HDD.out, Nat.pow_succ]
          exact addStep h3
        · rw [← set_append_drop h1 HLL.out]
          exact h4.store hlt _
      by_cases hlt' : m < n'
      · have e1 : decide ((m : Int) < n') = true := by simp; omega
        obtain ⟨b', o', hao, hl', hc'⟩ := HR'.out.rd.some (by rw [HL'.out]; omega)
        have hbg : b' ≠ g := HNE.out (by omega) _ hao
        subst hao
        have hcy : wr.cell? ⟨b', o' + m, none⟩ = some (.int .u32 y) := by
          rw [hI.out.2.2.2.other hbg, hc' m (by rw [HL'.out]; exact hlt'), hy]
        clear hy hc' hl'
        go_wp2_with (go_at_call 60; refine (HC.out _).mono ?_; rintro e wz ⟨rfl, hwz⟩; rw [hwz])
        exact ⟨fin.out _ rfl, by simp [intOf] <;> omega⟩
      · have e1 : decide ((m : Int) < n') = false := by simp; omega
        have hy0 : y = 0 := by
          rw [hy, List.getD_eq_getElem?_getD, List.getElem?_eq_none (by rw [HL'.out]; omega)]; rfl
        clear hy
        subst hy0
        go_wp2_with (go_at_call 60; refine (HC.out _).mono ?_; rintro e wz ⟨rfl, hwz⟩; rw [hwz])
        exact ⟨fin.out _ rfl, by simp [intOf] <;> omega⟩
    · obtain rfl : m = n := by omega
      go_wp2
      go_end0
      obtain ⟨h1, h2, h3, h4⟩ := hI.out
      refine ⟨rfl, q, cc, ?_, h2, hcc, ?_⟩
      · rw [List.drop_eq_nil_of_le (by rw [HL.out]; omega), List.append_nil] at h4; exact h4
      · rw [List.take_of_length_le (l := l) (by rw [HL.out]; omega)] at h3; exact h3

end Go.Proofs.Ytaenegcnobindab
