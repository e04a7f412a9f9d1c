/-
  Walks, of the document's answer: plus.
-/
import Derived.Test.YtaenegcnobindaaW30
import Derived.Test.YtaenegcnobindaaW25
set_option linter.unusedVariables false
set_option linter.unusedSimpArgs false
namespace Go.Proofs.Ytaenegcnobindaa
open Go.RowKit

set_option maxHeartbeats 4000000 in
theorem rplus_any (ao ao' : Option Addr) (n cap n' cap' : Nat) (l l' : List Nat) (w : World) (R : Row .u8 256 w ao n cap l) (R' : Row .u8 256 w ao' n' cap' l') (hs : n ≤ 1000) (hs' : n' ≤ 1000) :
    Calls Try.prog 43 #[.slice ao n cap, .slice ao' n' cap'] w fun e w' => ∃ m a2 c2 L, e = .returned (.slice a2 m c2) ∧ (m ≤ n + 1 ∨ m ≤ n' + 1) ∧ Own .u8 5 256 w.heap.size w' a2 m c2 L ∧ val 256 L = val 256 l + val 256 l' ∧ Below w.heap.size w w' := by
  have HR := hid R
  have HR' := hid R'
  have HL := hid R.len
  have HL' := hid R'.len
  clear R R'
  obtain ⟨M, hM1, hM2, hM3⟩ : ∃ M, n ≤ M ∧ n' ≤ M ∧ (M = n ∨ M = n') := by
    by_cases h : n ≤ n'
    · exact ⟨n', h, Nat.le_refl _, .inr rfl⟩
    · exact ⟨n, Nat.le_refl _, by omega, .inl rfl⟩
  go_enter Try.func43, Try.ntmps43
  go_wp2
  go_loopw [5, 6, 7] (fun v c i wr => ∃ k cc : Nat, ∃ q : List Nat, k ≤ M + 1 ∧ i = .int .i64 k ∧ c = .int .i64 cc ∧ cc ≤ 1 ∧ (M < k → cc = 0) ∧ Hid (q.length = k ∧ Dg 256 q ∧ val 256 q + 256 ^ k * cc = val 256 (l.take k) + val 256 (l'.take k)) ∧ Hid (wr.ownsRow w.heap.size 5 1 v k (cs .u8 q)) ∧ Hid (Below w.heap.size w wr)) (fun _ _ i _ => M + 1 - (intOf i).toNat)
  case atStart => exact ⟨0, 0, [], Nat.zero_le _, rfl, rfl, by omega, fun _ => rfl, ⟨rfl, Dg.nil _, by simp [val]⟩, by unfold Hid; simpa [cs] using World.ownsRow_nil _ _ _ _, Below.refl _ _⟩
  case round =>
    obtain ⟨k, cc, q, hk, rfl, rfl, hcc, hz, hI, hOwn, hBel⟩ := hrel
    have HZ := hid hz
    clear hz
    have hsz : Hid (w.heap.size ≤ wr.heap.size) := hBel.out.size
    obtain ⟨x, hx⟩ : ∃ x, x = l.getD k 0 := ⟨_, rfl⟩
    obtain ⟨y, hy⟩ : ∃ y, y = l'.getD k 0 := ⟨_, rfl⟩
    have hxb : x < 256 := by rw [hx]; exact getD_lt HR.out.dg (by decide) _
    have hyb : y < 256 := by rw [hy]; exact getD_lt HR'.out.dg (by decide) _
    obtain ⟨t, ht⟩ : ∃ t, t = x + y + cc := ⟨_, rfl⟩
    have HT := hid ht
    have HX := hid hx
    have HY := hid hy
    have fin0 : ∀ v w1, k ≤ M → (M < k + 1 → t / 256 = 0) → w1.ownsRow w.heap.size 5 1 v (k + 1) (cs .u8 (q ++ [t % 256])) → Below w.heap.size w w1 → (∃ k_1 cc : Nat, ∃ q : List Nat, k_1 ≤ M + 1 ∧ Value.int .i64 ((k : Int) + 1) = .int .i64 k_1 ∧ Value.int .i64 ((t / 256 : Nat) : Int) = .int .i64 cc ∧ cc ≤ 1 ∧ (M < k_1 → cc = 0) ∧ Hid (q.length = k_1 ∧ Dg 256 q ∧ val 256 q + 256 ^ k_1 * cc = val 256 (l.take k_1) + val 256 (l'.take k_1)) ∧ Hid (w1.ownsRow w.heap.size 5 1 v k_1 (cs .u8 q)) ∧ Hid (Below w.heap.size w w1)) := by
      intro v w1 hkM h0 ho hb
      obtain ⟨h1, h2, h3⟩ := hI.out
      refine ⟨k + 1, t / 256, q ++ [t % 256], by omega, by go_num, rfl, by omega, h0, ⟨by simp [h1], h2.append (Dg.one (Nat.mod_lt _ (by decide))), ?_⟩, ho, hb⟩
      rw [val_snoc, h1, val_take_next 256 l k, val_take_next 256 l' k, ← HX.out, ← HY.out, HT.out, Nat.pow_succ]
      exact addStep h3
    have HF := hid fin0
    clear fin0 ht
    by_cases ha : k < n <;> by_cases hb : k < n'
    · have fin : Hid (∀ v w1, w1.ownsRow w.heap.size 5 1 v (k + 1) (cs .u8 (q ++ [t % 256])) → Below w.heap.size w w1 → _) := fun v w1 => HF.out v w1 (by omega) (by omega)
      have e1 : decide ((k : Int) < n) = true := by simp; omega
      have e2 : decide ((k : Int) < n') = true := by simp; omega
      obtain ⟨b1, o1, hao1, hl1, hc1⟩ := HR.out.rd.some (by rw [HL.out]; omega)
      subst hao1
      have hcx : wr.cell? ⟨b1, o1 + k, none⟩ = some (.int .u8 x) := by
        rw [hBel.out.cell (p := ⟨b1, o1 + k, none⟩) hl1, hc1 k (by rw [HL.out]; omega), hx]
      clear hc1
      obtain ⟨b2, o2, hao2, hl2, hc2⟩ := HR'.out.rd.some (by rw [HL'.out]; omega)
      subst hao2
      have hcy : wr.cell? ⟨b2, o2 + k, none⟩ = some (.int .u8 y) := by
        rw [hBel.out.cell (p := ⟨b2, o2 + k, none⟩) hl2, hc2 k (by rw [HL'.out]; omega), hy]
      clear hc2
      clear hx hy
      go_wp2_with (at_builtin; refine app1 rfl _ _ 48 rfl w.heap.size 5 .u8 1 (by decide) Try.underlying48 info_u8 _ _ _ rfl (hOwn.out.alloc _) ⟨wr.heap.size, 0, none⟩ 1 (t % 256) rfl ?c0 (by omega) (by have := hsz.out; simp; omega) ?_; rotate_right; intro g cap' w1 hown hbel)
      case c0 => rw [cell_new]; simp; have := HT.out; omega
      have e9 : ((cc : Int) + x + y) / 256 = ((t / 256 : Nat) : Int) := by rw [HT.out]; omega
      first | rw [e9] | skip
      exact ⟨fin.out _ _ hown ((hBel.out.alloc hsz.out _).trans hbel), by simp [intOf] <;> omega⟩
    · have fin : Hid (∀ v w1, w1.ownsRow w.heap.size 5 1 v (k + 1) (cs .u8 (q ++ [t % 256])) → Below w.heap.size w w1 → _) := fun v w1 => HF.out v w1 (by omega) (by omega)
      have e1 : decide ((k : Int) < n) = true := by simp; omega
      have e2 : decide ((k : Int) < n') = false := by simp; omega
      obtain ⟨b1, o1, hao1, hl1, hc1⟩ := HR.out.rd.some (by rw [HL.out]; omega)
      subst hao1
      have hcx : wr.cell? ⟨b1, o1 + k, none⟩ = some (.int .u8 x) := by
        rw [hBel.out.cell (p := ⟨b1, o1 + k, none⟩) hl1, hc1 k (by rw [HL.out]; omega), hx]
      clear hc1
      have hy0 : y = 0 := by rw [hy, List.getD_eq_getElem?_getD, List.getElem?_eq_none (by rw [HL'.out]; omega)]; rfl
      clear hx hy
      subst hy0
      go_wp2_with (at_builtin; refine app1 rfl _ _ 48 rfl w.heap.size 5 .u8 1 (by decide) Try.underlying48 info_u8 _ _ _ rfl (hOwn.out.alloc _) ⟨wr.heap.size, 0, none⟩ 1 (t % 256) rfl ?c1 (by omega) (by have := hsz.out; simp; omega) ?_; rotate_right; intro g cap' w1 hown hbel)
      case c1 => rw [cell_new]; simp; have := HT.out; omega
      have e9 : ((cc : Int) + x) / 256 = ((t / 256 : Nat) : Int) := by rw [HT.out]; omega
      first | rw [e9] | skip
      exact ⟨fin.out _ _ hown ((hBel.out.alloc hsz.out _).trans hbel), by simp [intOf] <;> omega⟩
    · have fin : Hid (∀ v w1, w1.ownsRow w.heap.size 5 1 v (k + 1) (cs .u8 (q ++ [t % 256])) → Below w.heap.size w w1 → _) := fun v w1 => HF.out v w1 (by omega) (by omega)
      have e1 : decide ((k : Int) < n) = false := by simp; omega
      have e2 : decide ((k : Int) < n') = true := by simp; omega
      have hx0 : x = 0 := by rw [hx, List.getD_eq_getElem?_getD, List.getElem?_eq_none (by rw [HL.out]; omega)]; rfl
      obtain ⟨b2, o2, hao2, hl2, hc2⟩ := HR'.out.rd.some (by rw [HL'.out]; omega)
      subst hao2
      have hcy : wr.cell? ⟨b2, o2 + k, none⟩ = some (.int .u8 y) := by
        rw [hBel.out.cell (p := ⟨b2, o2 + k, none⟩) hl2, hc2 k (by rw [HL'.out]; omega), hy]
      clear hc2
      clear hx hy
      subst hx0
      go_wp2_with (at_builtin; refine app1 rfl _ _ 48 rfl w.heap.size 5 .u8 1 (by decide) Try.underlying48 info_u8 _ _ _ rfl (hOwn.out.alloc _) ⟨wr.heap.size, 0, none⟩ 1 (t % 256) rfl ?c2 (by omega) (by have := hsz.out; simp; omega) ?_; rotate_right; intro g cap' w1 hown hbel)
      case c2 => rw [cell_new]; simp; have := HT.out; omega
      have e9 : ((cc : Int) + y) / 256 = ((t / 256 : Nat) : Int) := by rw [HT.out]; omega
      first | rw [e9] | skip
      exact ⟨fin.out _ _ hown ((hBel.out.alloc hsz.out _).trans hbel), by simp [intOf] <;> omega⟩
    · by_cases hc0 : cc = 0
      · have e1 : decide ((k : Int) < n) = false := by simp; omega
        have e2 : decide ((k : Int) < n') = false := by simp; omega
        subst hc0
        clear hx hy
        obtain ⟨ao2, cap2, hu, hO⟩ := own_of hOwn.out hI.out.2.1
        subst hu
        have HO := hid hO
        clear hO
        go_wp2
        go_ret
        obtain ⟨h1, h2, h3⟩ := hI.out
        rw [List.take_of_length_le (l := l) (by rw [HL.out]; omega), List.take_of_length_le (l := l') (by rw [HL'.out]; omega), Nat.mul_zero, Nat.add_zero] at h3
        exact ⟨k, ao2, cap2, rfl, by omega, q, HO.out, h3, hBel.out⟩
      · have ec : decide ((0 : Int) < cc) = true := by simp; omega
        have hkM : k ≤ M := by have := HZ.out; omega
        have fin : Hid (∀ v w1, w1.ownsRow w.heap.size 5 1 v (k + 1) (cs .u8 (q ++ [t % 256])) → Below w.heap.size w w1 → _) := fun v w1 => HF.out v w1 (by have := HZ.out; omega) (fun _ => by rw [HT.out, show x = 0 by rw [hx, List.getD_eq_getElem?_getD, List.getElem?_eq_none (by rw [HL.out]; omega)]; rfl, show y = 0 by rw [hy, List.getD_eq_getElem?_getD, List.getElem?_eq_none (by rw [HL'.out]; omega)]; rfl]; omega)
        have e1 : decide ((k : Int) < n) = false := by simp; omega
        have e2 : decide ((k : Int) < n') = false := by simp; omega
        have hx0 : x = 0 := by rw [hx, List.getD_eq_getElem?_getD, List.getElem?_eq_none (by rw [HL.out]; omega)]; rfl
        have hy0 : y = 0 := by rw [hy, List.getD_eq_getElem?_getD, List.getElem?_eq_none (by rw [HL'.out]; omega)]; rfl
        clear hx hy
        subst hx0
        subst hy0
        go_wp2_with (at_builtin; refine app1 rfl _ _ 48 rfl w.heap.size 5 .u8 1 (by decide) Try.underlying48 info_u8 _ _ _ rfl (hOwn.out.alloc _) ⟨wr.heap.size, 0, none⟩ 1 (t % 256) rfl ?c3 (by omega) (by have := hsz.out; simp; omega) ?_; rotate_right; intro g cap' w1 hown hbel)
        case c3 => rw [cell_new]; simp; have := HT.out; omega
        have e9 : ((cc : Int)) / 256 = ((t / 256 : Nat) : Int) := by rw [HT.out]; omega
        first | rw [e9] | skip
        exact ⟨fin.out _ _ hown ((hBel.out.alloc hsz.out _).trans hbel), by simp [intOf] <;> omega⟩

end Go.Proofs.Ytaenegcnobindaa
