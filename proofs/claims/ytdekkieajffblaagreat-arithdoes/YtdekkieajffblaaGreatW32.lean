/-
  Walks, of the document's answer: minus.
-/
import Derived.Test.YtdekkieajffblaaGreatW30
import Derived.Test.YtdekkieajffblaaGreatW25
set_option linter.unusedVariables false
set_option linter.unusedSimpArgs false
namespace Go.Proofs.YtdekkieajffblaaGreat
open Go.RowKit

set_option maxHeartbeats 4000000 in
theorem rplus_any (ao ao' : Option Addr) (n cap n' cap' : Nat) (l l' : List Nat) (w : World) (R : Row .u8 256 w ao n cap l) (R' : Row .u8 256 w ao' n' cap' l') (hs : n ≤ 1000) (hs' : n' ≤ 1000) :
    Calls Tryz.prog 98 #[.slice ao n cap, .slice ao' n' cap'] w fun e w' => ∃ m a2 c2 L, e = .returned (.slice a2 m c2) ∧ (m ≤ n + 1 ∨ m ≤ n' + 1) ∧ Own .u8 5 256 w.heap.size w' a2 m c2 L ∧ val 256 L = val 256 l + val 256 l' ∧ Below w.heap.size w w' := by
  have HR := hid R
  have HR' := hid R'
  have HL := hid R.len
  have HL' := hid R'.len
  clear R R'
  obtain ⟨M, hM1, hM2, hM3⟩ : ∃ M, n ≤ M ∧ n' ≤ M ∧ (M = n ∨ M = n') := by
    by_cases h : n ≤ n'
    · exact ⟨n', h, Nat.le_refl _, .inr rfl⟩
    · exact ⟨n, Nat.le_refl _, by omega, .inl rfl⟩
  go_enter Tryz.func98, Tryz.ntmps98
  go_wp2
  go_loopw [5, 6, 7] (fun v c i wr => ∃ k cc : Nat, ∃ q : List Nat, k ≤ M + 1 ∧ i = .int .i64 k ∧ c = .int .i64 cc ∧ cc ≤ 1 ∧ (M < k → cc = 0) ∧ Hid (q.length = k ∧ Dg 256 q ∧ val 256 q + 256 ^ k * cc = val 256 (l.take k) + val 256 (l'.take k)) ∧ Hid (wr.ownsRow w.heap.size 5 1 v k (cs .u8 q)) ∧ Hid (Below w.heap.size w wr)) (fun _ _ i _ => M + 1 - (intOf i).toNat)
  case atStart => exact ⟨0, 0, [], Nat.zero_le _, rfl, rfl, by omega, fun _ => rfl, ⟨rfl, Dg.nil _, by simp [val]⟩, by unfold Hid; simpa [cs] using World.ownsRow_nil _ _ _ _, Below.refl _ _⟩
  case round =>
    obtain ⟨k, cc, q, hk, rfl, rfl, hcc, hz, hI, hOwn, hBel⟩ := hrel
    have HZ := hid hz
    clear hz
    have hsz : Hid (w.heap.size ≤ wr.heap.size) := hBel.out.size
    obtain ⟨x, hx⟩ : ∃ x, x = l.getD k 0 := ⟨_, rfl⟩
    obtain ⟨y, hy⟩ : ∃ y, y = l'.getD k 0 := ⟨_, rfl⟩
    have hxb : x < 256 := by rw [hx]; exact getD_lt HR.out.dg (by decide) _
    have hyb : y < 256 := by rw [hy]; exact getD_lt HR'.out.dg (by decide) _
    obtain ⟨t, ht⟩ : ∃ t, t = x + y + cc := ⟨_, rfl⟩
    have HT := hid ht
    have HX := hid hx
    have HY := hid hy
    have fin0 : ∀ v w1, k ≤ M → (M < k + 1 → t / 256 = 0) → w1.ownsRow w.heap.size 5 1 v (k + 1) (cs .u8 (q ++ [t % 256])) → Below w.heap.size w w1 → (∃ k_1 cc : Nat, ∃ q : List Nat, k_1 ≤ M + 1 ∧ Value.int .i64 ((k : Int) + 1) = .int .i64 k_1 ∧ Value.int .i64 ((t / 256 : Nat) : Int) = .int .i64 cc ∧ cc ≤ 1 ∧ (M < k_1 → cc = 0) ∧ Hid (q.length = k_1 ∧ Dg 256 q ∧ val 256 q + 256 ^ k_1 * cc = val 256 (l.take k_1) + val 256 (l'.take k_1)) ∧ Hid (w1.ownsRow w.heap.size 5 1 v k_1 (cs .u8 q)) ∧ Hid (Below w.heap.size w w1)) := by
      intro v w1 hkM h0 ho hb
      obtain ⟨h1, h2, h3⟩ := hI.out
      refine ⟨k + 1, t / 256, q ++ [t % 256], by omega, by go_num, rfl, by omega, h0, ⟨by simp [h1], h2.append (Dg.one (Nat.mod_lt _ (by decide))), ?_⟩, ho, hb⟩
      rw [val_snoc, h1, val_take_next 256 l k, val_take_next 256 l' k, ← HX.out, ← HY.out, HT.out, Nat.pow_succ]
      exact addStep h3
    have HF := hid fin0
    clear fin0 ht
    by_cases ha : k < n <;> by_cases hb : k < n'
    · have fin : Hid (∀ v w1, w1.ownsRow w.heap.size 5 1 v (k + 1) (cs .u8 (q ++ [t % 256])) → Below w.heap.size w w1 → _) := fun v w1 => HF.out v w1 (by omega) (by omega)
      have e1 : decide ((k : Int) < n) = true := by simp; omega
      have e2 : decide ((k : Int) < n') = true := by simp; omega
      obtain ⟨b1, o1, hao1, hl1, hc1⟩ := HR.out.rd.some (by rw [HL.out]; omega)
      subst hao1
      have hcx : wr.cell? ⟨b1, o1 + k, none⟩ = some (.int .u8 x) := by
        rw [hBel.out.cell (p := ⟨b1, o1 + k, none⟩) hl1, hc1 k (by rw [HL.out]; omega), hx]
      clear hc1
      obtain ⟨b2, o2, hao2, hl2, hc2⟩ := HR'.out.rd.some (by rw [HL'.out]; omega)
      subst hao2
      have hcy : wr.cell? ⟨b2, o2 + k, none⟩ = some (.int .u8 y) := by
        rw [hBel.out.cell (p := ⟨b2, o2 + k, none⟩) hl2, hc2 k (by rw [HL'.out]; omega), hy]
      clear hc2
      clear hx hy
      go_wp2_with (at_builtin; refine app1 rfl _ _ 87 rfl w.heap.size 5 .u8 1 (by decide) Tryz.underlying87 info_u8 _ _ _ rfl (hOwn.out.alloc _) ⟨wr.heap.size, 0, none⟩ 1 (t % 256) rfl ?c0 (by omega) (by have := hsz.out; simp; omega) ?_; rotate_right; intro g cap' w1 hown hbel)
      case c0 => rw [cell_new]; simp; have := HT.out; omega
      have e9 : ((cc : Int) + x + y) / 256 = ((t / 256 : Nat) : Int) := by rw [HT.out]; omega
      first | rw [e9] | skip
      exact ⟨fin.out _ _ hown ((hBel.out.alloc hsz.out _).trans hbel), by simp [intOf] <;> omega⟩
    · have fin : Hid (∀ v w1, w1.ownsRow w.heap.size 5 1 v (k + 1) (cs .u8 (q ++ [t % 256])) → Below w.heap.size w w1 → _) := fun v w1 => HF.out v w1 (by omega) (by omega)
      have e1 : decide ((k : Int) < n) = true := by simp; omega
      have e2 : decide ((k : Int) < n') = false := by simp; omega
      obtain ⟨b1, o1, hao1, hl1, hc1⟩ := HR.out.rd.some (by rw [HL.out]; omega)
      subst hao1
      have hcx : wr.cell? ⟨b1, o1 + k, none⟩ = some (.int .u8 x) := by
        rw [hBel.out.cell (p := ⟨b1, o1 + k, none⟩) hl1, hc1 k (by rw [HL.out]; omega), hx]
      clear hc1
      have hy0 : y = 0 := by rw [hy, List.getD_eq_getElem?_getD, List.getElem?_eq_none (by rw [HL'.out]; omega)]; rfl
      clear hx hy
      subst hy0
      go_wp2_with (at_builtin; refine app1 rfl _ _ 87 rfl w.heap.size 5 .u8 1 (by decide) Tryz.underlying87 info_u8 _ _ _ rfl (hOwn.out.alloc _) ⟨wr.heap.size, 0, none⟩ 1 (t % 256) rfl ?c1 (by omega) (by have := hsz.out; simp; omega) ?_; rotate_right; intro g cap' w1 hown hbel)
      case c1 => rw [cell_new]; simp; have := HT.out; omega
      have e9 : ((cc : Int) + x) / 256 = ((t / 256 : Nat) : Int) := by rw [HT.out]; omega
      first | rw [e9] | skip
      exact ⟨fin.out _ _ hown ((hBel.out.alloc hsz.out _).trans hbel), by simp [intOf] <;> omega⟩
    · have fin : Hid (∀ v w1, w1.ownsRow w.heap.size 5 1 v (k + 1) (cs .u8 (q ++ [t % 256])) → Below w.heap.size w w1 → _) := fun v w1 => HF.out v w1 (by omega) (by omega)
      have e1 : decide ((k : Int) < n) = false := by simp; omega
      have e2 : decide ((k : Int) < n') = true := by simp; omega
      have hx0 : x = 0 := by rw [hx, List.getD_eq_getElem?_getD, List.getElem?_eq_none (by rw [HL.out]; omega)]; rfl
      obtain ⟨b2, o2, hao2, hl2, hc2⟩ := HR'.out.rd.some (by rw [HL'.out]; omega)
      subst hao2
      have hcy : wr.cell? ⟨b2, o2 + k, none⟩ = some (.int .u8 y) := by
        rw [hBel.out.cell (p := ⟨b2, o2 + k, none⟩) hl2, hc2 k (by rw [HL'.out]; omega), hy]
      clear hc2
      clear hx hy
      subst hx0
      go_wp2_with (at_builtin; refine app1 rfl _ _ 87 rfl w.heap.size 5 .u8 1 (by decide) Tryz.underlying87 info_u8 _ _ _ rfl (hOwn.out.alloc _) ⟨wr.heap.size, 0, none⟩ 1 (t % 256) rfl ?c2 (by omega) (by have := hsz.out; simp; omega) ?_; rotate_right; intro g cap' w1 hown hbel)
      case c2 => rw [cell_new]; simp; have := HT.out; omega
      have e9 : ((cc : Int) + y) / 256 = ((t / 256 : Nat) : Int) := by rw [HT.out]; omega
      first | rw [e9] | skip
      exact ⟨fin.out _ _ hown ((hBel.out.alloc hsz.out _).trans hbel), by simp [intOf] <;> omega⟩
    · by_cases hc0 : cc = 0
      · have e1 : decide ((k : Int) < n) = false := by simp; omega
        have e2 : decide ((k : Int) < n') = false := by simp; omega
        subst hc0
        clear hx hy
        obtain ⟨ao2, cap2, hu, hO⟩ := own_of hOwn.out hI.out.2.1
        subst hu
        have HO := hid hO
        clear hO
        go_wp2
        go_ret
        obtain ⟨h1, h2, h3⟩ := hI.out
        rw [List.take_of_length_le (l := l) (by rw [HL.out]; omega), List.take_of_length_le (l := l') (by rw [HL'.out]; omega), Nat.mul_zero, Nat.add_zero] at h3
        exact ⟨k, ao2, cap2, rfl, by omega, q, HO.out, h3, hBel.out⟩
      · have ec : decide ((0 : Int) < cc) = true := by simp; omega
        have hkM : k ≤ M := by have := HZ.out; omega
        have fin : Hid (∀ v w1, w1.ownsRow w.heap.size 5 1 v (k + 1) (cs .u8 (q ++ [t % 256])) → Below w.heap.size w w1 → _) := fun v w1 => HF.out v w1 (by have := HZ.out; omega) (fun _ => by rw [HT.out, show x = 0 by rw [hx, List.getD_eq_getElem?_getD, List.getElem?_eq_none (by rw [HL.out]; omega)]; rfl, show y = 0 by rw [hy, List.getD_eq_getElem?_getD, List.getElem?_eq_none (by rw [HL'.out]; omega)]; rfl]; omega)
        have e1 : decide ((k : Int) < n) = false := by simp; omega
        have e2 : decide ((k : Int) < n') = false := by simp; omega
        have hx0 : x = 0 := by rw [hx, List.getD_eq_getElem?_getD, List.getElem?_eq_none (by rw [HL.out]; omega)]; rfl
        have hy0 : y = 0 := by rw [hy, List.getD_eq_getElem?_getD, List.getElem?_eq_none (by rw [HL'.out]; omega)]; rfl
        clear hx hy
        subst hx0
        subst hy0
        go_wp2_with (at_builtin; refine app1 rfl _ _ 87 rfl w.heap.size 5 .u8 1 (by decide) Tryz.underlying87 info_u8 _ _ _ rfl (hOwn.out.alloc _) ⟨wr.heap.size, 0, none⟩ 1 (t % 256) rfl ?c3 (by omega) (by have := hsz.out; simp; omega) ?_; rotate_right; intro g cap' w1 hown hbel)
        case c3 => rw [cell_new]; simp; have := HT.out; omega
        have e9 : ((cc : Int)) / 256 = ((t / 256 : Nat) : Int) := by rw [HT.out]; omega
        first | rw [e9] | skip
        exact ⟨fin.out _ _ hown ((hBel.out.alloc hsz.out _).trans hbel), by simp [intOf] <;> omega⟩

end Go.Proofs.YtdekkieajffblaaGreat

set_option linter.unusedVariables false
set_option linter.unusedSimpArgs false
namespace Go.Proofs.YtdekkieajffblaaGreat
open Go.RowKit

theorem and_255i (z : Int) (h1 : -9223372036854775808 ≤ z) (h2 : z < 9223372036854775808) : bits .and .i64 z 255 = z % 256 := by
  have h3 : (BitVec.ofInt 64 z).toNat = (z % 18446744073709551616).toNat := by
    rw [BitVec.toNat_ofInt]; rfl
  show IntKind.i64.wrap ((BitVec.ofInt 64 z &&& BitVec.ofInt 64 255).toNat : Int) = _
  rw [BitVec.toNat_and, h3]
  have h4 : (BitVec.ofInt 64 255).toNat = 2 ^ 8 - 1 := by decide
  rw [h4, Nat.and_two_pow_sub_one_eq_mod, IntKind.wrap_i64]
  omega

set_option maxHeartbeats 4000000 in
theorem rminus_any (ao ao' : Option Addr) (n cap n' cap' : Nat) (l l' : List Nat) (w : World) (R : Row .u8 256 w ao n cap l) (R' : Row .u8 256 w ao' n' cap' l') (hs : n ≤ 1000) (hle : n' ≤ n) (hv : val 256 l' ≤ val 256 l) :
    Calls Tryz.prog 99 #[.slice ao n cap, .slice ao' n' cap'] w fun e w' => ∃ m a2 c2 L, e = .returned (.slice a2 m c2) ∧ m ≤ n ∧ Own .u8 5 256 w.heap.size w' a2 m c2 L ∧ Tr L ∧ val 256 L = val 256 l - val 256 l' ∧ Below w.heap.size w w' := by
  have HR := hid R
  have HR' := hid R'
  have HL := hid R.len
  have HL' := hid R'.len
  have HV := hid hv
  clear R R' hv
  go_enter Tryz.func99, Tryz.ntmps99
  go_wp2
  go_loopw [5, 6, 7] (fun v c i wr => ∃ k bb : Nat, ∃ c0 : Int, ∃ q : List Nat, k ≤ n ∧ i = .int .i64 k ∧ c = .int .i64 c0 ∧ bb ≤ 1 ∧ c0 = - (bb : Int) ∧ Hid (q.length = k ∧ Dg 256 q ∧ val 256 (l.take k) + 256 ^ k * bb = val 256 q + val 256 (l'.take k)) ∧ Hid (wr.ownsRow w.heap.size 5 1 v k (cs .u8 q)) ∧ Hid (Below w.heap.size w wr)) (fun _ _ i _ => n - (intOf i).toNat)
  case atStart => exact ⟨0, 0, 0, [], Nat.zero_le _, rfl, rfl, by omega, rfl, ⟨rfl, Dg.nil _, by simp [val]⟩, by unfold Hid; simpa [cs] using World.ownsRow_nil _ _ _ _, Below.refl _ _⟩
  case round =>
    obtain ⟨k, bb, c0, q, hk, rfl, rfl, hbb, hc0, hI, hOwn, hBel⟩ := hrel
    have hsz : Hid (w.heap.size ≤ wr.heap.size) := hBel.out.size
    by_cases ha : k < n
    · obtain ⟨x, hx⟩ : ∃ x, x = l.getD k 0 := ⟨_, rfl⟩
      obtain ⟨y, hy⟩ : ∃ y, y = l'.getD k 0 := ⟨_, rfl⟩
      have hxb : x < 256 := by rw [hx]; exact getD_lt HR.out.dg (by decide) _
      have hyb : y < 256 := by rw [hy]; exact getD_lt HR'.out.dg (by decide) _
      obtain ⟨d, hd⟩ : ∃ d : Nat, d = ((c0 + x - y) % 256).toNat := ⟨_, rfl⟩
      obtain ⟨b2, hb2⟩ : ∃ b2 : Nat, b2 = if x < y + bb then 1 else 0 := ⟨_, rfl⟩
      obtain ⟨c1, hc1⟩ : ∃ c1 : Int, c1 = - (b2 : Int) := ⟨_, rfl⟩
      have HDV : Hid ((d : Int) = (c0 + x - y) % 256) := by unfold Hid; omega
      have HDB : Hid (d < 256) := by unfold Hid; omega
      have HC1 : Hid ((c0 + x - y) / 256 = c1) := by unfold Hid; rw [hc1, hb2]; split <;> omega
      have hb21 : b2 ≤ 1 := by rw [hb2]; split <;> omega
      have HST : Hid (x + 256 * b2 = d + y + bb) := by unfold Hid; rw [hb2]; split <;> omega
      have HX := hid hx
      have HY := hid hy
      have hc0b : -1 ≤ c0 ∧ c0 ≤ 0 := by omega
      obtain ⟨hc0l, hc0u⟩ := hc0b
      have hc1b : -1 ≤ c1 ∧ c1 ≤ 0 := by omega
      obtain ⟨hc1l, hc1u⟩ := hc1b
      have HCB := hid hc1
      have fin0 : ∀ v w1, w1.ownsRow w.heap.size 5 1 v (k + 1) (cs .u8 (q ++ [d])) → Below w.heap.size w w1 → (∃ k_1 bb : Nat, ∃ c0 : Int, ∃ q : List Nat, k_1 ≤ n ∧ Value.int .i64 ((k : Int) + 1) = .int .i64 k_1 ∧ Value.int .i64 c1 = .int .i64 c0 ∧ bb ≤ 1 ∧ c0 = - (bb : Int) ∧ Hid (q.length = k_1 ∧ Dg 256 q ∧ val 256 (l.take k_1) + 256 ^ k_1 * bb = val 256 q + val 256 (l'.take k_1)) ∧ Hid (w1.ownsRow w.heap.size 5 1 v k_1 (cs .u8 q)) ∧ Hid (Below w.heap.size w w1)) := by
        intro v w1 ho hb
        obtain ⟨h1, h2, h3⟩ := hI.out
        refine ⟨k + 1, b2, c1, q ++ [d], by omega, by go_num, rfl, hb21, HCB.out, ⟨by simp [h1], h2.append (Dg.one HDB.out), ?_⟩, ho, hb⟩
        rw [val_snoc, h1, val_take_next 256 l k, val_take_next 256 l' k, ← HX.out, ← HY.out, Nat.pow_succ]
        exact subStep h3 HST.out
      have fin := hid fin0
      clear fin0 hd hb2 hc1 hc0
      by_cases hb : k < n'
      · have e1 : decide ((k : Int) < n) = true := by simp; omega
        have e2 : decide ((k : Int) < n') = true := by simp; omega
        obtain ⟨b1, o1, hao1, hl1, hc1⟩ := HR.out.rd.some (by rw [HL.out]; omega)
        subst hao1
        have hcx : wr.cell? ⟨b1, o1 + k, none⟩ = some (.int .u8 x) := by
          rw [hBel.out.cell (p := ⟨b1, o1 + k, none⟩) hl1, hc1 k (by rw [HL.out]; omega), hx]
        clear hc1
        obtain ⟨b2, o2, hao2, hl2, hc2⟩ := HR'.out.rd.some (by rw [HL'.out]; omega)
        subst hao2
        have hcy : wr.cell? ⟨b2, o2 + k, none⟩ = some (.int .u8 y) := by
          rw [hBel.out.cell (p := ⟨b2, o2 + k, none⟩) hl2, hc2 k (by rw [HL'.out]; omega), hy]
        clear hc2
        clear hx hy
        have hand : bits .and .i64 (c0 + x - y) 255 = (d : Int) := by rw [and_255i _ (by omega) (by omega)]; have := HDV.out; omega
        have hdb : d < 256 := HDB.out
        have e9 : (c0 + x - y) / 256 = c1 := by have := HC1.out; omega
        go_wp2_with (at_builtin; refine app1 rfl _ _ 87 rfl w.heap.size 5 .u8 1 (by decide) Tryz.underlying87 info_u8 _ _ _ rfl (hOwn.out.alloc _) ⟨wr.heap.size, 0, none⟩ 1 d rfl ?c0 (by omega) (by have := hsz.out; simp; omega) ?_; rotate_right; intro g cap' w1 hown hbel)
        case c0 => rw [cell_new] <;> first | rfl | (simp; done) | (simp; omega)
        first | rw [e9] | skip
        exact ⟨fin.out _ _ hown ((hBel.out.alloc hsz.out _).trans hbel), by simp [intOf] <;> omega⟩
      · have e1 : decide ((k : Int) < n) = true := by simp; omega
        have e2 : decide ((k : Int) < n') = false := by simp; omega
        obtain ⟨b1, o1, hao1, hl1, hc1⟩ := HR.out.rd.some (by rw [HL.out]; omega)
        subst hao1
        have hcx : wr.cell? ⟨b1, o1 + k, none⟩ = some (.int .u8 x) := by
          rw [hBel.out.cell (p := ⟨b1, o1 + k, none⟩) hl1, hc1 k (by rw [HL.out]; omega), hx]
        clear hc1
        have hy0 : y = 0 := by rw [hy, List.getD_eq_getElem?_getD, List.getElem?_eq_none (by rw [HL'.out]; omega)]; rfl
        clear hx hy
        subst hy0
        have hand : bits .and .i64 (c0 + x) 255 = (d : Int) := by rw [and_255i _ (by omega) (by omega)]; have := HDV.out; omega
        have hdb : d < 256 := HDB.out
        have e9 : (c0 + x) / 256 = c1 := by have := HC1.out; omega
        go_wp2_with (at_builtin; refine app1 rfl _ _ 87 rfl w.heap.size 5 .u8 1 (by decide) Tryz.underlying87 info_u8 _ _ _ rfl (hOwn.out.alloc _) ⟨wr.heap.size, 0, none⟩ 1 d rfl ?c1 (by omega) (by have := hsz.out; simp; omega) ?_; rotate_right; intro g cap' w1 hown hbel)
        case c1 => rw [cell_new] <;> first | rfl | (simp; done) | (simp; omega)
        first | rw [e9] | skip
        exact ⟨fin.out _ _ hown ((hBel.out.alloc hsz.out _).trans hbel), by simp [intOf] <;> omega⟩
    · have e1 : decide ((k : Int) < n) = false := by simp; omega
      obtain rfl : k = n := by omega
      obtain ⟨ao1, cap1, hu, hO⟩ := own_of hOwn.out hI.out.2.1
      subst hu
      have HO := hid hO
      clear hO
      go_wp2_with fail
      refine (rtrim_any ao1 k cap1 _ wr HO.out.row (by omega)).mono ?_
      rintro e w1 ⟨m', ao2, cap2, hm', rfl, hO2, ht, hv, hb⟩
      have H2 := hid hO2
      have H3 := hid ht
      have H4 := hid hv
      have H5 := hid hb
      clear hO2 ht hv hb
      go_wp2
      go_ret
      obtain ⟨h1, h2, h3⟩ := hI.out
      rw [List.take_of_length_le (l := l) (by rw [HL.out]; omega), List.take_of_length_le (l := l') (by rw [HL'.out]; omega)] at h3
      have hlt := val_lt h2
      rw [h1] at hlt
      have hval := sub_end h3 hlt hbb HV.out
      exact ⟨m', ao2, cap2, _, rfl, hm', H2.out.base hBel.out.size, H3.out, by rw [H4.out]; exact hval, Bt hBel.out H5.out⟩

end Go.Proofs.YtdekkieajffblaaGreat
