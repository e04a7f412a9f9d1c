/-
  Walks: subRows.
-/
import Derived.Test.YtdekkieajffblaaGreatW23
import Derived.Laws.BitsAllLaws
import Derived.Test.YtdekkieajffblaaGreatW15
import Derived.Test.YtdekkieajffblaaGreatW9
set_option linter.unusedVariables false
set_option linter.unusedSimpArgs false
namespace Go.Proofs.YtdekkieajffblaaGreat
open Go.RowKit

set_option maxHeartbeats 400000 in
theorem add32_any (x y c : Nat) (hx : x < B32) (hy : y < B32) (hc : c ≤ 1) (w : World) :
    Calls Tryz.prog 114 #[.int .u32 x, .int .u32 y, .int .u32 c] w fun e w' => e = .returned (.tuple #[.int .u32 ((x + y + c) % B32 : Nat), .int .u32 ((x + y + c) / B32 : Nat)]) ∧ w' = w := by
  unfold B32 at *
  go_enter Tryz.func114, Tryz.ntmps114
  go_wp2
  go_ret2
  refine ⟨ret_two ?_ ?_, rfl⟩
  · exact congrArg (Value.int .u32) (by omega)
  · exact congrArg (Value.int .u32) (by omega)

theorem top31 (v : Nat) (h : v < 4294967296) : v.testBit 31 = decide (2147483648 ≤ v) := by
  rw [Nat.testBit_eq_decide_div_mod_eq, decide_eq_decide]
  omega
theorem div31 (v : Nat) (h : v < 4294967296) : v / 2147483648 = (v.testBit 31).toNat := by
  rw [top31 v h]
  by_cases h' : 2147483648 ≤ v
  · simp [h']; omega
  · simp [h']; omega

theorem xlt {a b : Nat} (ha : a < 4294967296) (hb : b < 4294967296) : a ^^^ b < 4294967296 := Nat.xor_lt_two_pow (n := 32) ha hb
theorem alt {a b : Nat} (hb : b < 4294967296) : a &&& b < 4294967296 := Nat.and_lt_two_pow (n := 32) a hb
theorem olt {a b : Nat} (ha : a < 4294967296) (hb : b < 4294967296) : a ||| b < 4294967296 := Nat.or_lt_two_pow (n := 32) ha hb

theorem borrow_bit (x y d c : Nat) (hx : x < 4294967296) (hy : y < 4294967296) (hc : c ≤ 1) (hd : d = (x + 4294967296 - y - c) % 4294967296) :
    (((4294967295 ^^^ x) &&& y) ||| ((4294967295 ^^^ (x ^^^ y)) &&& d)) / 2147483648 = if x < y + c then 1 else 0 := by
  have hd2 : d < 4294967296 := by omega
  rw [div31 _ (olt (alt hy) (alt hd2))]
  rw [Nat.testBit_or, Nat.testBit_and, Nat.testBit_and, Nat.testBit_xor, Nat.testBit_xor, Nat.testBit_xor, top31 x hx, top31 y hy, top31 d hd2, top31 4294967295 (by decide)]
  by_cases h1 : 2147483648 ≤ x <;> by_cases h2 : 2147483648 ≤ y <;> by_cases h3 : 2147483648 ≤ d <;> by_cases h4 : x < y + c <;> simp [h1, h2, h3, h4] <;> omega

theorem borrow_int (x y c : Nat) (hx : x < 4294967296) (hy : y < 4294967296) (hc : c ≤ 1) :
    bits .or .u32 (bits .and .u32 (bits .xor .u32 IntKind.u32.max x) y) (bits .and .u32 (bits .xor .u32 IntKind.u32.max (bits .xor .u32 x y)) (((x : Int) - y - c) % 4294967296)) / 2147483648 = ((if x < y + c then 1 else 0 : Nat) : Int) := by
  obtain ⟨d, hd⟩ : ∃ d, d = (x + 4294967296 - y - c) % 4294967296 := ⟨_, rfl⟩
  have hd2 : d < 4294967296 := by omega
  have e1 : ((x : Int) - y - c) % 4294967296 = (d : Int) := by omega
  rw [e1, show IntKind.u32.max = ((4294967295 : Nat) : Int) from rfl, u32_xor_nat 4294967295 x (by decide) hx, u32_xor_nat x y hx hy, u32_xor_nat _ _ (by decide) (xlt hx hy), u32_and_nat _ _ (xlt (by decide) hx) hy,
    u32_and_nat _ _ (xlt (by decide) (xlt hx hy)) hd2, u32_or_nat _ _ (alt hy) (alt hd2), ← borrow_bit x y d c hx hy hc hd]
  omega

set_option maxHeartbeats 400000 in
theorem sub32_any (x y c : Nat) (hx : x < B32) (hy : y < B32) (hc : c ≤ 1) (w : World) :
    Calls Tryz.prog 103 #[.int .u32 x, .int .u32 y, .int .u32 c] w fun e w' => e = .returned (.tuple #[.int .u32 ((x + B32 - y - c) % B32 : Nat), .int .u32 (if x < y + c then 1 else 0 : Nat)]) ∧ w' = w := by
  unfold B32 at *
  have HB := hid (borrow_int x y c hx hy hc)
  obtain ⟨b, hb⟩ : ∃ b : Nat, b = if x < y + c then 1 else 0 := ⟨_, rfl⟩
  rw [← hb] at HB
  rw [← hb]
  obtain ⟨d, hd⟩ : ∃ d : Nat, d = (x + 4294967296 - y - c) % 4294967296 := ⟨_, rfl⟩
  have e1 : ((x : Int) - y - c) % 4294967296 = (d : Int) := by omega
  rw [← hd]
  have HE := hid e1
  clear hb hd e1
  go_enter Tryz.func103, Tryz.ntmps103
  go_wp2
  all_goals go_ret2
  all_goals refine ⟨ret_two ?_ ?_, rfl⟩
  all_goals first | exact congrArg (Value.int .u32) HE.out | exact congrArg (Value.int .u32) HB.out | trace_state

end Go.Proofs.YtdekkieajffblaaGreat

set_option linter.unusedVariables false
set_option linter.unusedSimpArgs false
namespace Go.Proofs.YtdekkieajffblaaGreat
open Go.RowKit

theorem val_take_next (B : Nat) (l : List Nat) (m : Nat) : val B (l.take (m + 1)) = val B (l.take m) + B ^ m * l.getD m 0 := by
  by_cases h : m < l.length
  · exact val_take_succ B l m h
  · rw [List.take_of_length_le (by omega), List.take_of_length_le (by omega), List.getD_eq_getElem?_getD, List.getElem?_eq_none (by omega)]
    simp
theorem getD_lt {B : Nat} {l : List Nat} (h : Dg B l) (hB : 0 < B) (m : Nat) : l.getD m 0 < B := by
  by_cases hm : m < l.length
  · exact h.getD _ hm
  · rw [List.getD_eq_getElem?_getD, List.getElem?_eq_none (by omega)]; exact hB
theorem addStep {B P q c vl vl' x y : Nat} (h : q + P * c = vl + vl') : q + P * ((x + y + c) % B) + P * B * ((x + y + c) / B) = vl + P * x + (vl' + P * y) := by
  have h1 := Nat.div_add_mod (x + y + c) B
  have h2 : P * ((x + y + c) % B) + P * B * ((x + y + c) / B) = P * (x + y + c) := by
    rw [Nat.mul_assoc, ← Nat.mul_add, Nat.add_comm ((x + y + c) % B), h1]
  rw [Nat.mul_add, Nat.mul_add] at h2
  omega

set_option maxHeartbeats 2000000 in
theorem addInto_any (g o n cap : Nat) (cur : Array Value) (l : List Nat) (ao' : Option Addr) (n' cap' : Nat) (l' : List Nat) (w : World) (W : Win .u32 92 w g o n cur l) (hdg : Dg B32 l) (hn : n ≤ maxLen)
    (R' : Row .u32 B32 w ao' n' cap' l') (hne : n' ≠ 0 → ∀ ad, ao' = some ad → ad.block ≠ g) :
    Calls Tryz.prog 101 #[.slice (some ⟨g, o, none⟩) n cap, .slice ao' n' cap'] w fun e w' => e = .returned (.tuple #[]) ∧ ∃ L c, Onto .u32 92 g o n w w' cur L ∧ Dg B32 L ∧ c ≤ 1 ∧ val B32 L + B32 ^ n * c = val B32 l + val B32 (l'.take n) := by
  have HW := hid W
  have HD := hid hdg
  have HL := hid W.len
  have HR' := hid R'
  have HL' := hid R'.len
  have HNE := hid hne
  have hmx' := R'.most
  have hft' := R'.fits
  unfold maxLen at hn hmx'
  clear W hdg R' hne
  go_enter Tryz.func101, Tryz.ntmps101
  go_wp2
  go_loopw [4, 9] (fun c i wr => ∃ m : Nat, ∃ cc : Nat, ∃ q : List Nat, m ≤ n ∧ i = .int .i64 m ∧ c = .int .u32 cc ∧ cc ≤ 1 ∧ Hid (q.length = m ∧ Dg B32 q ∧ val B32 q + B32 ^ m * cc = val B32 (l.take m) + val B32 (l'.take m) ∧ Onto .u32 92 g o n w wr cur (q ++ l.drop m))) (fun _ i _ => n - (intOf i).toNat)
  case atStart => exact ⟨0, 0, [], Nat.zero_le _, rfl, rfl, by omega, rfl, Dg.nil _, by simp [val], by simpa using HW.out.onto⟩
  case round =>
    obtain ⟨m, cc, q, hm, rfl, rfl, hcc, hI⟩ := hrel
    by_cases hlt : m < n
    · obtain ⟨x, hx⟩ : ∃ x, x = l.getD m 0 := ⟨_, rfl⟩
      obtain ⟨y, hy⟩ : ∃ y, y = l'.getD m 0 := ⟨_, rfl⟩
      have hll : m < l.length := by rw [HL.out]; exact hlt
      have hxb : x < B32 := by rw [hx]; exact HD.out.getD _ hll
      have hyb : y < B32 := by rw [hy]; exact getD_lt HR'.out.dg (by decide) _
      have hc : wr.cell? ⟨g, o + m, none⟩ = some (.int .u32 x) := by
        have := hI.out.2.2.2.cell (i := m) hlt
        rw [List.getD_eq_getElem?_getD, List.getElem?_append_right (by rw [hI.out.1]; omega), hI.out.1, Nat.sub_self, List.getElem?_drop, Nat.add_zero, ← List.getD_eq_getElem?_getD, ← hx] at this
        exact this
      have hfz : wr.frozen? ⟨g, o + m, none⟩ = false := hI.out.2.2.2.frozen _
      have HX := hid hx
      have HY := hid hy
      have HLL := hid hll
      obtain ⟨Q, hQ⟩ : ∃ Q, Q = (x + y + cc) % B32 := ⟨_, rfl⟩
      obtain ⟨D, hD⟩ : ∃ D, D = (x + y + cc) / B32 := ⟨_, rfl⟩
      have HC : Hid (∀ w, Calls Tryz.prog 114 #[.int .u32 x, .int .u32 y, .int .u32 cc] w fun e w' => e = .returned (.tuple #[.int .u32 Q, .int .u32 D]) ∧ w' = w) := fun w => by rw [hQ, hD]; exact add32_any x y cc hxb hyb hcc w
      have HQ := hid hQ
      have HDD := hid hD
      have hQb : Q < B32 := by rw [hQ]; exact Nat.mod_lt _ (by decide)
      have hDb : D ≤ 1 := by unfold B32 at *; omega
      have HQB := hid hQb
      clear hx hll hQ hD hQb
      have fin : Hid (∀ wx, wx = wr → (∃ m_1 cc : Nat, ∃ q : List Nat, m_1 ≤ n ∧ Value.int .i64 ((m : Int) + 1) = .int .i64 m_1 ∧ Value.int .u32 D = .int .u32 cc ∧ cc ≤ 1 ∧ Hid (q.length = m_1 ∧ Dg B32 q ∧ val B32 q + B32 ^ m_1 * cc = val B32 (l.take m_1) + val B32 (l'.take m_1) ∧ Onto .u32 92 g o n w (wx.setCell ⟨g, o + m, none⟩ (.int .u32 Q)) cur (q ++ l.drop m_1)))) := by
        rintro wx rfl
        obtain ⟨h1, h2, h3, h4⟩ := hI.out
        refine ⟨m + 1, D, q ++ [Q], by omega, by go_num, rfl, hDb, ?_, ?_, ?_, ?_⟩
        · simp [h1]
        · exact h2.append (Dg.one HQB.out)
        · rw [val_snoc, h1, val_take_succ B32 l m HLL.out, val_take_next B32 l' m, ← HX.out, ← HY.out, HQ.out, HDD.out, Nat.pow_succ]
          exact addStep h3
        · rw [← set_append_drop h1 HLL.out]
          exact h4.store hlt _
      by_cases hlt' : m < n'
      · have e1 : decide ((m : Int) < n') = true := by simp; omega
        obtain ⟨b', o', hao, hl', hc'⟩ := HR'.out.rd.some (by rw [HL'.out]; omega)
        have hbg : b' ≠ g := HNE.out (by omega) _ hao
        subst hao
        have hcy : wr.cell? ⟨b', o' + m, none⟩ = some (.int .u32 y) := by
          rw [hI.out.2.2.2.other hbg, hc' m (by rw [HL'.out]; exact hlt'), hy]
        clear hy hc' hl'
        go_wp2_with (go_at_call 114; refine (HC.out _).mono ?_; rintro e wz ⟨rfl, hwz⟩; rw [hwz])
        exact ⟨fin.out _ rfl, by simp [intOf] <;> omega⟩
      · have e1 : decide ((m : Int) < n') = false := by simp; omega
        have hy0 : y = 0 := by
          rw [hy, List.getD_eq_getElem?_getD, List.getElem?_eq_none (by rw [HL'.out]; omega)]; rfl
        clear hy
        subst hy0
        go_wp2_with (go_at_call 114; refine (HC.out _).mono ?_; rintro e wz ⟨rfl, hwz⟩; rw [hwz])
        exact ⟨fin.out _ rfl, by simp [intOf] <;> omega⟩
    · obtain rfl : m = n := by omega
      go_wp2
      go_end0
      obtain ⟨h1, h2, h3, h4⟩ := hI.out
      refine ⟨rfl, q, cc, ?_, h2, hcc, ?_⟩
      · rw [List.drop_eq_nil_of_le (by rw [HL.out]; omega), List.append_nil] at h4; exact h4
      · rw [List.take_of_length_le (l := l) (by rw [HL.out]; omega)] at h3; exact h3

end Go.Proofs.YtdekkieajffblaaGreat

set_option linter.unusedVariables false
set_option linter.unusedSimpArgs false
namespace Go.Proofs.YtdekkieajffblaaGreat
open Go.RowKit

theorem subStep {B P q c vl vl' x y d b : Nat} (h : vl + P * c = q + vl') (hs : x + B * b = d + y + c) : vl + P * x + P * B * b = q + P * d + (vl' + P * y) := by
  have h2 : P * (x + B * b) = P * (d + y + c) := by rw [hs]
  rw [Nat.mul_add, Nat.mul_add, Nat.mul_add, ← Nat.mul_assoc] at h2
  omega
theorem sub_end {N vl vl' q b : Nat} (h : vl + N * b = q + vl') (hq : q < N) (hb : b ≤ 1) (hv : vl' ≤ vl) : q = vl - vl' := by
  have : b = 0 ∨ b = 1 := by omega
  rcases this with rfl | rfl
  · rw [Nat.mul_zero] at h; omega
  · rw [Nat.mul_one] at h; omega

set_option maxHeartbeats 2000000 in
theorem subRows_any (ao ao' : Option Addr) (n cap n' cap' : Nat) (l l' : List Nat) (w : World) (R : Row .u32 B32 w ao n cap l) (R' : Row .u32 B32 w ao' n' cap' l') (hs : n ≤ 1000) (hle : n' ≤ n) (hv : val B32 l' ≤ val B32 l) :
    Calls Tryz.prog 79 #[.slice ao n cap, .slice ao' n' cap'] w fun e w' => ∃ a2 c2 L, e = .returned (.slice a2 n c2) ∧ Row .u32 B32 w' a2 n c2 L ∧ val B32 L = val B32 l - val B32 l' ∧ Below w.heap.size w w' := by
  have HR := hid R
  have HR' := hid R'
  have HL := hid R.len
  have HL' := hid R'.len
  have HD := hid R.dg
  have HV := hid hv
  clear R R' hv
  go_enter Tryz.func79, Tryz.ntmps79
  go_wp2_with fail
  refine (clone_any ao n cap l w HR.out hs).mono ?_
  rintro e w1 ⟨a1, cap1, rfl, hO, b1⟩
  have HO := hid hO
  have HB1 := hid b1
  have hmx := hO.row.most
  have hft := hO.row.fits
  unfold maxLen at hmx
  have RB := hid (HR'.out.below b1)
  by_cases hn0 : n = 0
  · subst hn0
    have h' : n' = 0 := by omega
    subst h'
    clear hO b1
    go_wp2
    go_loopw [6, 13] (fun c i wr => i = .int .i64 0 ∧ wr = w1) (fun _ i _ => 0)
    case atStart => exact ⟨rfl, rfl⟩
    case round =>
      obtain ⟨rfl, hwr⟩ := hrel
      rw [hwr]
      go_wp2
      go_ret
      have hl0 : l' = [] := List.length_eq_zero_iff.1 HL'.out
      exact ⟨a1, cap1, l, rfl, HO.out.row, by rw [hl0]; simp [val], HB1.out⟩
  · obtain ⟨g, cur, ha1, hg, hW⟩ := hO.own.resolve_left hn0
    subst ha1
    have HW := hid hW
    have HG := hid hg
    have hne : n' ≠ 0 → ∀ ad, ao' = some ad → ad.block ≠ g := fun h0 ad h => by
      subst h
      obtain ⟨b', o', hao, hl', _⟩ := HR'.out.rd.some (by rw [HL'.out]; omega)
      cases hao
      simp; omega
    have HNE := hid hne
    clear hO b1 hW hg hne
    go_wp2
    go_loopw [6, 13] (fun c i wr => ∃ m : Nat, ∃ cc : Nat, ∃ q : List Nat, m ≤ n ∧ i = .int .i64 m ∧ c = .int .u32 cc ∧ cc ≤ 1 ∧ Hid (q.length = m ∧ Dg B32 q ∧ val B32 (l.take m) + B32 ^ m * cc = val B32 q + val B32 (l'.take m) ∧ Onto .u32 92 g 0 n w1 wr cur (q ++ l.drop m))) (fun _ i _ => n - (intOf i).toNat)
    case atStart => exact ⟨0, 0, [], Nat.zero_le _, rfl, rfl, by omega, rfl, Dg.nil _, by simp [val], by simpa using HW.out.onto⟩
    case round =>
      obtain ⟨m, cc, q, hm, rfl, rfl, hcc, hI⟩ := hrel
      by_cases hlt : m < n
      · obtain ⟨x, hx⟩ : ∃ x, x = l.getD m 0 := ⟨_, rfl⟩
        obtain ⟨y, hy⟩ : ∃ y, y = l'.getD m 0 := ⟨_, rfl⟩
        have hll : m < l.length := by rw [HL.out]; exact hlt
        have hxb : x < B32 := by rw [hx]; exact HD.out.getD _ hll
        have hyb : y < B32 := by rw [hy]; exact getD_lt HR'.out.dg (by decide) _
        have hc : wr.cell? ⟨g, m, none⟩ = some (.int .u32 x) := by
          have := hI.out.2.2.2.cell (i := m) hlt
          rw [List.getD_eq_getElem?_getD, List.getElem?_append_right (by rw [hI.out.1]; omega), hI.out.1, Nat.sub_self, List.getElem?_drop, Nat.add_zero, ← List.getD_eq_getElem?_getD, ← hx, Nat.zero_add] at this
          exact this
        have hfz : wr.frozen? ⟨g, m, none⟩ = false := hI.out.2.2.2.frozen _
        have HX := hid hx
        have HY := hid hy
        have HLL := hid hll
        obtain ⟨Q, hQ⟩ : ∃ Q, Q = (x + B32 - y - cc) % B32 := ⟨_, rfl⟩
        obtain ⟨D, hD⟩ : ∃ D : Nat, D = if x < y + cc then 1 else 0 := ⟨_, rfl⟩
        have HC : Hid (∀ w, Calls Tryz.prog 103 #[.int .u32 x, .int .u32 y, .int .u32 cc] w fun e w' => e = .returned (.tuple #[.int .u32 Q, .int .u32 D]) ∧ w' = w) := fun w => by rw [hQ, hD]; exact sub32_any x y cc hxb hyb hcc w
        have hQb : Q < B32 := by rw [hQ]; exact Nat.mod_lt _ (by decide)
        have hDb : D ≤ 1 := by rw [hD]; split <;> omega
        have hst : x + B32 * D = Q + y + cc := by
          rw [hQ, hD]; unfold B32 at *; split <;> omega
        have HQB := hid hQb
        have HST := hid hst
        clear hx hll hQ hD hQb hst
        have fin : Hid (∀ wx, wx = wr → (∃ m_1 cc : Nat, ∃ q : List Nat, m_1 ≤ n ∧ Value.int .i64 ((m : Int) + 1) = .int .i64 m_1 ∧ Value.int .u32 D = .int .u32 cc ∧ cc ≤ 1 ∧ Hid (q.length = m_1 ∧ Dg B32 q ∧ val B32 (l.take m_1) + B32 ^ m_1 * cc = val B32 q + val B32 (l'.take m_1) ∧ Onto .u32 92 g 0 n w1 (wx.setCell ⟨g, m, none⟩ (.int .u32 Q)) cur (q ++ l.drop m_1)))) := by
          rintro wx rfl
          obtain ⟨h1, h2, h3, h4⟩ := hI.out
          refine ⟨m + 1, D, q ++ [Q], by omega, by go_num, rfl, hDb, ?_, ?_, ?_, ?_⟩
          · simp [h1]
          · exact h2.append (Dg.one HQB.out)
          · rw [val_snoc, h1, val_take_succ B32 l m HLL.out, val_take_next B32 l' m, ← HX.out, ← HY.out, Nat.pow_succ]
            exact subStep h3 HST.out
          · rw [← set_append_drop h1 HLL.out]
            have := h4.store hlt Q
            rw [Nat.zero_add] at this
            exact this
        by_cases hlt' : m < n'
        · have e1 : decide ((m : Int) < n') = true := by simp; omega
          obtain ⟨b', o', hao, hl', hc'⟩ := RB.out.rd.some (by rw [HL'.out]; omega)
          have hbg : b' ≠ g := HNE.out (by omega) _ hao
          subst hao
          have hcy : wr.cell? ⟨b', o' + m, none⟩ = some (.int .u32 y) := by
            rw [hI.out.2.2.2.other hbg, hc' m (by rw [HL'.out]; exact hlt'), hy]
          clear hy hc' hl'
          go_wp2_with (go_at_call 103; refine (HC.out _).mono ?_; rintro e wz ⟨rfl, hwz⟩; rw [hwz])
          exact ⟨fin.out _ rfl, by simp [intOf] <;> omega⟩
        · have e1 : decide ((m : Int) < n') = false := by simp; omega
          have hy0 : y = 0 := by
            rw [hy, List.getD_eq_getElem?_getD, List.getElem?_eq_none (by rw [HL'.out]; omega)]; rfl
          clear hy
          subst hy0
          go_wp2_with (go_at_call 103; refine (HC.out _).mono ?_; rintro e wz ⟨rfl, hwz⟩; rw [hwz])
          exact ⟨fin.out _ rfl, by simp [intOf] <;> omega⟩
      · obtain rfl : m = n := by omega
        go_wp2
        go_ret
        obtain ⟨h1, h2, h3, h4⟩ := hI.out
        rw [List.drop_eq_nil_of_le (by rw [HL.out]; omega), List.append_nil] at h4
        rw [List.take_of_length_le (l := l) (by rw [HL.out]; omega), List.take_of_length_le (l := l') (by rw [HL'.out]; omega)] at h3
        refine ⟨_, cap1, q, rfl, h4.row_ h2 hft (by unfold maxLen; omega), ?_, Bb HB1.out (h4.below HG.out) (by exact Nat.le_refl _)⟩
        refine sub_end h3 ?_ hcc HV.out
        have := val_lt h2
        rw [h1] at this
        exact this

end Go.Proofs.YtdekkieajffblaaGreat
