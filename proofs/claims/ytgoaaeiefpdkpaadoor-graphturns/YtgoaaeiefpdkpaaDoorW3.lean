/-
  Walks: Div32, divSmall.
-/
import Derived.Test.YtgoaaeiefpdkpaaDoorW7
import Derived.Test.YtgoaaeiefpdkpaaDoorOnto
set_option linter.unusedVariables false
set_option linter.unusedSimpArgs false
namespace Go.Proofs.YtgoaaeiefpdkpaaDoor
open Go.RowKit

def b8 (d : Nat) : List Nat := [d % 256, d / 256 % 256, d / 65536 % 256, d / 16777216 % 256, d / 4294967296 % 256, d / 1099511627776 % 256, d / 281474976710656 % 256, d / 72057594037927936 % 256]
theorem b8_val (d : Nat) (h : d < 18446744073709551616) : val 256 (b8 d) = d := by
  simp only [b8, val]; omega
theorem b8_dg (d : Nat) : Dg 256 (b8 d) := by
  intro x hx
  simp only [b8, List.mem_cons, List.not_mem_nil, or_false] at hx
  omega
theorem not_big_64 (d : Nat) (h : d < 18446744073709551616) : ¬ Big d := by
  unfold Big
  have h1 : B32 ^ 2 ≤ B32 ^ 40 := Nat.pow_le_pow_right (by decide) (by decide)
  have h2 : B32 ^ 2 = 18446744073709551616 := by decide
  omega

end Go.Proofs.YtgoaaeiefpdkpaaDoor

set_option linter.unusedVariables false
set_option linter.unusedSimpArgs false
namespace Go.Proofs.YtgoaaeiefpdkpaaDoor
open Go.RowKit

theorem or_join (hi lo : Nat) (h1 : hi < 4294967296) (h2 : lo < 4294967296) : bits .or .u64 ((hi : Int) * 4294967296) (lo : Int) = ((hi * 4294967296 + lo : Nat) : Int) := by
  rw [show ((hi : Int) * 4294967296) = ((hi * 4294967296 : Nat) : Int) by omega, u64_or_nat _ _ (by omega) (by omega), nat_join 32 _ _ (by omega) (by omega)]
theorem div_fits (z v : Nat) (h : z / v < 4294967296) : IntKind.u64.wrap ((z : Int).tdiv v) % 4294967296 = ((z / v : Nat) : Int) := by
  rw [← Int.ofNat_tdiv, IntKind.wrap_u64]; generalize z / v = q at *; omega
theorem mod_fits (z v : Nat) (h : z % v < 4294967296) : (z : Int).tmod v % 4294967296 = ((z % v : Nat) : Int) := by
  rw [← Int.ofNat_tmod]; generalize z % v = q at *; omega
theorem ret_two {a b c d : Value} (h1 : a = c) (h2 : b = d) : Ending.returned (.tuple #[a, b]) = .returned (.tuple #[c, d]) := by rw [h1, h2]

set_option maxHeartbeats 400000 in
theorem div32_any (hi lo v : Nat) (hh : hi < v) (hl : lo < B32) (hv : v < B32) (w : World) :
    Calls Tryd.prog 72 #[.int .u32 hi, .int .u32 lo, .int .u32 v] w fun e w' => e = .returned (.tuple #[.int .u32 ((hi * B32 + lo) / v : Nat), .int .u32 ((hi * B32 + lo) % v : Nat)]) ∧ ∃ k, w' = w.drewN k := by
  unfold B32 at *
  have e1 : ((v : Int) != 0) = true := by rw [bne_iff_ne]; omega
  have e2 : decide ((v : Int) ≤ hi) = false := by simp; omega
  have hor := or_join hi lo (by omega) hl
  obtain ⟨z, hz⟩ : ∃ z, z = hi * 4294967296 + lo := ⟨_, rfl⟩
  rw [← hz] at hor ⊢
  have hq : z / v < 4294967296 := by
    rw [Nat.div_lt_iff_lt_mul (by omega)]
    have : (hi + 1) * 4294967296 ≤ v * 4294967296 := Nat.mul_le_mul_right _ hh
    omega
  have hr : z % v < 4294967296 := by have := Nat.mod_lt z (by omega : 0 < v); omega
  have hz2 : z < 18446744073709551616 := by omega
  have HQ : Hid (z / v < 4294967296) := hq
  have HR : Hid (z % v < 4294967296) := hr
  clear hz hq hr hz2
  go_enter Tryd.func72, Tryd.ntmps72
  go_wp2
  go_quiet (fail)
  go_wp2
  go_ret2
  refine ⟨ret_two ?_ ?_, nq, rfl⟩
  · exact congrArg (Value.int .u32) (div_fits z v HQ.out)
  · exact congrArg (Value.int .u32) (mod_fits z v HR.out)

/-- One step of a division by a small number, from the top. -/
theorem divStep {B r v q : Nat} (hv : 0 < v) (m : Nat) (L : List Nat) (hm : m < L.length) (h1 : val B (L.drop (m + 1)) = q * v + r) (hr : r < v) :
    val B (L.drop m) = ((r * B + L.getD m 0) / v + B * q) * v + (r * B + L.getD m 0) % v := by
  rw [val_drop_succ B L m hm, h1]
  have := Nat.div_add_mod (r * B + L.getD m 0) v
  rw [Nat.add_mul, Nat.mul_add, Nat.mul_assoc B q v, Nat.mul_comm B r]
  rw [Nat.mul_comm v] at this
  omega

theorem set_take_append {l q : List Nat} {m x : Nat} (hm : m < l.length) : (l.take (m + 1) ++ q).set m x = l.take m ++ (x :: q) := by
  rw [take_snoc l m hm, List.append_assoc, List.set_append, if_neg (by rw [List.length_take]; omega), List.length_take, Nat.min_eq_left (by omega)]
  simp

set_option maxHeartbeats 1000000 in
theorem divSmall_any (g o n cap : Nat) (cur : Array Value) (l : List Nat) (v : Nat) (w : World) (W : Win .u32 77 w g o n cur l) (hd : Dg B32 l) (hn : n ≤ maxLen) (hv0 : 0 < v) (hv : v < B32) :
    Calls Tryd.prog 68 #[.slice (some ⟨g, o, none⟩) n cap, .int .u32 v] w fun e w' => e = .returned (.int .u32 (val B32 l % v : Nat)) ∧ ∃ l', Onto .u32 77 g o n w w' cur l' ∧ Dg B32 l' ∧ val B32 l' = val B32 l / v := by
  have HW : Hid (Win .u32 77 w g o n cur l) := W
  have HD : Hid (Dg B32 l) := hd
  have HL : Hid (l.length = n) := W.len
  unfold maxLen at hn
  clear W hd
  go_enter Tryd.func68, Tryd.ntmps68
  go_wp2
  go_loopw [5, 6] (fun t i wr => ∃ m r : Nat, ∃ q : List Nat, m ≤ n ∧ i = .int .i64 ((m : Int) - 1) ∧ t = .int .u32 r ∧ r < v ∧ Hid (q.length = n - m ∧ Dg B32 q ∧ val B32 (l.drop m) = val B32 q * v + r ∧ Onto .u32 77 g o n w wr cur (l.take m ++ q))) (fun _ i _ => (intOf i + 1).toNat)
  case atStart => exact ⟨n, 0, [], Nat.le_refl _, rfl, rfl, hv0, by simp, Dg.nil _, by rw [List.drop_eq_nil_of_le (by rw [HL.out]; omega)]; simp [val], by
    rw [List.take_of_length_le (by rw [HL.out]; omega), List.append_nil]; exact HW.out.onto⟩
  case round =>
    obtain ⟨m, r, q, hm, rfl, rfl, hr, hH⟩ := hrel
    by_cases hz : m = 0
    · subst hz
      go_wp2
      go_ret
      obtain ⟨h1, h2, h3, h4⟩ := hH.out
      rw [List.drop_zero] at h3
      rw [h3]
      refine ⟨congrArg (fun z : Nat => Ending.returned (.int .u32 (z : Int))) ?_, q, by simpa using h4, h2, ?_⟩
      · rw [Nat.mul_comm, Nat.mul_add_mod, Nat.mod_eq_of_lt hr]
      · rw [Nat.mul_comm, Nat.mul_add_div hv0, Nat.div_eq_of_lt hr]; rfl
    · obtain ⟨p, rfl⟩ : ∃ p, m = p + 1 := ⟨m - 1, by omega⟩
      obtain ⟨d, hd⟩ : ∃ d, d = l.getD p 0 := ⟨_, rfl⟩
      have hll : p < l.length := by rw [HL.out]; omega
      have hdb : d < B32 := by rw [hd]; exact HD.out.getD _ hll
      have hc : wr.cell? ⟨g, o + p, none⟩ = some (.int .u32 d) := by
        have := hH.out.2.2.2.cell (i := p) (by omega)
        rw [getD_append_left (by rw [List.length_take]; omega), getD_take (by omega), ← hd] at this
        exact this
      have hf : wr.frozen? ⟨g, o + p, none⟩ = false := hH.out.2.2.2.frozen _
      have H1 : Hid (d = l.getD p 0) := hd
      have HP : Hid (p < l.length) := hll
      clear hd hll
      obtain ⟨Q, hQ⟩ : ∃ Q, Q = (r * B32 + d) / v := ⟨_, rfl⟩
      obtain ⟨R, hR⟩ : ∃ R, R = (r * B32 + d) % v := ⟨_, rfl⟩
      have HC : Hid (∀ w, Calls Tryd.prog 72 #[.int .u32 r, .int .u32 d, .int .u32 v] w fun e w' => e = .returned (.tuple #[.int .u32 Q, .int .u32 R]) ∧ ∃ k, w' = w.drewN k) := fun w => by rw [hQ, hR]; exact div32_any r d v hr hdb hv w
      have HQ : Hid (Q = (r * B32 + d) / v) := hQ
      have HR : Hid (R = (r * B32 + d) % v) := hR
      have hRv : R < v := by rw [hR]; exact Nat.mod_lt _ hv0
      have HB : Hid (Q < B32) := by
        unfold Hid
        rw [hQ, Nat.div_lt_iff_lt_mul hv0]
        have : (r + 1) * B32 ≤ v * B32 := Nat.mul_le_mul_right _ hr
        rw [Nat.add_mul] at this
        rw [Nat.mul_comm B32 v]
        omega
      clear hQ hR
      go_wp2_with (go_at_call 72; refine (HC.out _).mono ?_; rintro e w' ⟨rfl, q1, rfl⟩)
      obtain ⟨h1, h2, h3, h4⟩ := hH.out
      refine ⟨⟨p, R, Q :: q, by omega, rfl, rfl, hRv, ?_, ?_, ?_, ?_⟩, by simp [intOf] <;> omega⟩
      · simp [h1]; omega
      · exact fun x hx => by rcases List.mem_cons.1 hx with rfl | hx; exact HB.out; exact h2 x hx
      · rw [divStep hv0 p l HP.out h3 hr, ← H1.out, ← HQ.out, ← HR.out, val_cons]
      · rw [← set_take_append HP.out]; exact (h4.drewN q1).store (by omega) Q

end Go.Proofs.YtgoaaeiefpdkpaaDoor
