import Derived.Test.YtbkfinjajkjhaaaGreatDoorW7
import Derived.Test.YtbkfinjajkjhaaaGreatDoorOnto
set_option linter.unusedVariables false
set_option linter.unusedSimpArgs false
namespace Go.Proofs.YtbkfinjajkjhaaaGreatDoor
open Go.RowKit
def b8 (d : Nat) : List Nat := [d % 256, d / 256 % 256, d / 65536 % 256, d / 16777216 % 256, d / 4294967296 % 256, d / 1099511627776 % 256, d / 281474976710656 % 256, d / 72057594037927936 % 256]
theorem b8_val (d : Nat) (h : d < 18446744073709551616) : val 256 (b8 d) = d := by
 simp only [b8, val]; omega
theorem b8_dg (d : Nat) : Dg 256 (b8 d) := by
 intro x hx
 simp only [b8, List.mem_cons, List.not_mem_nil, or_false] at hx
 omega
theorem not_big_64 (d : Nat) (h : d < 18446744073709551616) : ¬ Big d := by
 unfold Big
 have h1 : B32 ^ 2 <= B32 ^ 40 := Nat.pow_le_pow_right (by decide) (by decide)
 have h2 : B32 ^ 2 = 18446744073709551616 := by decide
 omega
set_option maxHeartbeats 4000000 in
theorem rfrom_core (n : Int) (u : Nat) (neg : Bool) (w : World) (hub : u <= 18446744073709551615) (hu : u = n.natAbs) (e0 : decide (n < 0) = neg) (hc : neg = true /\ n < 0 /\ IntKind.u64.wrap (-IntKind.u64.wrap n) = (u : Int) \/ neg = false /\ n = (u : Int)) :
  Calls Tryz.prog 32 #[.int .i64 n] w fun e w' => ∃ x l, e = .returned x /\ IntIs w' x (decide (n < 0) && decide (l ≠ [])) l /\ Tr l /\ val B32 l = n.natAbs /\ Below w.heap.size w w' := by
 have HU := hid hu
 clear hu
 rcases hc with ⟨rfl, hneg, hw⟩ | ⟨rfl, rfl⟩
 all_goals
  go_enter Tryz.func32, Tryz.ntmps32
  go_wp2
  go_loopw [4, 5] (fun v i wr => ∃ k : Nat, k <= 8 /\ i = .int .i64 k /\ Hid (wr.ownsRow (w.heap.size + 1) 5 1 v k (cs .u8 ([] ++ (b8 u).take k)) /\ Below (w.heap.size + 1) (w.alloc (.cells #[.bool false, .slice none 0 0] 55)) wr)) (fun _ i _ => 8 - (intOf i).toNat)
  case atStart => exact ⟨0, by omega, rfl, by simpa [cs] using World.ownsRow_nil _ _ _ _, Below.refl _ _⟩
  case round =>
   obtain ⟨k, hk, rfl, hI⟩ := hrel
   have hsz : Hid (w.heap.size + 1 <= wr.heap.size) := by have := hI.out.2.size; unfold Hid; simpa using this
   by_cases hk8 : k < 8
   ·obtain ⟨hI1, hI2⟩ := hI.out
    have HI1 := hid hI1
    have HI2 := hid hI2
    clear hI hI1 hI2
    have hk' : k = 0 \/ k = 1 \/ k = 2 \/ k = 3 \/ k = 4 \/ k = 5 \/ k = 6 \/ k = 7 := by omega
    rcases hk' with rfl | rfl | rfl | rfl | rfl | rfl | rfl | rfl
    ·go_wp2_with (at_builtin; refine app1 rfl _ _ 22 rfl (w.heap.size + 1) 5 .u8 1 (by decide) Tryz.underlying22 info_u8 _ _ _ rfl (HI1.out.alloc _) ⟨wr.heap.size, 0, none⟩ 1 ((b8 u).getD 0 0) rfl ?c0 (by omega) (by have := hsz.out; simp; omega) ?_; rotate_right; intro g cap' w1 hown hbel)
     case c0 => rw [cell_new]; simp [b8] <;> omega
     case roundEnd => exact ⟨⟨1, by omega, rfl, own_step (l := []) (r := b8 u) hown (by omega) (by simp [b8]), (HI2.out.alloc hsz.out _).trans hbel⟩, by simp [intOf]⟩
    ·go_wp2_with (at_builtin; refine app1 rfl _ _ 22 rfl (w.heap.size + 1) 5 .u8 1 (by decide) Tryz.underlying22 info_u8 _ _ _ rfl (HI1.out.alloc _) ⟨wr.heap.size, 0, none⟩ 1 ((b8 u).getD 1 0) rfl ?c1 (by omega) (by have := hsz.out; simp; omega) ?_; rotate_right; intro g cap' w1 hown hbel)
     case c1 => rw [cell_new]; simp [b8] <;> omega
     case roundEnd => exact ⟨⟨2, by omega, rfl, own_step (l := []) (r := b8 u) hown (by omega) (by simp [b8]), (HI2.out.alloc hsz.out _).trans hbel⟩, by simp [intOf]⟩
    ·go_wp2_with (at_builtin; refine app1 rfl _ _ 22 rfl (w.heap.size + 1) 5 .u8 1 (by decide) Tryz.underlying22 info_u8 _ _ _ rfl (HI1.out.alloc _) ⟨wr.heap.size, 0, none⟩ 1 ((b8 u).getD 2 0) rfl ?c2 (by omega) (by have := hsz.out; simp; omega) ?_; rotate_right; intro g cap' w1 hown hbel)
     case c2 => rw [cell_new]; simp [b8] <;> omega
     case roundEnd => exact ⟨⟨3, by omega, rfl, own_step (l := []) (r := b8 u) hown (by omega) (by simp [b8]), (HI2.out.alloc hsz.out _).trans hbel⟩, by simp [intOf]⟩
    ·go_wp2_with (at_builtin; refine app1 rfl _ _ 22 rfl (w.heap.size + 1) 5 .u8 1 (by decide) Tryz.underlying22 info_u8 _ _ _ rfl (HI1.out.alloc _) ⟨wr.heap.size, 0, none⟩ 1 ((b8 u).getD 3 0) rfl ?c3 (by omega) (by have := hsz.out; simp; omega) ?_; rotate_right; intro g cap' w1 hown hbel)
     case c3 => rw [cell_new]; simp [b8] <;> omega
     case roundEnd => exact ⟨⟨4, by omega, rfl, own_step (l := []) (r := b8 u) hown (by omega) (by simp [b8]), (HI2.out.alloc hsz.out _).trans hbel⟩, by simp [intOf]⟩
    ·go_wp2_with (at_builtin; refine app1 rfl _ _ 22 rfl (w.heap.size + 1) 5 .u8 1 (by decide) Tryz.underlying22 info_u8 _ _ _ rfl (HI1.out.alloc _) ⟨wr.heap.size, 0, none⟩ 1 ((b8 u).getD 4 0) rfl ?c4 (by omega) (by have := hsz.out; simp; omega) ?_; rotate_right; intro g cap' w1 hown hbel)
     case c4 => rw [cell_new]; simp [b8] <;> omega
     case roundEnd => exact ⟨⟨5, by omega, rfl, own_step (l := []) (r := b8 u) hown (by omega) (by simp [b8]), (HI2.out.alloc hsz.out _).trans hbel⟩, by simp [intOf]⟩
    ·go_wp2_with (at_builtin; refine app1 rfl _ _ 22 rfl (w.heap.size + 1) 5 .u8 1 (by decide) Tryz.underlying22 info_u8 _ _ _ rfl (HI1.out.alloc _) ⟨wr.heap.size, 0, none⟩ 1 ((b8 u).getD 5 0) rfl ?c5 (by omega) (by have := hsz.out; simp; omega) ?_; rotate_right; intro g cap' w1 hown hbel)
     case c5 => rw [cell_new]; simp [b8] <;> omega
     case roundEnd => exact ⟨⟨6, by omega, rfl, own_step (l := []) (r := b8 u) hown (by omega) (by simp [b8]), (HI2.out.alloc hsz.out _).trans hbel⟩, by simp [intOf]⟩
    ·go_wp2_with (at_builtin; refine app1 rfl _ _ 22 rfl (w.heap.size + 1) 5 .u8 1 (by decide) Tryz.underlying22 info_u8 _ _ _ rfl (HI1.out.alloc _) ⟨wr.heap.size, 0, none⟩ 1 ((b8 u).getD 6 0) rfl ?c6 (by omega) (by have := hsz.out; simp; omega) ?_; rotate_right; intro g cap' w1 hown hbel)
     case c6 => rw [cell_new]; simp [b8] <;> omega
     case roundEnd => exact ⟨⟨7, by omega, rfl, own_step (l := []) (r := b8 u) hown (by omega) (by simp [b8]), (HI2.out.alloc hsz.out _).trans hbel⟩, by simp [intOf]⟩
    ·go_wp2_with (at_builtin; refine app1 rfl _ _ 22 rfl (w.heap.size + 1) 5 .u8 1 (by decide) Tryz.underlying22 info_u8 _ _ _ rfl (HI1.out.alloc _) ⟨wr.heap.size, 0, none⟩ 1 ((b8 u).getD 7 0) rfl ?c7 (by omega) (by have := hsz.out; simp; omega) ?_; rotate_right; intro g cap' w1 hown hbel)
     case c7 => rw [cell_new]; simp [b8] <;> omega
     case roundEnd => exact ⟨⟨8, by omega, rfl, own_step (l := []) (r := b8 u) hown (by omega) (by simp [b8]), (HI2.out.alloc hsz.out _).trans hbel⟩, by simp [intOf]⟩
   ·obtain rfl : k = 8 := by omega
    obtain ⟨ao', cap', hv, hO⟩ := own_of hI.out.1 (B := 256) (by simpa [b8] using b8_dg u)
    subst hv
    have HO := hid hO
    clear hO
    have hb0 : Hid (Below w.heap.size w wr) := (Ba w _).trans (hI.out.2.mono (Nat.le_succ _))
    have hd0 := (hI.out.2.block w.heap.size (by omega)).trans (blk_new _ _ _)
    have HD0 := hid hd0
    clear hd0
    go_wp2_with fail
    refine (rwhole_any _ ao' 8 cap' _ wr HO.out.row (by omega)).mono ?_
    rintro e w1 ⟨x, en, rfl, hA, hb⟩
    have hval : val 256 ([] ++ (b8 u).take 8) = u := by
     have : [] ++ (b8 u).take 8 = b8 u := rfl
     rw [this]; exact b8_val u (by omega)
    rw [hval] at hA
    rcases hA with ⟨_, rfl, l, hI2, ht, hv⟩ | ⟨hbig, _⟩
    ·obtain ⟨ao2, n2, cap2, sg, rfl, HSG, R2⟩ := hI2.open_
     have hd1 := (hb.block w.heap.size (Array.getElem?_eq_some_iff.1 HD0.out).1).trans HD0.out
     have hq0 := blk_cell hd1 0
     have hq1 := blk_cell hd1 1
     have hqf0 := blk_free hd1 0
     have hqf1 := blk_free hd1 1
     have hlt1 : w.heap.size < w1.heap.size := (Array.getElem?_eq_some_iff.1 hd1).1
     simp at hq0 hq1
     have HR := hid R2
     have HT := hid ht
     have HVv := hid hv
     have HB := hid (Bt hb0.out hb)
     have HD1 := hid hd1
     clear hd1 R2 ht hv hb hval hI2
     go_wp2
     have hbx := box_set2_cells HD1.out sg (.slice ao2 n2 cap2) (.cells #[.bool sg, .slice ao2 n2 cap2] 55)
     refine bodyPost_ret (v := .agg #[.bool sg, .slice ao2 n2 cap2]) (by simp [results, Tryz.results32, go_sem, hbx.1, hbx.2]) rfl ⟨_, l, rfl, ⟨ao2, n2, cap2, ?_, (HR.out.setBox2 HD1.out _ _).below (Ba _ _)⟩, HT.out, ?_, ((HB.out.setCell (Nat.le_refl _) _).setCell (Nat.le_refl _) _).alloc (by simp [World.setCell]; omega) _⟩
     ·rw [HSG.out, e0]
     ·rw [HVv.out]; exact HU.out
    ·exact absurd hbig (not_big_64 u (by omega))
set_option maxHeartbeats 2000000 in
theorem rfrom_any (n : Int) (w : World) (h1 : -9223372036854775808 <= n) (h2 : n <= 9223372036854775807) :
  Calls Tryz.prog 32 #[.int .i64 n] w fun e w' => ∃ x l, e = .returned x /\ IntIs w' x (decide (n < 0) && decide (l ≠ [])) l /\ Tr l /\ val B32 l = n.natAbs /\ Below w.heap.size w w' := by
 obtain ⟨u, hu⟩ : ∃ u, u = n.natAbs := ⟨_, rfl⟩
 have hub : u <= 18446744073709551615 := by omega
 have HU := hid hu
 by_cases hneg : n < 0
 ·have e0 : decide (n < 0) = true := by simp [hneg]
  have hw : IntKind.u64.wrap (-IntKind.u64.wrap n) = (u : Int) := by rw [IntKind.wrap_u64, IntKind.wrap_u64]; omega
  clear hu
  exact rfrom_core n u true w hub HU.out e0 (.inl ⟨rfl, hneg, hw⟩)
 ·have e0 : decide (n < 0) = false := by simp [hneg]
  exact rfrom_core n u false w hub HU.out e0 (.inr ⟨rfl, by omega⟩)
theorem or_join (hi lo : Nat) (h1 : hi < 4294967296) (h2 : lo < 4294967296) : bits .or .u64 ((hi : Int) * 4294967296) (lo : Int) = ((hi * 4294967296 + lo : Nat) : Int) := by
 rw [show ((hi : Int) * 4294967296) = ((hi * 4294967296 : Nat) : Int) by omega, u64_or_nat _ _ (by omega) (by omega), nat_join 32 _ _ (by omega) (by omega)]
theorem div_fits (z v : Nat) (h : z / v < 4294967296) : IntKind.u64.wrap ((z : Int).tdiv v) % 4294967296 = ((z / v : Nat) : Int) := by
 rw [<- Int.ofNat_tdiv, IntKind.wrap_u64]; generalize z / v = q at *; omega
theorem mod_fits (z v : Nat) (h : z % v < 4294967296) : (z : Int).tmod v % 4294967296 = ((z % v : Nat) : Int) := by
 rw [<- Int.ofNat_tmod]; generalize z % v = q at *; omega
theorem ret_two {a b c d : Value} (h1 : a = c) (h2 : b = d) : Ending.returned (.tuple #[a, b]) = .returned (.tuple #[c, d]) := by rw [h1, h2]
set_option maxHeartbeats 400000 in
theorem div32_any (hi lo v : Nat) (hh : hi < v) (hl : lo < B32) (hv : v < B32) (w : World) :
  Calls Tryz.prog 134 #[.int .u32 hi, .int .u32 lo, .int .u32 v] w fun e w' => e = .returned (.tuple #[.int .u32 ((hi * B32 + lo) / v : Nat), .int .u32 ((hi * B32 + lo) % v : Nat)]) /\ ∃ k, w' = w.drewN k := by
 unfold B32 at *
 have e1 : ((v : Int) != 0) = true := by rw [bne_iff_ne]; omega
 have e2 : decide ((v : Int) <= hi) = false := by simp; omega
 have hor := or_join hi lo (by omega) hl
 obtain ⟨z, hz⟩ : ∃ z, z = hi * 4294967296 + lo := ⟨_, rfl⟩
 rw [<- hz] at hor ⊢
 have hq : z / v < 4294967296 := by
  rw [Nat.div_lt_iff_lt_mul (by omega)]
  have : (hi + 1) * 4294967296 <= v * 4294967296 := Nat.mul_le_mul_right _ hh
  omega
 have hr : z % v < 4294967296 := by have := Nat.mod_lt z (by omega : 0 < v); omega
 have hz2 : z < 18446744073709551616 := by omega
 have HQ : Hid (z / v < 4294967296) := hq
 have HR : Hid (z % v < 4294967296) := hr
 clear hz hq hr hz2
 go_enter Tryz.func134, Tryz.ntmps134
 go_wp2
 go_quiet (fail)
 go_wp2
 go_ret2
 refine ⟨ret_two ?_ ?_, nq, rfl⟩
 ·exact congrArg (Value.int .u32) (div_fits z v HQ.out)
 ·exact congrArg (Value.int .u32) (mod_fits z v HR.out)
theorem divStep {B r v q : Nat} (hv : 0 < v) (m : Nat) (L : List Nat) (hm : m < L.length) (h1 : val B (L.drop (m + 1)) = q * v + r) (hr : r < v) :
  val B (L.drop m) = ((r * B + L.getD m 0) / v + B * q) * v + (r * B + L.getD m 0) % v := by
 rw [val_drop_succ B L m hm, h1]
 have := Nat.div_add_mod (r * B + L.getD m 0) v
 rw [Nat.add_mul, Nat.mul_add, Nat.mul_assoc B q v, Nat.mul_comm B r]
 rw [Nat.mul_comm v] at this
 omega
theorem set_take_append {l q : List Nat} {m x : Nat} (hm : m < l.length) : (l.take (m + 1) ++ q).set m x = l.take m ++ (x :: q) := by
 rw [take_snoc l m hm, List.append_assoc, List.set_append, if_neg (by rw [List.length_take]; omega), List.length_take, Nat.min_eq_left (by omega)]
 simp
set_option maxHeartbeats 1000000 in
theorem divSmall_any (g o n cap : Nat) (cur : Array Value) (l : List Nat) (v : Nat) (w : World) (W : Win .u32 97 w g o n cur l) (hd : Dg B32 l) (hn : n <= maxLen) (hv0 : 0 < v) (hv : v < B32) :
  Calls Tryz.prog 111 #[.slice (some ⟨g, o, none⟩) n cap, .int .u32 v] w fun e w' => e = .returned (.int .u32 (val B32 l % v : Nat)) /\ ∃ l', Onto .u32 97 g o n w w' cur l' /\ Dg B32 l' /\ val B32 l' = val B32 l / v := by
 have HW : Hid (Win .u32 97 w g o n cur l) := W
 have HD : Hid (Dg B32 l) := hd
 have HL : Hid (l.length = n) := W.len
 unfold maxLen at hn
 clear W hd
 go_enter Tryz.func111, Tryz.ntmps111
 go_wp2
 go_loopw [5, 6] (fun t i wr => ∃ m r : Nat, ∃ q : List Nat, m <= n /\ i = .int .i64 ((m : Int) - 1) /\ t = .int .u32 r /\ r < v /\ Hid (q.length = n - m /\ Dg B32 q /\ val B32 (l.drop m) = val B32 q * v + r /\ Onto .u32 97 g o n w wr cur (l.take m ++ q))) (fun _ i _ => (intOf i + 1).toNat)
 case atStart => exact ⟨n, 0, [], Nat.le_refl _, rfl, rfl, hv0, by simp, Dg.nil _, by rw [List.drop_eq_nil_of_le (by rw [HL.out]; omega)]; simp [val], by
  rw [List.take_of_length_le (by rw [HL.out]; omega), List.append_nil]; exact HW.out.onto⟩
 case round =>
  obtain ⟨m, r, q, hm, rfl, rfl, hr, hH⟩ := hrel
  by_cases hz : m = 0
  ·subst hz
   go_wp2
   go_ret
   obtain ⟨h1, h2, h3, h4⟩ := hH.out
   rw [List.drop_zero] at h3
   rw [h3]
   refine ⟨congrArg (fun z : Nat => Ending.returned (.int .u32 (z : Int))) ?_, q, by simpa using h4, h2, ?_⟩
   ·rw [Nat.mul_comm, Nat.mul_add_mod, Nat.mod_eq_of_lt hr]
   ·rw [Nat.mul_comm, Nat.mul_add_div hv0, Nat.div_eq_of_lt hr]; rfl
  ·obtain ⟨p, rfl⟩ : ∃ p, m = p + 1 := ⟨m - 1, by omega⟩
   obtain ⟨d, hd⟩ : ∃ d, d = l.getD p 0 := ⟨_, rfl⟩
   have hll : p < l.length := by rw [HL.out]; omega
   have hdb : d < B32 := by rw [hd]; exact HD.out.getD _ hll
   have hc : wr.cell? ⟨g, o + p, none⟩ = some (.int .u32 d) := by
    have := hH.out.2.2.2.cell (i := p) (by omega)
    rw [getD_append_left (by rw [List.length_take]; omega), getD_take (by omega), <- hd] at this
    exact this
   have hf : wr.frozen? ⟨g, o + p, none⟩ = false := hH.out.2.2.2.frozen _
   have H1 : Hid (d = l.getD p 0) := hd
   have HP : Hid (p < l.length) := hll
   clear hd hll
   obtain ⟨Q, hQ⟩ : ∃ Q, Q = (r * B32 + d) / v := ⟨_, rfl⟩
   obtain ⟨R, hR⟩ : ∃ R, R = (r * B32 + d) % v := ⟨_, rfl⟩
   have HC : Hid (∀ w, Calls Tryz.prog 134 #[.int .u32 r, .int .u32 d, .int .u32 v] w fun e w' => e = .returned (.tuple #[.int .u32 Q, .int .u32 R]) /\ ∃ k, w' = w.drewN k) := fun w => by rw [hQ, hR]; exact div32_any r d v hr hdb hv w
   have HQ : Hid (Q = (r * B32 + d) / v) := hQ
   have HR : Hid (R = (r * B32 + d) % v) := hR
   have hRv : R < v := by rw [hR]; exact Nat.mod_lt _ hv0
   have HB : Hid (Q < B32) := by
    unfold Hid
    rw [hQ, Nat.div_lt_iff_lt_mul hv0]
    have : (r + 1) * B32 <= v * B32 := Nat.mul_le_mul_right _ hr
    rw [Nat.add_mul] at this
    rw [Nat.mul_comm B32 v]
    omega
   clear hQ hR
   go_wp2_with (go_at_call 134; refine (HC.out _).mono ?_; rintro e w' ⟨rfl, q1, rfl⟩)
   obtain ⟨h1, h2, h3, h4⟩ := hH.out
   refine ⟨⟨p, R, Q :: q, by omega, rfl, rfl, hRv, ?_, ?_, ?_, ?_⟩, by simp [intOf] <;> omega⟩
   ·simp [h1]; omega
   ·exact fun x hx => by rcases List.mem_cons.1 hx with rfl | hx; exact HB.out; exact h2 x hx
   ·rw [divStep hv0 p l HP.out h3 hr, <- H1.out, <- HQ.out, <- HR.out, val_cons]
   ·rw [<- set_take_append HP.out]; exact (h4.drewN q1).store (by omega) Q
set_option maxHeartbeats 400000 in
theorem isRadix_any (r : Int) (w : World) :
  Calls Tryz.prog 103 #[.int .i64 r] w fun e w' => e = .returned (.bool (decide (2 <= r /\ r <= 36))) /\ w' = w := by
 by_cases h1 : 2 <= r
 ·have e1 : decide ((2 : Int) <= r) = true := by simp [h1]
  go_enter Tryz.func103, Tryz.ntmps103
  go_wp2
  go_ret
  exact ⟨ret_bool (by simp [h1]), rfl⟩
 ·have e1 : decide ((2 : Int) <= r) = false := by simp; omega
  go_enter Tryz.func103, Tryz.ntmps103
  go_wp2
  go_ret
  exact ⟨ret_bool (by simp [h1]), rfl⟩
def dgt (c : Nat) : Nat := if 48 <= c /\ c <= 57 then c - 48 else if 97 <= c /\ c <= 122 then c - 87 else if 65 <= c /\ c <= 90 then c - 55 else 36
theorem dgt_le (c : Nat) : dgt c <= 36 := by unfold dgt; split <;>(try split) <;>(try split) <;> omega
set_option maxHeartbeats 800000 in
theorem digitOf_any (c : Nat) (hc : c < 256) (w : World) :
  Calls Tryz.prog 132 #[.int .u8 c] w fun e w' => e = .returned (.int .i64 (dgt c)) /\ w' = w := by
 by_cases a1 : 48 <= c /\ c <= 57
 ·obtain ⟨a, b⟩ := a1
  have HV : Hid (dgt c = c - 48) := by unfold Hid dgt; rw [if_pos ⟨a, b⟩]
  go_enter Tryz.func132, Tryz.ntmps132
  go_wp2
  go_ret
  exact ⟨ret_i64 (by rw [HV.out]; omega), rfl⟩
 ·by_cases a2 : 97 <= c /\ c <= 122
  ·obtain ⟨a, b⟩ := a2
   have HV : Hid (dgt c = c - 87) := by unfold Hid dgt; rw [if_neg a1, if_pos ⟨a, b⟩]
   clear a1
   go_enter Tryz.func132, Tryz.ntmps132
   go_wp2
   go_ret
   exact ⟨ret_i64 (by rw [HV.out]; omega), rfl⟩
  ·by_cases a3 : 65 <= c /\ c <= 90
   ·obtain ⟨a, b⟩ := a3
    have HV : Hid (dgt c = c - 55) := by unfold Hid dgt; rw [if_neg a1, if_neg a2, if_pos ⟨a, b⟩]
    clear a1 a2
    go_enter Tryz.func132, Tryz.ntmps132
    go_wp2
    go_ret
    exact ⟨ret_i64 (by rw [HV.out]; omega), rfl⟩
   ·have HV : Hid (dgt c = 36) := by unfold Hid dgt; rw [if_neg a1, if_neg a2, if_neg a3]
    have hr : c < 48 \/ (57 < c /\ c < 65) \/ (90 < c /\ c < 97) \/ 122 < c := by omega
    clear a1 a2 a3
    rcases hr with h | ⟨h, h'⟩ | ⟨h, h'⟩ | h
    all_goals
     go_enter Tryz.func132, Tryz.ntmps132
     go_wp2
     go_ret
     exact ⟨ret_i64 (by rw [HV.out]; rfl), rfl⟩
theorem mulStep {B f vq P vt d x cc : Nat} (h : vq + P * cc = vt * f + d) : vq + P * ((x * f + cc) % B) + P * B * ((x * f + cc) / B) = (vt + P * x) * f + d := by
 have h1 := Nat.div_add_mod (x * f + cc) B
 have h2 : P * ((x * f + cc) % B) + P * B * ((x * f + cc) / B) = P * (x * f + cc) := by
  rw [Nat.mul_assoc, <- Nat.mul_add, Nat.add_comm ((x * f + cc) % B), h1]
 rw [Nat.add_assoc, h2, Nat.mul_add, Nat.add_mul, Nat.mul_assoc P x f]
 omega
theorem set_append_drop {q l : List Nat} {m x : Nat} (hq : q.length = m) (hm : m < l.length) : (q ++ l.drop m).set m x = q ++ [x] ++ l.drop (m + 1) := by
 rw [drop_cons l m hm, List.set_append, if_neg (by omega), hq, Nat.sub_self]
 simp
set_option maxHeartbeats 1000000 in
theorem mulSmall_any (g o n cap : Nat) (cur : Array Value) (l : List Nat) (f d : Nat) (w : World) (W : Win .u32 97 w g o n cur l) (hdg : Dg B32 l) (hn : n <= maxLen) (hf : f < B32) (hd : d < B32) :
  Calls Tryz.prog 133 #[.slice (some ⟨g, o, none⟩) n cap, .int .u32 f, .int .u32 d] w fun e w' => ∃ l' c, e = .returned (.int .u32 (c : Nat)) /\ Onto .u32 97 g o n w w' cur l' /\ Dg B32 l' /\ c < B32 /\ val B32 l' + B32 ^ n * c = val B32 l * f + d := by
 have HW := hid W
 have HD := hid hdg
 have HL := hid W.len
 unfold maxLen at hn
 unfold B32 at hf hd
 clear W hdg
 go_enter Tryz.func133, Tryz.ntmps133
 go_wp2
 go_loopw [7, 8, 9, 10, 15] (fun c _ _ _ i wr => ∃ m : Nat, ∃ cc : Nat, ∃ q : List Nat, m <= n /\ i = .int .i64 m /\ c = .int .u64 cc /\ cc < 4294967296 /\ Hid (q.length = m /\ Dg B32 q /\ val B32 q + B32 ^ m * cc = val B32 (l.take m) * f + d /\ Onto .u32 97 g o n w wr cur (q ++ l.drop m))) (fun _ _ _ _ i _ => n - (intOf i).toNat)
 case atStart => exact ⟨0, d, [], Nat.zero_le _, rfl, rfl, hd, rfl, Dg.nil _, by simp [val], by simpa using HW.out.onto⟩
 case round =>
  obtain ⟨m, cc, q, hm, rfl, rfl, hcc, hI⟩ := hrel
  by_cases hlt : m < n
  ·obtain ⟨x, hx⟩ : ∃ x, x = l.getD m 0 := ⟨_, rfl⟩
   have hll : m < l.length := by rw [HL.out]; exact hlt
   have hxb : x < 4294967296 := by rw [hx]; exact HD.out.getD _ hll
   have hc : wr.cell? ⟨g, o + m, none⟩ = some (.int .u32 x) := by
    have := hI.out.2.2.2.cell (i := m) hlt
    rw [List.getD_eq_getElem?_getD, List.getElem?_append_right (by rw [hI.out.1]; omega), hI.out.1, Nat.sub_self, List.getElem?_drop, Nat.add_zero, <- List.getD_eq_getElem?_getD, <- hx] at this
    exact this
   have hfz : wr.frozen? ⟨g, o + m, none⟩ = false := hI.out.2.2.2.frozen _
   have HX := hid hx
   have HLL := hid hll
   clear hx hll
   have hb : x * f + cc <= 18446744073709551615 := by
    have : x * f <= 4294967295 * 4294967295 := Nat.mul_le_mul (by omega) (by omega)
    omega
   obtain ⟨t, ht⟩ : ∃ t, t = x * f + cc := ⟨_, rfl⟩
   have HT := hid ht
   clear ht
   go_wp2
   obtain ⟨h1, h2, h3, h4⟩ := hI.out
   have e1 : ((x : Int) * f + cc) / 4294967296 = ((t / 4294967296 : Nat) : Int) := by rw [HT.out]; omega
   have e2 : ((x : Int) * f + cc) % 4294967296 = ((t % 4294967296 : Nat) : Int) := by rw [HT.out]; omega
   rw [e1, e2]
   refine ⟨⟨m + 1, t / 4294967296, q ++ [t % 4294967296], by omega, by go_num, rfl, ?_, ?_, ?_, ?_, ?_⟩, by simp [intOf]; omega⟩
   ·rw [HT.out]; omega
   ·simp [h1]
   ·exact h2.append (Dg.one (Nat.mod_lt _ (by decide)))
   ·rw [val_snoc, h1, val_take_succ B32 l m HLL.out, <- HX.out, HT.out, Nat.pow_succ]
    exact mulStep h3
   ·rw [<- set_append_drop h1 HLL.out]
    exact h4.store hlt _
  ·obtain rfl : m = n := by omega
   go_wp2
   go_ret
   obtain ⟨h1, h2, h3, h4⟩ := hI.out
   refine ⟨q, cc, rfl, ?_, h2, hcc, ?_⟩
   ·rw [List.drop_eq_nil_of_le (by rw [HL.out]; omega), List.append_nil] at h4; exact h4
   ·rw [List.take_of_length_le (by rw [HL.out]; omega)] at h3; exact h3
end Go.Proofs.YtbkfinjajkjhaaaGreatDoor
