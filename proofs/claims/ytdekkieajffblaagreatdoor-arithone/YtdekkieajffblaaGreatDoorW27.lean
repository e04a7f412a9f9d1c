import Derived.Test.YtdekkieajffblaaGreatDoorW15
import Derived.Laws.BitsAllLaws
import Derived.Test.YtdekkieajffblaaGreatDoorW10
set_option linter.unusedVariables false
set_option linter.unusedSimpArgs false
namespace Go.Proofs.YtdekkieajffblaaGreatDoor
open Go.RowKit
theorem val_set {B : Nat} : ∀ {L : List Nat} {p x : Nat}, p < L.length -> val B (L.set p x) + B ^ p * L.getD p 0 = val B L + B ^ p * x
 | [], p, x, h => by simp at h
 | y :: L, 0, x, _ => by simp [val, List.getD]; omega
 | y :: L, p + 1, x, h => by
  have ih := val_set (B := B) (L := L) (p := p) (x := x) (by simpa using h)
  simp only [List.set_cons_succ, val_cons, List.getD_cons_succ, Nat.pow_succ]
  have h1 : B * (val B (L.set p x) + B ^ p * L.getD p 0) = B * (val B L + B ^ p * x) := by rw [ih]
  rw [Nat.mul_add, Nat.mul_add] at h1
  rw [Nat.mul_comm (B ^ p) B, Nat.mul_assoc, Nat.mul_assoc]
  omega
theorem Dg.set {B : Nat} {L : List Nat} (h : Dg B L) {p x : Nat} (hx : x < B) : Dg B (L.set p x) := by
 intro y hy
 rcases List.mem_or_eq_of_mem_set hy with h' | h'
 ·exact h y h'
 ·omega
theorem val_zeros (B N : Nat) : val B (List.replicate N 0) = 0 := by
 induction N with
 | zero => rfl
 | succ N ih => rw [List.replicate_succ, val_cons, ih]; simp
theorem Dg.zeros {B : Nat} (hB : 0 < B) (N : Nat) : Dg B (List.replicate N 0) := by
 intro x hx
 rw [List.mem_replicate] at hx
 omega
theorem getD_zeros (N i : Nat) : (List.replicate N 0).getD i 0 = 0 := by
 rw [List.getD_eq_getElem?_getD, List.getElem?_replicate]
 split <;> rfl
theorem made_win (w : World) (k : IntKind) (e : TypeId) (N : Nat) : Win k e (w.alloc (.cells (madeCells #[.int k 0] N) e)) w.heap.size 0 N (madeCells #[.int k 0] N) (List.replicate N 0) := by
 refine ⟨blk_new _ _ _, by rw [size_madeCells]; omega, by simp, fun i hi => ?_⟩
 rw [Nat.zero_add, <- Array.getElem?_toList, toList_madeCells_one, List.getElem?_replicate, if_pos hi, getD_zeros]
 rfl
theorem mul_step {B L Lp P Vi xb x y c r : Nat} (h : L + P * c = Vi + xb) (hset : r + P * Lp = L + P * ((x * y + Lp + c) % B)) : r + P * B * ((x * y + Lp + c) / B) = Vi + (xb + P * (x * y)) := by
 have h1 := Nat.div_add_mod (x * y + Lp + c) B
 have h2 : P * ((x * y + Lp + c) % B) + P * B * ((x * y + Lp + c) / B) = P * (x * y + Lp + c) := by
  rw [Nat.mul_assoc, <- Nat.mul_add, Nat.add_comm ((x * y + Lp + c) % B), h1]
 rw [Nat.mul_add, Nat.mul_add] at h2
 omega
set_option maxHeartbeats 2000000 in
theorem mulRows_any (ao ao' : Option Addr) (n cap n' cap' : Nat) (l l' : List Nat) (w : World) (R : Row .u32 B32 w ao n cap l) (R' : Row .u32 B32 w ao' n' cap' l') (hs : n <= 40) (hs' : n' <= 40) :
  Calls Tryz.prog 50 #[.slice ao n cap, .slice ao' n' cap'] w fun e w' => ∃ a2 c2 L, e = .returned (.slice a2 (n + n') c2) /\ Row .u32 B32 w' a2 (n + n') c2 L /\ val B32 L = val B32 l * val B32 l' /\ Below w.heap.size w w' := by
 have HR := hid R
 have HR' := hid R'
 have HL := hid R.len
 have HL' := hid R'.len
 clear R R'
 obtain ⟨N, hN⟩ : ∃ N, N = n + n' := ⟨_, rfl⟩
 have hmk := fun wx => run_make_row' (P := Tryz.prog) 22 58 (.int .u32 0) 4 Tryz.underlying22 info_u32 rfl .i64 .i64 N (by omega) (by omega) wx
 rw [show ((N : Nat) : Int) = (n : Int) + n' by omega] at hmk
 have hN1 : n + n' <= N := by omega
 have hN2 : N <= n + n' := by omega
 have HN := hid hN
 clear hN
 go_enter Tryz.func50, Tryz.ntmps50
 go_wp2
 have hW0 := made_win w .u32 58 N
 have hb0 := Ba w (.cells (madeCells #[.int .u32 0] N) 58)
 obtain ⟨g, hg⟩ : ∃ g, g = w.heap.size := ⟨_, rfl⟩
 rw [<- hg] at hW0
 generalize hWW : w.alloc (.cells (madeCells #[.int .u32 0] N) 58) = W0 at *
 generalize madeCells #[.int .u32 0] N = cur at *
 have HW0 := hid hW0
 have HB0 := hid hb0
 have HG := hid hg
 rw [<- hg]
 clear hmk hWW hW0 hb0 hg
 go_loopw [20] (fun i wr => ∃ k : Nat, ∃ L : List Nat, k <= n /\ i = .int .i64 k /\ Hid (Onto .u32 58 g 0 N W0 wr cur L /\ Dg B32 L /\ val B32 L = val B32 (l.take k) * val B32 l' /\ ∀ p, k + n' <= p -> L.getD p 0 = 0)) (fun i _ => n - (intOf i).toNat)
 case atStart => exact ⟨0, List.replicate N 0, Nat.zero_le _, rfl, HW0.out.onto, Dg.zeros (by decide) N, by rw [val_zeros]; simp [val], fun p _ => getD_zeros _ _⟩
 case round =>
  obtain ⟨k, L, hk, rfl, hI⟩ := hrel
  by_cases hlt : k < n
  ·obtain ⟨wo, rfl⟩ : ∃ wo : World, wo = wr := ⟨_, rfl⟩
   obtain ⟨b, o, rfl, hl, hc⟩ := HR.out.rd.some (by rw [HL.out]; omega)
   obtain ⟨x, hx⟩ : ∃ x, x = l.getD k 0 := ⟨_, rfl⟩
   have hxb : x < 4294967296 := by rw [hx]; exact HR.out.dg.getD _ (by rw [HL.out]; exact hlt)
   have hcx : wo.cell? ⟨b, o + k, none⟩ = some (.int .u32 x) := by
    rw [hI.out.1.other (by rw [HG.out]; omega), HB0.out.cell (p := ⟨b, o + k, none⟩) hl, hc k (by rw [HL.out]; exact hlt), hx]
   have HX := hid hx
   clear hc hx
   go_wp2
   go_loopw [8, 27] (fun c i wr => ∃ j cc : Nat, ∃ M : List Nat, j <= n' /\ i = .int .i64 j /\ c = .int .u64 cc /\ cc < 4294967296 /\ Hid (Onto .u32 58 g 0 N W0 wr cur M /\ Dg B32 M /\ val B32 M + B32 ^ (k + j) * cc = val B32 (l.take k) * val B32 l' + B32 ^ k * (x * val B32 (l'.take j)) /\ ∀ p, k + n' <= p -> M.getD p 0 = 0)) (fun _ i _ => n' - (intOf i).toNat)
   case atStart => exact ⟨0, 0, L, Nat.zero_le _, rfl, rfl, by omega, hI.out.1, hI.out.2.1, by rw [hI.out.2.2.1]; simp [val], hI.out.2.2.2⟩
   case round =>
    obtain ⟨j, cc, M, hj, rfl, rfl, hcc, hJ⟩ := hrel
    have hML := hJ.out.1.len
    by_cases hjlt : j < n'
    ·obtain ⟨b', o', rfl, hl', hc'⟩ := HR'.out.rd.some (by rw [HL'.out]; omega)
     obtain ⟨y, hy⟩ : ∃ y, y = l'.getD j 0 := ⟨_, rfl⟩
     have hyb : y < 4294967296 := by rw [hy]; exact HR'.out.dg.getD _ (by rw [HL'.out]; exact hjlt)
     have hcy : wr.cell? ⟨b', o' + j, none⟩ = some (.int .u32 y) := by
      rw [hJ.out.1.other (by rw [HG.out]; omega), HB0.out.cell (p := ⟨b', o' + j, none⟩) hl', hc' j (by rw [HL'.out]; exact hjlt), hy]
     obtain ⟨z, hz⟩ : ∃ z, z = M.getD (k + j) 0 := ⟨_, rfl⟩
     have hzb : z < 4294967296 := by rw [hz]; exact hJ.out.2.1.getD _ (by rw [hML]; omega)
     have hcz : wr.cell? ⟨g, k + j, none⟩ = some (.int .u32 z) := by
      have := hJ.out.1.cell (i := k + j) (by omega)
      rw [Nat.zero_add, <- hz] at this
      exact this
     have hfz : wr.frozen? ⟨g, k + j, none⟩ = false := hJ.out.1.frozen _
     have HY := hid hy
     have HZ := hid hz
     have HML := hid hML
     clear hy hz hc' hML
     have hb : x * y + z + cc <= 18446744073709551615 := by
      have : x * y <= 4294967295 * 4294967295 := Nat.mul_le_mul (by omega) (by omega)
      omega
     obtain ⟨t, ht⟩ : ∃ t, t = x * y + z + cc := ⟨_, rfl⟩
     have HT := hid ht
     clear ht
     go_wp2
     have e1 : ((x : Int) * y + z + cc) / 4294967296 = ((t / 4294967296 : Nat) : Int) := by rw [HT.out]; omega
     have e2 : ((x : Int) * y + z + cc) % 4294967296 = ((t % 4294967296 : Nat) : Int) := by rw [HT.out]; omega
     rw [e1, e2]
     obtain ⟨j1, j2, j3, j4⟩ := hJ.out
     refine ⟨⟨j + 1, t / 4294967296, M.set (k + j) (t % 4294967296), by omega, by go_num, rfl, ?_, ?_, ?_, ?_, ?_⟩, by simp [intOf]; omega⟩
     ·rw [HT.out]; omega
     ·have := j1.store (i := k + j) (by omega) (t % 4294967296)
      rw [Nat.zero_add] at this
      exact this
     ·exact j2.set (Nat.mod_lt _ (by decide))
     ·have hset := val_set (B := B32) (L := M) (p := k + j) (x := t % B32) (by rw [HML.out]; omega)
      rw [<- HZ.out, HT.out] at hset
      have h1 := mul_step j3 hset
      rw [val_take_succ B32 l' j (by rw [HL'.out]; exact hjlt), <- HY.out, <- Nat.add_assoc k j 1, Nat.pow_succ, HT.out]
      have h2 : B32 ^ k * (x * (val B32 (l'.take j) + B32 ^ j * y)) = B32 ^ k * (x * val B32 (l'.take j)) + B32 ^ (k + j) * (x * y) := by
       rw [Nat.mul_add, Nat.mul_add, Nat.pow_add, Nat.mul_assoc, Nat.mul_left_comm x]
      rw [h2]
      exact h1
     ·intro p hp
      rw [getD_set (by rw [HML.out]; omega), if_neg (by omega)]
      exact j4 p hp
    ·obtain rfl : j = n' := by omega
     have hcz : wr.cell? ⟨g, k + j, none⟩ = some (.int .u32 0) := by
      have := hJ.out.1.cell (i := k + j) (by omega)
      rw [Nat.zero_add, hJ.out.2.2.2 (k + j) (Nat.le_refl _)] at this
      exact this
     have hfz : wr.frozen? ⟨g, k + j, none⟩ = false := hJ.out.1.frozen _
     have HML := hid hML
     clear hML
     go_wp2
     obtain ⟨j1, j2, j3, j4⟩ := hJ.out
     refine ⟨⟨k + 1, M.set (k + j) cc, by omega, by go_num, ?_, ?_, ?_, ?_⟩, by simp [intOf]; omega⟩
     ·have := j1.store (i := k + j) (by omega) cc
      rw [Nat.zero_add] at this
      exact this
     ·exact j2.set hcc
     ·have hset := val_set (B := B32) (L := M) (p := k + j) (x := cc) (by rw [HML.out]; omega)
      rw [j4 (k + j) (Nat.le_refl _), j3, List.take_of_length_le (l := l') (i := j) (by rw [HL'.out]; exact Nat.le_refl _)] at hset
      rw [val_take_succ B32 l k (by rw [HL.out]; exact hlt), <- HX.out, Nat.add_mul, Nat.mul_assoc]
      simpa using hset
     ·intro p hp
      rw [getD_set (by rw [HML.out]; omega), if_neg (by omega)]
      exact j4 p (by omega)
  ·obtain rfl : k = n := by omega
   go_wp2
   go_ret
   obtain ⟨i1, i2, i3, i4⟩ := hI.out
   rw [List.take_of_length_le (by rw [HL.out]; omega)] at i3
   refine ⟨some ⟨g, 0, none⟩, N, L, ?_, ?_, i3, HB0.out.trans (i1.below (by rw [HG.out]; exact Nat.le_refl _))⟩
   ·rw [<- HN.out]; rfl
   ·rw [<- HN.out]; exact i1.row_ i2 (Nat.le_refl _) (by unfold maxLen; omega)
def FitPost (w : World) (neg : Bool) (v : Nat) (e : Ending) (w' : World) : Prop := ∃ x en, e = .returned (.tuple #[x, .int .i64 en]) /\ Ans w' x en neg v /\ Below w.heap.size w w'
set_option maxHeartbeats 1000000 in
theorem fitting_any (neg : Bool) (ao : Option Addr) (n cap : Nat) (l : List Nat) (w : World) (R : Row .u32 B32 w ao n cap l) :
  Calls Tryz.prog 46 #[.bool neg, .slice ao n cap] w (FitPost w neg (val B32 l)) := by
 have HR := hid R
 clear R
 go_enter Tryz.func46, Tryz.ntmps46
 go_wp2_with fail
 refine (whole_any neg ao n cap l _ (HR.out.below (Ba _ _))).mono ?_
 rintro e w1 ⟨x, lr, rfl, hI, htr, hvr, hlr, hb1⟩
 obtain ⟨ax, nx, cx, sg, rfl, HSG, Rx⟩ := hI.open_
 have X := hid ((Box.new 24 w false none 0 0).on hb1)
 have HB := hid (Bt (Ba w (.cells #[.bool false, .slice none 0 0] 24)) hb1)
 have HT := hid htr
 have HV := hid hvr
 have HRx := hid Rx
 have hmx := Rx.most
 have hft := Rx.fits
 unfold maxLen at hmx
 have hlt : w.heap.size < w1.heap.size := X.out.lt
 obtain ⟨q0, q1⟩ := X.out.c
 obtain ⟨f0, f1⟩ := X.out.f
 clear hI htr hvr hb1 Rx HR
 by_cases h40 : nx <= 40
 ·have e40 : decide ((40 : Int) < nx) = false := by simp; omega
  go_wp2
  have hbx := box_set2_cells X.out sg (.slice ax nx cx) (.cells #[.bool sg, .slice ax nx cx] 24)
  refine bodyPost_ret (v := .tuple #[.agg #[.bool sg, .slice ax nx cx], .int .i64 0]) (by simp [results, Tryz.results46, go_sem, hbx.1, hbx.2]) rfl ⟨_, _, rfl, .inl ⟨?_, rfl, lr, ⟨ax, nx, cx, ?_, (HRx.out.setBox2 X.out _ _).below (Ba _ _)⟩, HT.out, HV.out⟩, ((HB.out.setCell (Nat.le_refl _) _).setCell (Nat.le_refl _) _).alloc (by simp [World.setCell]; omega) _⟩
  ·rw [<- HV.out, <- small_len HRx.out.dg HT.out, HRx.out.len]; exact h40
  ·rw [HSG.out]
 ·have e40 : decide ((40 : Int) < nx) = true := by simp; omega
  go_wp2
  have hbx := box_set2_cells X.out false (.slice none 0 0) (.cells #[.bool sg, .slice ax nx cx] 24)
  refine bodyPost_ret (v := .tuple #[.agg #[.bool false, .slice none 0 0], .int .i64 10]) (by simp [results, Tryz.results46, go_sem, hbx.1, hbx.2]) rfl ⟨_, _, rfl, .inr ⟨?_, rfl, rfl⟩, ((HB.out.setCell (Nat.le_refl _) _).setCell (Nat.le_refl _) _).alloc (by simp [World.setCell]; omega) _⟩
  have := small_len HRx.out.dg HT.out
  rw [HRx.out.len, HV.out] at this
  exact Classical.byContradiction fun h => h40 (this.2 h)
set_option maxHeartbeats 400000 in
theorem add32_any (x y c : Nat) (hx : x < B32) (hy : y < B32) (hc : c <= 1) (w : World) :
  Calls Tryz.prog 96 #[.int .u32 x, .int .u32 y, .int .u32 c] w fun e w' => e = .returned (.tuple #[.int .u32 ((x + y + c) % B32 : Nat), .int .u32 ((x + y + c) / B32 : Nat)]) /\ w' = w := by
 unfold B32 at *
 go_enter Tryz.func96, Tryz.ntmps96
 go_wp2
 go_ret2
 refine ⟨ret_two ?_ ?_, rfl⟩
 ·exact congrArg (Value.int .u32) (by omega)
 ·exact congrArg (Value.int .u32) (by omega)
theorem top31 (v : Nat) (h : v < 4294967296) : v.testBit 31 = decide (2147483648 <= v) := by
 rw [Nat.testBit_eq_decide_div_mod_eq, decide_eq_decide]
 omega
theorem div31 (v : Nat) (h : v < 4294967296) : v / 2147483648 = (v.testBit 31).toNat := by
 rw [top31 v h]
 by_cases h' : 2147483648 <= v
 ·simp [h']; omega
 ·simp [h']; omega
theorem xlt {a b : Nat} (ha : a < 4294967296) (hb : b < 4294967296) : a ^^^ b < 4294967296 := Nat.xor_lt_two_pow (n := 32) ha hb
theorem alt {a b : Nat} (hb : b < 4294967296) : a &&& b < 4294967296 := Nat.and_lt_two_pow (n := 32) a hb
theorem olt {a b : Nat} (ha : a < 4294967296) (hb : b < 4294967296) : a ||| b < 4294967296 := Nat.or_lt_two_pow (n := 32) ha hb
theorem borrow_bit (x y d c : Nat) (hx : x < 4294967296) (hy : y < 4294967296) (hc : c <= 1) (hd : d = (x + 4294967296 - y - c) % 4294967296) :
  (((4294967295 ^^^ x) &&& y) ||| ((4294967295 ^^^ (x ^^^ y)) &&& d)) / 2147483648 = if x < y + c then 1 else 0 := by
 have hd2 : d < 4294967296 := by omega
 rw [div31 _ (olt (alt hy) (alt hd2))]
 rw [Nat.testBit_or, Nat.testBit_and, Nat.testBit_and, Nat.testBit_xor, Nat.testBit_xor, Nat.testBit_xor, top31 x hx, top31 y hy, top31 d hd2, top31 4294967295 (by decide)]
 by_cases h1 : 2147483648 <= x <;> by_cases h2 : 2147483648 <= y <;> by_cases h3 : 2147483648 <= d <;> by_cases h4 : x < y + c <;> simp [h1, h2, h3, h4] <;> omega
theorem borrow_int (x y c : Nat) (hx : x < 4294967296) (hy : y < 4294967296) (hc : c <= 1) :
  bits .or .u32 (bits .and .u32 (bits .xor .u32 IntKind.u32.max x) y) (bits .and .u32 (bits .xor .u32 IntKind.u32.max (bits .xor .u32 x y)) (((x : Int) - y - c) % 4294967296)) / 2147483648 = ((if x < y + c then 1 else 0 : Nat) : Int) := by
 obtain ⟨d, hd⟩ : ∃ d, d = (x + 4294967296 - y - c) % 4294967296 := ⟨_, rfl⟩
 have hd2 : d < 4294967296 := by omega
 have e1 : ((x : Int) - y - c) % 4294967296 = (d : Int) := by omega
 rw [e1, show IntKind.u32.max = ((4294967295 : Nat) : Int) from rfl, u32_xor_nat 4294967295 x (by decide) hx, u32_xor_nat x y hx hy, u32_xor_nat _ _ (by decide) (xlt hx hy), u32_and_nat _ _ (xlt (by decide) hx) hy,
  u32_and_nat _ _ (xlt (by decide) (xlt hx hy)) hd2, u32_or_nat _ _ (alt hy) (alt hd2), <- borrow_bit x y d c hx hy hc hd]
 omega
set_option maxHeartbeats 400000 in
theorem sub32_any (x y c : Nat) (hx : x < B32) (hy : y < B32) (hc : c <= 1) (w : World) :
  Calls Tryz.prog 75 #[.int .u32 x, .int .u32 y, .int .u32 c] w fun e w' => e = .returned (.tuple #[.int .u32 ((x + B32 - y - c) % B32 : Nat), .int .u32 (if x < y + c then 1 else 0 : Nat)]) /\ w' = w := by
 unfold B32 at *
 have HB := hid (borrow_int x y c hx hy hc)
 obtain ⟨b, hb⟩ : ∃ b : Nat, b = if x < y + c then 1 else 0 := ⟨_, rfl⟩
 rw [<- hb] at HB
 rw [<- hb]
 obtain ⟨d, hd⟩ : ∃ d : Nat, d = (x + 4294967296 - y - c) % 4294967296 := ⟨_, rfl⟩
 have e1 : ((x : Int) - y - c) % 4294967296 = (d : Int) := by omega
 rw [<- hd]
 have HE := hid e1
 clear hb hd e1
 go_enter Tryz.func75, Tryz.ntmps75
 go_wp2
 all_goals go_ret2
 all_goals refine ⟨ret_two ?_ ?_, rfl⟩
 all_goals first | exact congrArg (Value.int .u32) HE.out | exact congrArg (Value.int .u32) HB.out | trace_state
theorem val_take_next (B : Nat) (l : List Nat) (m : Nat) : val B (l.take (m + 1)) = val B (l.take m) + B ^ m * l.getD m 0 := by
 by_cases h : m < l.length
 ·exact val_take_succ B l m h
 ·rw [List.take_of_length_le (by omega), List.take_of_length_le (by omega), List.getD_eq_getElem?_getD, List.getElem?_eq_none (by omega)]
  simp
theorem getD_lt {B : Nat} {l : List Nat} (h : Dg B l) (hB : 0 < B) (m : Nat) : l.getD m 0 < B := by
 by_cases hm : m < l.length
 ·exact h.getD _ hm
 ·rw [List.getD_eq_getElem?_getD, List.getElem?_eq_none (by omega)]; exact hB
theorem addStep {B P q c vl vl' x y : Nat} (h : q + P * c = vl + vl') : q + P * ((x + y + c) % B) + P * B * ((x + y + c) / B) = vl + P * x + (vl' + P * y) := by
 have h1 := Nat.div_add_mod (x + y + c) B
 have h2 : P * ((x + y + c) % B) + P * B * ((x + y + c) / B) = P * (x + y + c) := by
  rw [Nat.mul_assoc, <- Nat.mul_add, Nat.add_comm ((x + y + c) % B), h1]
 rw [Nat.mul_add, Nat.mul_add] at h2
 omega
set_option maxHeartbeats 2000000 in
theorem addInto_any (g o n cap : Nat) (cur : Array Value) (l : List Nat) (ao' : Option Addr) (n' cap' : Nat) (l' : List Nat) (w : World) (W : Win .u32 58 w g o n cur l) (hdg : Dg B32 l) (hn : n <= maxLen)
  (R' : Row .u32 B32 w ao' n' cap' l') (hne : n' ≠ 0 -> ∀ ad, ao' = some ad -> ad.block ≠ g) :
  Calls Tryz.prog 73 #[.slice (some ⟨g, o, none⟩) n cap, .slice ao' n' cap'] w fun e w' => e = .returned (.tuple #[]) /\ ∃ L c, Onto .u32 58 g o n w w' cur L /\ Dg B32 L /\ c <= 1 /\ val B32 L + B32 ^ n * c = val B32 l + val B32 (l'.take n) := by
 have HW := hid W
 have HD := hid hdg
 have HL := hid W.len
 have HR' := hid R'
 have HL' := hid R'.len
 have HNE := hid hne
 have hmx' := R'.most
 have hft' := R'.fits
 unfold maxLen at hn hmx'
 clear W hdg R' hne
 go_enter Tryz.func73, Tryz.ntmps73
 go_wp2
 go_loopw [4, 9] (fun c i wr => ∃ m : Nat, ∃ cc : Nat, ∃ q : List Nat, m <= n /\ i = .int .i64 m /\ c = .int .u32 cc /\ cc <= 1 /\ Hid (q.length = m /\ Dg B32 q /\ val B32 q + B32 ^ m * cc = val B32 (l.take m) + val B32 (l'.take m) /\ Onto .u32 58 g o n w wr cur (q ++ l.drop m))) (fun _ i _ => n - (intOf i).toNat)
 case atStart => exact ⟨0, 0, [], Nat.zero_le _, rfl, rfl, by omega, rfl, Dg.nil _, by simp [val], by simpa using HW.out.onto⟩
 case round =>
  obtain ⟨m, cc, q, hm, rfl, rfl, hcc, hI⟩ := hrel
  by_cases hlt : m < n
  ·obtain ⟨x, hx⟩ : ∃ x, x = l.getD m 0 := ⟨_, rfl⟩
   obtain ⟨y, hy⟩ : ∃ y, y = l'.getD m 0 := ⟨_, rfl⟩
   have hll : m < l.length := by rw [HL.out]; exact hlt
   have hxb : x < B32 := by rw [hx]; exact HD.out.getD _ hll
   have hyb : y < B32 := by rw [hy]; exact getD_lt HR'.out.dg (by decide) _
   have hc : wr.cell? ⟨g, o + m, none⟩ = some (.int .u32 x) := by
    have := hI.out.2.2.2.cell (i := m) hlt
    rw [List.getD_eq_getElem?_getD, List.getElem?_append_right (by rw [hI.out.1]; omega), hI.out.1, Nat.sub_self, List.getElem?_drop, Nat.add_zero, <- List.getD_eq_getElem?_getD, <- hx] at this
    exact this
   have hfz : wr.frozen? ⟨g, o + m, none⟩ = false := hI.out.2.2.2.frozen _
   have HX := hid hx
   have HY := hid hy
   have HLL := hid hll
   obtain ⟨Q, hQ⟩ : ∃ Q, Q = (x + y + cc) % B32 := ⟨_, rfl⟩
   obtain ⟨D, hD⟩ : ∃ D, D = (x + y + cc) / B32 := ⟨_, rfl⟩
   have HC : Hid (∀ w, Calls Tryz.prog 96 #[.int .u32 x, .int .u32 y, .int .u32 cc] w fun e w' => e = .returned (.tuple #[.int .u32 Q, .int .u32 D]) /\ w' = w) := fun w => by rw [hQ, hD]; exact add32_any x y cc hxb hyb hcc w
   have HQ := hid hQ
   have HDD := hid hD
   have hQb : Q < B32 := by rw [hQ]; exact Nat.mod_lt _ (by decide)
   have hDb : D <= 1 := by unfold B32 at *; omega
   have HQB := hid hQb
   clear hx hll hQ hD hQb
   have fin : Hid (∀ wx, wx = wr -> (∃ m_1 cc : Nat, ∃ q : List Nat, m_1 <= n /\ Value.int .i64 ((m : Int) + 1) = .int .i64 m_1 /\ Value.int .u32 D = .int .u32 cc /\ cc <= 1 /\ Hid (q.length = m_1 /\ Dg B32 q /\ val B32 q + B32 ^ m_1 * cc = val B32 (l.take m_1) + val B32 (l'.take m_1) /\ Onto .u32 58 g o n w (wx.setCell ⟨g, o + m, none⟩ (.int .u32 Q)) cur (q ++ l.drop m_1)))) := by
    rintro wx rfl
    obtain ⟨h1, h2, h3, h4⟩ := hI.out
    refine ⟨m + 1, D, q ++ [Q], by omega, by go_num, rfl, hDb, ?_, ?_, ?_, ?_⟩
    ·simp [h1]
    ·exact h2.append (Dg.one HQB.out)
    ·rw [val_snoc, h1, val_take_succ B32 l m HLL.out, val_take_next B32 l' m, <- HX.out, <- HY.out, HQ.out, HDD.out, Nat.pow_succ]
     exact addStep h3
    ·rw [<- set_append_drop h1 HLL.out]
     exact h4.store hlt _
   by_cases hlt' : m < n'
   ·have e1 : decide ((m : Int) < n') = true := by simp; omega
    obtain ⟨b', o', hao, hl', hc'⟩ := HR'.out.rd.some (by rw [HL'.out]; omega)
    have hbg : b' ≠ g := HNE.out (by omega) _ hao
    subst hao
    have hcy : wr.cell? ⟨b', o' + m, none⟩ = some (.int .u32 y) := by
     rw [hI.out.2.2.2.other hbg, hc' m (by rw [HL'.out]; exact hlt'), hy]
    clear hy hc' hl'
    go_wp2_with (go_at_call 96; refine (HC.out _).mono ?_; rintro e wz ⟨rfl, hwz⟩; rw [hwz])
    exact ⟨fin.out _ rfl, by simp [intOf] <;> omega⟩
   ·have e1 : decide ((m : Int) < n') = false := by simp; omega
    have hy0 : y = 0 := by
     rw [hy, List.getD_eq_getElem?_getD, List.getElem?_eq_none (by rw [HL'.out]; omega)]; rfl
    clear hy
    subst hy0
    go_wp2_with (go_at_call 96; refine (HC.out _).mono ?_; rintro e wz ⟨rfl, hwz⟩; rw [hwz])
    exact ⟨fin.out _ rfl, by simp [intOf] <;> omega⟩
  ·obtain rfl : m = n := by omega
   go_wp2
   go_end0
   obtain ⟨h1, h2, h3, h4⟩ := hI.out
   refine ⟨rfl, q, cc, ?_, h2, hcc, ?_⟩
   ·rw [List.drop_eq_nil_of_le (by rw [HL.out]; omega), List.append_nil] at h4; exact h4
   ·rw [List.take_of_length_le (l := l) (by rw [HL.out]; omega)] at h3; exact h3
end Go.Proofs.YtdekkieajffblaaGreatDoor
