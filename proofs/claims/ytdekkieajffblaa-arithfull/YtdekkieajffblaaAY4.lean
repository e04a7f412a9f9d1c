/-
  Walk: ArithFull.
-/
import Derived.Test.YtdekkieajffblaaAM2
import Derived.Test.YtdekkieajffblaaAArg
set_option linter.unusedVariables false
set_option linter.unusedSimpArgs false
set_option maxRecDepth 100000
namespace Go.Proofs.Ytdekkieajffblaa
open Go.RowKit

theorem ask2_on {W wx wy : World} {p : Nat} {a0 a1 : Value}
    (h : wx.cell? ⟨p, 0, none⟩ = some a0 ∧ wx.cell? ⟨p, 1, none⟩ = some a1 ∧ Below W.heap.size W wx) (hb : Below wx.heap.size wx wy) :
    wy.cell? ⟨p, 0, none⟩ = some a0 ∧ wy.cell? ⟨p, 1, none⟩ = some a1 ∧ Below W.heap.size W wy := by
  obtain ⟨h1, h2, h7⟩ := h
  exact ⟨(hb.cell (p := ⟨p, 0, none⟩) (cell_lt h1)).trans h1, (hb.cell (p := ⟨p, 1, none⟩) (cell_lt h1)).trans h2, Bt h7 hb⟩
theorem ask2_bel {W wx : World} {p : Nat} {a0 a1 : Value} (h : wx.cell? ⟨p, 0, none⟩ = some a0 ∧ wx.cell? ⟨p, 1, none⟩ = some a1 ∧ Below W.heap.size W wx) : Below W.heap.size W wx := h.2.2
set_option maxHeartbeats 8000000 in
theorem arithFull_walk (x : Ak) (neg : Bool) (ao : Option Addr) (n cap : Nat) (l : List Nat) (neg' : Bool) (ao' : Option Addr) (n' cap' : Nat) (l' : List Nat) (w : World) (hx : AkOk x) (R : Row .u32 B32 w ao n cap l) (R' : Row .u32 B32 w ao' n' cap' l') :
    Calls Try.prog 6 #[.agg (AkC x).toArray, .agg #[.bool neg, .slice ao n cap], .agg #[.bool neg', .slice ao' n' cap']] w fun e w' => e = .returned (.bool true) ∧ Below w.heap.size w w' := by
  obtain ⟨op, N, bb, raw, ww⟩ := x
  obtain ⟨ho, hN, _, _⟩ := hx
  have ho : Z64 op := ho
  have hN : Z64 N := hN
  unfold Z64 at ho hN
  show Calls Try.prog 6 #[.agg #[.int .i64 op, .int .i64 N, .int .i64 bb, .bool raw, .int .u64 ww], .agg #[.bool neg, .slice ao n cap], .agg #[.bool neg', .slice ao' n' cap']] w fun e w' => e = .returned (.bool true) ∧ Below w.heap.size w w'
  have q0 := Ba w (.cells #[.int .i64 op, .int .i64 N, .int .i64 bb, .bool raw, .int .u64 ww] 46)
  have hak := blk_new w #[.int .i64 op, .int .i64 N, .int .i64 bb, .bool raw, .int .u64 ww] 46
  obtain ⟨Wa, hWa⟩ : ∃ W, W = w.alloc (.cells #[.int .i64 op, .int .i64 N, .int .i64 bb, .bool raw, .int .u64 ww] 46) := ⟨_, rfl⟩
  rw [← hWa] at q0 hak
  have hsa : Wa.heap.size = w.heap.size + 1 := by rw [hWa, size_alloc]
  have q1 := Baa Wa (.cells #[.bool neg, .slice ao n cap] 24) (.cells #[.bool neg', .slice ao' n' cap'] 24)
  have x1 := (Box.new 24 Wa neg ao n cap).alloc (.cells #[.bool neg', .slice ao' n' cap'] 24)
  have x2 := Box.new 24 (Wa.alloc (.cells #[.bool neg, .slice ao n cap] 24)) neg' ao' n' cap'
  rw [size_alloc, hsa] at x2
  rw [hsa] at x1
  obtain ⟨W0, hW0⟩ : ∃ W, W = (Wa.alloc (.cells #[.bool neg, .slice ao n cap] 24)).alloc (.cells #[.bool neg', .slice ao' n' cap'] 24) := ⟨_, rfl⟩
  rw [← hW0] at q1 x1 x2
  have hak0 := (q1.block w.heap.size (by omega)).trans hak
  have d0 := blk_cell hak0 0
  have d1 := blk_cell hak0 1
  have hs0 : W0.heap.size = w.heap.size + 1 + 1 + 1 := by rw [hW0, size_alloc, size_alloc, hsa]
  have HB0 := hid (Bt q0 q1)
  have HX1 := hid x1
  have HX2 := hid x2
  have CA := hid (fun W : World => arawake_any W)
  have CG : Hid (∀ W, Below W0.heap.size W0 W → Calls Try.prog 7 #[.slice (some ⟨W.heap.size, 0, none⟩) 2 2] (W.alloc (.cells #[.bool neg, .slice ao n cap, .bool neg', .slice ao' n' cap'] 24)) fun e w' => e = .returned (.bool (goodB neg l && goodB neg' l')) ∧ Below W.heap.size W w') := fun W hW => by
    have v := Ba W (.cells #[.bool neg, .slice ao n cap, .bool neg', .slice ao' n' cap'] 24)
    refine (two_good neg neg' ao ao' n cap n' cap' l l' w _ _ _ R R' (Bt (Bt HB0.out hW) v) (blk_new W _ _)).mono ?_
    rintro e w' ⟨rfl, hb⟩
    exact ⟨rfl, Bt v hb⟩
  have HA : Hid (goodB neg l = true → IsInt w (.agg #[.bool neg, .slice ao n cap]) (sgn neg (val B32 l))) := fun g => ⟨neg, l, ⟨ao, n, cap, rfl, R⟩, g, rfl⟩
  have HB : Hid (goodB neg' l' = true → IsInt w (.agg #[.bool neg', .slice ao' n' cap']) (sgn neg' (val B32 l'))) := fun g => ⟨neg', l', ⟨ao', n', cap', rfl, R'⟩, g, rfl⟩
  obtain ⟨a, ha⟩ : ∃ a, a = sgn neg (val B32 l) := ⟨_, rfl⟩
  obtain ⟨b, hb⟩ : ∃ a, a = sgn neg' (val B32 l') := ⟨_, rfl⟩
  obtain ⟨g1, hg1⟩ : ∃ g, g = goodB neg l := ⟨_, rfl⟩
  obtain ⟨g2, hg2⟩ : ∃ g, g = goodB neg' l' := ⟨_, rfl⟩
  rw [← ha, ← hg1] at HA
  rw [← hb, ← hg2] at HB
  rw [← hg1, ← hg2] at CG
  have hWW : ((w.alloc (.cells #[.int .i64 op, .int .i64 N, .int .i64 bb, .bool raw, .int .u64 ww] 46)).alloc (.cells #[.bool neg, .slice ao n cap] 24)).alloc (.cells #[.bool neg', .slice ao' n' cap'] 24) = W0 := by rw [hW0, hWa]
  have HWW := hid hWW
  have HD : Hid (W0.cell? ⟨w.heap.size, 0, none⟩ = some (.int .i64 op) ∧ W0.cell? ⟨w.heap.size, 1, none⟩ = some (.int .i64 N) ∧ Below W0.heap.size W0 W0) := ⟨d0, d1, Below.refl _ _⟩
  clear R R' q0 q1 hak hak0 x1 x2 ha hb hg1 hg2 hWW hW0 hWa hsa hs0 d0 d1
  go_enter Try.func6, Try.ntmps6
  go_wp2_with fail
  rw [HWW.out]
  go_region_held3 (fun wx => wx.cell? ⟨w.heap.size, 0, none⟩ = some (.int .i64 op) ∧ wx.cell? ⟨w.heap.size, 1, none⟩ = some (.int .i64 N) ∧ Below W0.heap.size W0 wx)
    (first | exact ask2_on HD.out (Bd W0 1) | exact ask2_on (by assumption) (by assumption))
    (fail)
  rename_i hHeld
  have HW := hid (ask2_bel hHeld)
  clear hHeld
  have y1 := hid (HX1.out.on HW.out)
  have y2 := hid (HX2.out.on HW.out)
  have HB1 := hid (Bt HB0.out HW.out)
  have CG1 := hid (CG.out _ HW.out)
  generalize W0.drew = W1 at *
  clear HX1 HX2 HB0 HD CG HW
  by_cases hN1 : N < 1
  · go_wp2_with (go_at_call 8; (with_reducible refine (CA.out _).mono ?_); rintro e We ⟨rfl, ve⟩; have HBe := hid (Bt HB1.out ve); clear ve)
    go_ret
    exact ⟨rfl, HBe.out⟩
  by_cases hN2 : 300 < N
  · go_wp2_with (go_at_call 8; (with_reducible refine (CA.out _).mono ?_); rintro e We ⟨rfl, ve⟩; have HBe := hid (Bt HB1.out ve); clear ve)
    go_ret
    exact ⟨rfl, HBe.out⟩
  obtain ⟨c0, c1⟩ := y1.out.c
  obtain ⟨c2, c3⟩ := y2.out.c
  by_cases hg : (g1 && g2) = true
  · rw [hg] at CG1
    rw [Bool.and_eq_true] at hg
    have HA := hid (HA.out hg.1)
    have HB := hid (HB.out hg.2)
    clear hg
    go_wp2_with fail
    (with_reducible refine CG1.out.mono ?_)
    rintro e W2 ⟨rfl, v2⟩
    have z1 := hid (y1.out.on v2)
    have z2 := hid (y2.out.on v2)
    have HB2 := hid (Bt HB1.out v2)
    clear c0 c1 c2 c3 v2 y1 y2 HB1 CG1
    go_wp2_with fail
    (with_reducible refine (pnew_ok N (by omega) (by omega) W2).mono ?_)
    rintro e W3 ⟨v, F, rfl, hP, v3⟩
    have HP3 := hid hP
    have HB3 := hid v3
    obtain ⟨gh, rfl⟩ := hP.ptr
    have HL := hid z1.out.lt
    have HL2 := hid z2.out.lt
    -- what is old: cells and integers, in any world that keeps what was there
    have OLD : Hid (∀ X, Below W2.heap.size W2 X → X.cell? ⟨w.heap.size + 1, 0, none⟩ = some (.bool neg) ∧ X.cell? ⟨w.heap.size + 1, 1, none⟩ = some (.slice ao n cap) ∧ X.cell? ⟨w.heap.size + 1 + 1, 0, none⟩ = some (.bool neg') ∧ X.cell? ⟨w.heap.size + 1 + 1, 1, none⟩ = some (.slice ao' n' cap') ∧ IsInt X (.agg #[.bool neg, .slice ao n cap]) a ∧ IsInt X (.agg #[.bool neg', .slice ao' n' cap']) b ∧ Below w.heap.size w X) := fun X hX =>
      ⟨(z1.out.on hX).c.1, (z1.out.on hX).c.2, (z2.out.on hX).c.1, (z2.out.on hX).c.2, (HA.out.below HB2.out).below hX, (HB.out.below HB2.out).below hX, Bt HB2.out hX⟩
    obtain ⟨_, _, _, _, hIa, hIb, _⟩ := OLD.out W2 (Below.refl _ _)
    have hsa : ¬ Big a.natAbs := hIa.parts.2.2.1
    have hsb : ¬ Big b.natAbs := hIb.parts.2.2.1
    have hna := need_nn a
    have hnb := need_nn b
    have hna2 := need_le hsa
    have hnb2 := need_le hsb
    -- the first integer
    have CL1 : Hid (Calls Try.prog 16 #[.pointer (some ⟨gh, 0, none⟩), .agg #[.bool neg, .slice ao n cap]] W3 fun e w' => e = .returned (.tuple #[.int .u64 (layM [] N a).1, .int .i64 (layM [] N a).2]) ∧ PPost W2.heap.size (.pointer (some ⟨gh, 0, none⟩)) N F W3 (wordsL (layO [] N a)) w') := alay_any (os := []) os_nil _ a W3 HP3.out (OLD.out W3 v3).2.2.2.2.1 v3.size
    have ok1 := layO_ok os_nil N a
    have al1 := layO_all all_nil N hsa
    have le1 := lay_le (os := []) (N := N) (z := a) (by show (0 : Int) ≤ N; omega)
    have us1 : (layM [] N a).2 = 0 → ((usedL (layO [] N a) : Nat) : Int) = needZ a := fun h => by
      have := lay_used [] N a h
      rw [this]; show (0 : Int) + _ = _; omega
    have no1 : (layM [] N a).2 ≠ 0 → N < needZ a := fun h => by
      have := lay_no h
      have e : ((usedL ([] : List Ob) : Nat) : Int) = 0 := rfl
      omega
    have pu1 := layM_u [] N a
    obtain ⟨pw, hpw⟩ : ∃ p, p = (layM [] N a).1 := ⟨_, rfl⟩
    obtain ⟨e1, he1⟩ : ∃ p, p = (layM [] N a).2 := ⟨_, rfl⟩
    obtain ⟨os1, ho1⟩ : ∃ p, p = layO [] N a := ⟨_, rfl⟩
    rw [← hpw, ← he1, ← ho1] at CL1
    rw [← ho1] at ok1 al1 le1 us1
    rw [← he1] at us1 no1
    rw [← hpw] at pu1
    clear hpw he1 ho1 hIa hIb
    have HOK1 := hid ok1
    have HAL1 := hid al1
    have HUS1 := hid us1
    have HNO1 := hid no1
    have HPU1 := hid pu1
    have HLE1 := hid le1
    obtain ⟨c0, c1, c2, c3, _, _, _⟩ := OLD.out W3 v3
    clear ok1 al1 us1 no1 pu1 le1 v3 hP
    go_wp2_with fail
    (with_reducible refine CL1.out.mono ?_)
    rintro e W4 ⟨rfl, hp4⟩
    have HB4 := hid (HB3.out.trans (PPost.below HP3.out hp4 HB3.out.size))
    obtain ⟨F4, hP4, _, _⟩ := hp4
    have HP4 := hid hP4
    clear hP4 CL1 c0 c1 c2 c3 HB3 HP3
    -- the second one
    have CL2 : Hid (Calls Try.prog 16 #[.pointer (some ⟨gh, 0, none⟩), .agg #[.bool neg', .slice ao' n' cap']] W4 fun e w' => e = .returned (.tuple #[.int .u64 (layM os1 N b).1, .int .i64 (layM os1 N b).2]) ∧ PPost W2.heap.size (.pointer (some ⟨gh, 0, none⟩)) N F4 W4 (wordsL (layO os1 N b)) w') := alay_any (os := os1) HOK1.out _ b W4 HP4.out (OLD.out W4 HB4.out).2.2.2.2.2.1 HB4.out.size
    have ok2 := layO_ok HOK1.out N b
    have al2 := layO_all HAL1.out N hsb
    have le2 := lay_le (z := b) HLE1.out
    have no2 : (layM os1 N b).2 ≠ 0 → N - (usedL os1 : Nat) < needZ b := fun h => lay_no h
    have pu2 := layM_u os1 N b
    obtain ⟨qw, hqw⟩ : ∃ p, p = (layM os1 N b).1 := ⟨_, rfl⟩
    obtain ⟨e2, he2⟩ : ∃ p, p = (layM os1 N b).2 := ⟨_, rfl⟩
    obtain ⟨os2, ho2⟩ : ∃ p, p = layO os1 N b := ⟨_, rfl⟩
    rw [← hqw, ← he2, ← ho2] at CL2
    rw [← ho2] at ok2 al2 le2
    rw [← he2] at no2
    rw [← hqw] at pu2
    clear hqw he2 ho2
    have HOK2 := hid ok2
    have HAL2 := hid al2
    have HNO2 := hid no2
    have HPU2 := hid pu2
    have HLE2 := hid le2
    obtain ⟨c0, c1, c2, c3, _, _, _⟩ := OLD.out W4 HB4.out
    clear ok2 al2 no2 pu2 le2
    go_wp2_with fail
    (with_reducible refine CL2.out.mono ?_)
    rintro e W5 ⟨rfl, hp5⟩
    have HB5 := hid (HB4.out.trans (PPost.below HP4.out hp5 HB4.out.size))
    obtain ⟨F5, hP5, _, _⟩ := hp5
    have HP5 := hid hP5
    clear hP5 CL2 c0 c1 c2 c3 HB4 HP4
    obtain ⟨nza, hnza⟩ : ∃ z, z = needZ a := ⟨_, rfl⟩
    obtain ⟨nzb, hnzb⟩ : ∃ z, z = needZ b := ⟨_, rfl⟩
    by_cases hee : e1 ≠ 0 ∨ e2 ≠ 0
    · have hsum : N < nza + nzb := by
        by_cases h1 : e1 = 0
        · have h2 : e2 ≠ 0 := by rcases hee with h | h; exact absurd h1 h; exact h
          have k1 := HUS1.out h1
          have k2 := HNO2.out h2
          omega
        · have k1 := HNO1.out h1
          omega
      have hwr : IntKind.i64.wrap (nza + nzb) = nza + nzb := by rw [IntKind.wrap_i64]; omega
      have hdd : decide (N < nza + nzb) = true := decide_eq_true hsum
      have CNA : Hid (∀ X, Below W5.heap.size W5 X → Calls Try.prog 12 #[.agg #[.bool neg, .slice ao n cap]] X fun e w' => e = .returned (.int .i64 nza) ∧ Below X.heap.size X w') := fun X h => by
        have := aneed_any _ a X ((OLD.out W5 HB5.out).2.2.2.2.1.below h)
        rw [← hnza] at this; exact this
      have CNB : Hid (∀ X, Below W5.heap.size W5 X → Calls Try.prog 12 #[.agg #[.bool neg', .slice ao' n' cap']] X fun e w' => e = .returned (.int .i64 nzb) ∧ Below X.heap.size X w') := fun X h => by
        have := aneed_any _ b X ((OLD.out W5 HB5.out).2.2.2.2.2.1.below h)
        rw [← hnzb] at this; exact this
      have HB5w := hid (OLD.out W5 HB5.out).2.2.2.2.2.2
      have HS0 : Hid (W5.cell? ⟨w.heap.size + 1, 0, none⟩ = some (.bool neg) ∧ W5.cell? ⟨w.heap.size + 1, 1, none⟩ = some (.slice ao n cap) ∧ W5.cell? ⟨w.heap.size + 1 + 1, 0, none⟩ = some (.bool neg') ∧ W5.cell? ⟨w.heap.size + 1 + 1, 1, none⟩ = some (.slice ao' n' cap') ∧ Below W5.heap.size W5 W5) := by
        obtain ⟨k0, k1, k2, k3, _⟩ := OLD.out W5 HB5.out
        exact ⟨k0, k1, k2, k3, Below.refl _ _⟩
      clear hnza hnzb hsum hna hnb hna2 hnb2
      by_cases h1 : e1 = 0
      · have h2 : (e2 != 0) = true := by
          rcases hee with h | h
          · exact absurd h1 h
          · simpa using h
        subst h1
        clear hee
        go_wp2_with fail
        go_region_held3 (fun wx => wx.cell? ⟨w.heap.size + 1, 0, none⟩ = some (.bool neg) ∧ wx.cell? ⟨w.heap.size + 1, 1, none⟩ = some (.slice ao n cap) ∧ wx.cell? ⟨w.heap.size + 1 + 1, 0, none⟩ = some (.bool neg') ∧ wx.cell? ⟨w.heap.size + 1 + 1, 1, none⟩ = some (.slice ao' n' cap') ∧ Below W5.heap.size W5 wx)
          (first | exact boxrow_on HS0.out (Bd W5 1) | exact boxrow_on (by assumption) (by assumption))
          (first
            | (go_at_call_of 12 (Value.slice ao n cap); (with_reducible refine (CNA.out _ ?_).mono ?_); (exact boxrow_bel (p := w.heap.size + 1) (b := w.heap.size + 1 + 1) (i := 0) (j := 1) (a0 := .bool neg) (a1 := .slice ao n cap) (b0 := .bool neg') (b1 := .slice ao' n' cap') (by assumption)); rintro e wa ⟨rfl, ba⟩)
            | (go_at_call_of 12 (Value.slice ao' n' cap'); (with_reducible refine (CNB.out _ ?_).mono ?_); (exact boxrow_bel (p := w.heap.size + 1) (b := w.heap.size + 1 + 1) (i := 0) (j := 1) (a0 := .bool neg) (a1 := .slice ao n cap) (b0 := .bool neg') (b1 := .slice ao' n' cap') (by assumption)); rintro e wb ⟨rfl, bb2⟩)
            | (go_at_call 8; (with_reducible refine (CA.out _).mono ?_); rintro e wc ⟨rfl, bc⟩))
        all_goals
          rename_i hHeld
          have HBE := hid (Bt HB5w.out (boxrow_bel hHeld))
          clear hHeld
          go_wp2
          go_ret
          exact ⟨by simp, HBE.out⟩

      · have h2 : (e1 != 0) = true := by simpa using h1
        clear hee h1
        go_wp2_with fail
        go_region_held3 (fun wx => wx.cell? ⟨w.heap.size + 1, 0, none⟩ = some (.bool neg) ∧ wx.cell? ⟨w.heap.size + 1, 1, none⟩ = some (.slice ao n cap) ∧ wx.cell? ⟨w.heap.size + 1 + 1, 0, none⟩ = some (.bool neg') ∧ wx.cell? ⟨w.heap.size + 1 + 1, 1, none⟩ = some (.slice ao' n' cap') ∧ Below W5.heap.size W5 wx)
          (first | exact boxrow_on HS0.out (Bd W5 1) | exact boxrow_on (by assumption) (by assumption))
          (first
            | (go_at_call_of 12 (Value.slice ao n cap); (with_reducible refine (CNA.out _ ?_).mono ?_); (exact boxrow_bel (p := w.heap.size + 1) (b := w.heap.size + 1 + 1) (i := 0) (j := 1) (a0 := .bool neg) (a1 := .slice ao n cap) (b0 := .bool neg') (b1 := .slice ao' n' cap') (by assumption)); rintro e wa ⟨rfl, ba⟩)
            | (go_at_call_of 12 (Value.slice ao' n' cap'); (with_reducible refine (CNB.out _ ?_).mono ?_); (exact boxrow_bel (p := w.heap.size + 1) (b := w.heap.size + 1 + 1) (i := 0) (j := 1) (a0 := .bool neg) (a1 := .slice ao n cap) (b0 := .bool neg') (b1 := .slice ao' n' cap') (by assumption)); rintro e wb ⟨rfl, bb2⟩)
            | (go_at_call 8; (with_reducible refine (CA.out _).mono ?_); rintro e wc ⟨rfl, bc⟩))
        all_goals
          rename_i hHeld
          have HBE := hid (Bt HB5w.out (boxrow_bel hHeld))
          clear hHeld
          go_wp2
          go_ret
          exact ⟨by simp, HBE.out⟩
    · have h1 : e1 = 0 := Classical.byContradiction fun h => hee (.inl h)
      have h2 : e2 = 0 := Classical.byContradiction fun h => hee (.inr h)
      subst h1 h2
      clear hee HNO1 HNO2 hnza hnzb hna hnb hna2 hnb2 HUS1
      have hle := HLE2.out
      have CRm : Hid (Calls Try.prog 18 #[.pointer (some ⟨gh, 0, none⟩)] W5 fun e w' => e = .returned (.int .i64 (N - (usedL os2 : Nat))) ∧ Below W5.heap.size W5 w') := by
        have := proom_any W5 HP5.out
        rw [wordsL_length] at this; exact this
      have CNd : Hid (∀ X, Below W5.heap.size W5 X → Calls Try.prog 19 #[.pointer (some ⟨gh, 0, none⟩), .int .i64 op, .int .u64 pw, .int .u64 qw] X fun e w' => e = .returned (.int .i64 (needZ (resZ os2 op pw qw).1)) ∧ Below X.heap.size X w') := fun X h => aroom_any HOK2.out HAL2.out op pw qw HPU1.out HPU2.out X (HP5.out.onb h)
      have CDo : Hid (∀ X, Below W5.heap.size W5 X → Calls Try.prog 20 #[.pointer (some ⟨gh, 0, none⟩), .int .i64 op, .int .u64 pw, .int .u64 qw] X fun e w' => e = .returned (.tuple #[.int .u64 (doM os2 N op pw qw).1, .int .i64 (doM os2 N op pw qw).2]) ∧ PPost W2.heap.size (.pointer (some ⟨gh, 0, none⟩)) N F5 W5 (wordsL (doO os2 N op pw qw)) w') := fun X h => by
        refine (ado_any HOK2.out HAL2.out op pw qw HPU1.out HPU2.out X (HP5.out.onb h) (Nat.le_trans HB5.out.size h.size)).mono ?_
        rintro e w' ⟨rfl, hp⟩
        exact ⟨rfl, PPost.front h hp⟩
      have CR2 : Hid (∀ (F' : Nat → Prop) X, PH W2.heap.size (.pointer (some ⟨gh, 0, none⟩)) N (wordsL (doO os2 N op pw qw)) F' X → Calls Try.prog 18 #[.pointer (some ⟨gh, 0, none⟩)] X fun e w' => e = .returned (.int .i64 (N - (usedL (doO os2 N op pw qw) : Nat))) ∧ Below X.heap.size X w') := fun F' X h => by
        have := proom_any X h
        rw [wordsL_length] at this; exact this
      have hok := do_ok (os := os2) (N := N) (op := op) (p := pw) (q := qw)
      have hno := do_no (os := os2) (N := N) (op := op) (p := pw) (q := qw) hle
      have hnn := need_nn (resZ os2 op pw qw).1
      have hn42 := need_le (res_small HAL2.out op pw qw)
      obtain ⟨gw, hgw⟩ : ∃ g, g = (doM os2 N op pw qw).1 := ⟨_, rfl⟩
      obtain ⟨g, hg⟩ : ∃ g, g = (doM os2 N op pw qw).2 := ⟨_, rfl⟩
      obtain ⟨osd, hosd⟩ : ∃ o, o = doO os2 N op pw qw := ⟨_, rfl⟩
      obtain ⟨nd, hnd⟩ : ∃ o, o = needZ (resZ os2 op pw qw).1 := ⟨_, rfl⟩
      rw [← hgw, ← hg, ← hosd] at CDo
      rw [← hosd] at CR2
      rw [← hnd] at CNd hnn hn42
      rw [← hg, ← hosd, ← hnd] at hok hno
      obtain ⟨rm, hrm⟩ : ∃ r, r = N - (usedL os2 : Nat) := ⟨_, rfl⟩
      rw [← hrm] at CRm
      have hrm0 : 0 ≤ rm := by omega
      have hrm1 : rm ≤ 300 := by omega
      have HOKd := hid hok
      have HNOd := hid hno
      have HRM := hid hrm
      have HB5w := hid (OLD.out W5 HB5.out).2.2.2.2.2.2
      have HBX : Hid (∀ X, Below W2.heap.size W2 X → Below w.heap.size w X) := fun X h => (OLD.out X h).2.2.2.2.2.2
      clear hgw hg hosd hnd hrm hok hno hle
      by_cases hg0 : g = 0
      · subst hg0
        have hroom : N - (usedL osd : Nat) = rm - nd := by
          have := HOKd.out rfl
          have := HRM.out
          omega
        rw [hroom] at CR2
        have hwr : IntKind.i64.wrap (rm - nd) = rm - nd := by rw [IntKind.wrap_i64]; omega
        clear hroom
        go_wp2_with (first
          | (go_at_call 19; (with_reducible refine (CNd.out W6 HB6.out).mono ?_); rintro e W7 ⟨rfl, v7⟩; have HB7 := hid (Bt HB6.out v7); clear v7)
          | (go_at_call 20; (with_reducible refine (CDo.out W7 HB7.out).mono ?_); rintro e W8 ⟨rfl, hp8⟩; have HB8 := hid (HB5.out.trans (PPost.below HP5.out hp8 HB5.out.size)); obtain ⟨F8, hP8, _, _⟩ := hp8; have HP8 := hid hP8; clear hP8)
          | (go_at_call 18; (with_reducible refine CRm.out.mono ?_); rintro e W6 ⟨rfl, v6⟩; have HB6 := hid v6; clear v6)
          | (go_at_call 18; (with_reducible refine (CR2.out F8 W8 HP8.out).mono ?_); rintro e W9 ⟨rfl, v9⟩; have HB9 := hid (HB8.out.trans (v9.mono HB8.out.size)); clear v9)
          | (go_at_call 8; (with_reducible refine (CA.out _).mono ?_); rintro e We ⟨rfl, ve⟩; have HBe := hid (Bt (HBX.out _ HB9.out) ve); clear ve))
        go_ret
        exact ⟨by simp, HBe.out⟩
      · obtain ⟨ho3, hi3⟩ := HNOd.out hg0
        have hroom : N - (usedL osd : Nat) = rm := by
          have := HRM.out
          rw [ho3]; omega
        rw [hroom] at CR2
        rw [← HRM.out] at hi3
        have h3 : (g == 0) = false := by simpa using hg0
        clear hroom ho3
        by_cases hfull : rm < nd
        · obtain rfl : g = 3 := hi3.2 hfull
          have hdd : decide (rm < nd) = true := decide_eq_true hfull
          clear hi3
          go_wp2_with (first
            | (go_at_call 19; (with_reducible refine (CNd.out W6 HB6.out).mono ?_); rintro e W7 ⟨rfl, v7⟩; have HB7 := hid (Bt HB6.out v7); clear v7)
            | (go_at_call 20; (with_reducible refine (CDo.out W7 HB7.out).mono ?_); rintro e W8 ⟨rfl, hp8⟩; have HB8 := hid (HB5.out.trans (PPost.below HP5.out hp8 HB5.out.size)); obtain ⟨F8, hP8, _, _⟩ := hp8; have HP8 := hid hP8; clear hP8)
            | (go_at_call 18; (with_reducible refine CRm.out.mono ?_); rintro e W6 ⟨rfl, v6⟩; have HB6 := hid v6; clear v6)
            | (go_at_call 18; (with_reducible refine (CR2.out F8 W8 HP8.out).mono ?_); rintro e W9 ⟨rfl, v9⟩; have HB9 := hid (HB8.out.trans (v9.mono HB8.out.size)); clear v9)
            | (go_at_call 8; (with_reducible refine (CA.out _).mono ?_); rintro e We ⟨rfl, ve⟩; have HBe := hid (Bt (HBX.out _ HB9.out) ve); clear ve))
          go_ret
          exact ⟨by simp, HBe.out⟩
        · have hg3 : (g == 3) = false := by
            simp only [beq_eq_false_iff_ne]
            exact fun e => hfull (hi3.1 e)
          have hdd : decide (rm < nd) = false := decide_eq_false hfull
          clear hi3
          go_wp2_with (first
            | (go_at_call 19; (with_reducible refine (CNd.out W6 HB6.out).mono ?_); rintro e W7 ⟨rfl, v7⟩; have HB7 := hid (Bt HB6.out v7); clear v7)
            | (go_at_call 20; (with_reducible refine (CDo.out W7 HB7.out).mono ?_); rintro e W8 ⟨rfl, hp8⟩; have HB8 := hid (HB5.out.trans (PPost.below HP5.out hp8 HB5.out.size)); obtain ⟨F8, hP8, _, _⟩ := hp8; have HP8 := hid hP8; clear hP8)
            | (go_at_call 18; (with_reducible refine CRm.out.mono ?_); rintro e W6 ⟨rfl, v6⟩; have HB6 := hid v6; clear v6)
            | (go_at_call 18; (with_reducible refine (CR2.out F8 W8 HP8.out).mono ?_); rintro e W9 ⟨rfl, v9⟩; have HB9 := hid (HB8.out.trans (v9.mono HB8.out.size)); clear v9)
            | (go_at_call 8; (with_reducible refine (CA.out _).mono ?_); rintro e We ⟨rfl, ve⟩; have HBe := hid (Bt (HBX.out _ HB9.out) ve); clear ve))
          go_ret
          exact ⟨by simp, HBe.out⟩
  · have hg' : (g1 && g2) = false := by simpa using hg
    rw [hg'] at CG1
    clear hg hg' HA HB
    go_wp2_with (first
      | (go_at_call 7; (with_reducible refine CG1.out.mono ?_); rintro e W2 ⟨rfl, v2⟩; have HB2 := hid (Bt HB1.out v2); clear v2)
      | (go_at_call 8; (with_reducible refine (CA.out _).mono ?_); rintro e We ⟨rfl, ve⟩; have HBe := hid (Bt HB2.out ve); clear ve))
    go_ret
    exact ⟨rfl, HBe.out⟩
end Go.Proofs.Ytdekkieajffblaa
