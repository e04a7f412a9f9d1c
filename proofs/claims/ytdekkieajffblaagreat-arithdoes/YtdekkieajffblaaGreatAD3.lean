/-
  Walks, of the document's answer: Lay, Do, Room; the program's Cmp.
-/
import Derived.Test.YtdekkieajffblaaGreatAD2
set_option linter.unusedVariables false
set_option linter.unusedSimpArgs false
set_option maxRecDepth 100000
namespace Go.Proofs.YtdekkieajffblaaGreat
open Go.RowKit

section
variable {B g : Nat} {N : Int} {vL : Value} {ls : List (Ob × Sl)} {w w1 w' : World}
theorem cell2_on {W wx wy : World} {p : Nat} {a0 a1 : Value}
    (h : wx.cell? ⟨p, 0, none⟩ = some a0 ∧ wx.cell? ⟨p, 1, none⟩ = some a1 ∧ Below W.heap.size W wx) (hb : Below wx.heap.size wx wy) :
    wy.cell? ⟨p, 0, none⟩ = some a0 ∧ wy.cell? ⟨p, 1, none⟩ = some a1 ∧ Below W.heap.size W wy := by
  obtain ⟨h1, h2, h7⟩ := h
  exact ⟨(hb.cell (p := ⟨p, 0, none⟩) (cell_lt h1)).trans h1, (hb.cell (p := ⟨p, 1, none⟩) (cell_lt h1)).trans h2, Bt h7 hb⟩
theorem cell2_bel {W wx : World} {p : Nat} {a0 a1 : Value} (h : wx.cell? ⟨p, 0, none⟩ = some a0 ∧ wx.cell? ⟨p, 1, none⟩ = some a1 ∧ Below W.heap.size W wx) : Below W.heap.size W wx := h.2.2
theorem RPost.front {os' : List Ob} (hb : Below w.heap.size w w1) (h : RPost B g N vL ls w1 os' w') : RPost B g N vL ls w os' w' := by
  obtain ⟨vL', ls', h1, h2, h3, h4⟩ := h
  have hs := hb.size
  exact ⟨vL', ls', h1, h2, fun b e => (h3 b e).imp id (fun e => by omega), (Mod.of_below _ hb).trans h4 (fun _ _ e => e)⟩
set_option maxHeartbeats 8000000 in
theorem dlay_any (x : Value) (z : Int) (w : World) (h : RH B g N vL ls w) (hx : IsInt w x z) (hB : B ≤ w.heap.size) :
    Calls Tryz.prog 9 #[.pointer (some ⟨g, 0, none⟩), x] w fun e w' => e = .returned (.tuple #[.int .u64 (layM (ls.map Prod.fst) N z).1, .int .i64 (layM (ls.map Prod.fst) N z).2]) ∧ RPost B g N vL ls w (layO (ls.map Prod.fst) N z) w' := by
  have hi := hx
  obtain ⟨neg, ao, n, cap, l, rfl, R, gd, hz⟩ := hx.open_
  have hn40 : n ≤ 40 := by rw [← R.len]; exact goodB_len gd
  have hm := mg_of R.dg gd
  have hng := neg_good gd
  rw [← hz] at hm hng
  have b0 := Ba w (.cells #[.bool neg, .slice ao n cap] 40)
  have x0 := Box.new 40 w neg ao n cap
  obtain ⟨W0, hW0⟩ : ∃ W, W = w.alloc (.cells #[.bool neg, .slice ao n cap] 40) := ⟨_, rfl⟩
  rw [← hW0] at b0 x0
  have HB0 := hid b0
  have HX0 := hid x0
  have CF : Hid (Calls Tryz.prog 28 #[.agg #[.bool neg, .slice ao n cap]] W0 fun e w' => FixPost z W0 e w') := by
    have := fixed_any neg ao n cap l W0 (R.below b0) gd
    rw [← hz] at this; exact this
  unfold FixPost at CF
  have CR : Hid (∀ W, Below w.heap.size w W → Calls Tryz.prog 30 #[.pointer (some ⟨g, 0, none⟩)] W fun e w' => e = .returned (.int .i64 (N - (usedL (ls.map Prod.fst) : Nat))) ∧ Below W.heap.size W w') := fun W b => rroom_any W (h.on b)
  have CN : Hid (∀ W, Below w.heap.size w W → Calls Tryz.prog 31 #[.agg #[.bool neg, .slice ao n cap]] W fun e w' => e = .returned (.int .i64 (needZ z)) ∧ Below W.heap.size W w') := fun W b => rneed_any _ z W (hi.below b)
  have CB : Hid (∀ W, Below w.heap.size w W → Calls Tryz.prog 33 #[.agg #[.bool neg, .slice ao n cap]] W fun e w' => ∃ af nf cf, e = .returned (.slice af nf cf) ∧ URow w' af nf cf (bigL (decide (z < 0)) (mg z.natAbs)) ∧ Below W.heap.size W w') := fun W b => by
    refine (big_any neg ao n cap l W (R.below b) (by omega)).mono ?_
    rintro e w' ⟨vf, rfl, h1, h2⟩
    have hl : n + 1 = (bigL neg l).length := by rw [bigL_len, R.len]
    rw [hl] at h1
    obtain ⟨af, cf, rfl, hu⟩ := urow_own h1 (bigL_u _ _)
    rw [hng, hm] at hu
    exact ⟨af, _, cf, rfl, by rw [hng, hm]; exact hu, h2⟩
  have CA : Hid (∀ W (af : Option Addr) (nf cf : Nat), Below w.heap.size w W → URow W af nf cf (bigL (decide (z < 0)) (mg z.natAbs)) → Calls Tryz.prog 32 #[.pointer (some ⟨g, 0, none⟩), .int .i64 5, .slice af nf cf] W fun e w' => e = .returned (.tuple #[.int .u64 (allocM (ls.map Prod.fst) N 5 (bigL (decide (z < 0)) (mg z.natAbs))).1, .int .i64 (allocM (ls.map Prod.fst) N 5 (bigL (decide (z < 0)) (mg z.natAbs))).2]) ∧ RPost B g N vL ls w (allocO (ls.map Prod.fst) N 5 (bigL (decide (z < 0)) (mg z.natAbs))) w') := fun W af nf cf b U => by
    have hlen := U.len
    rw [bigL_len, ← hm, R.len] at hlen
    refine (ralloc_any 5 (by unfold Z64; omega) af nf cf _ W (h.on b) U (by have := b.size; omega) (by omega)).mono ?_
    rintro e w' ⟨rfl, hp⟩
    exact ⟨rfl, RPost.front b hp⟩
  have CW : Hid (∀ W, Z64 z → Calls Tryz.prog 29 #[.int .i64 1, .int .i64 z] W fun e w' => e = .returned (.int .u64 (wordR 1 z 0)) ∧ Below W.heap.size W w') := fun W hz => sword_any 1 z (by unfold Z64; omega) hz W
  have HS : Hid (∀ w', Below w.heap.size w w' → RPost B g N vL ls w (ls.map Prod.fst) w') := fun w' b => RPost.same h b
  have hroom := h.room
  have hus : ((usedL (ls.map Prod.fst) : Nat) : Int) ≤ N := hroom.1
  have hLM := layM_is (ls.map Prod.fst) N z
  have hLO := layO_is (ls.map Prod.fst) N z
  have hnd := need_nn z
  have hnd2 := need_le hi.parts.2.2.1
  have HAM : Hid (fixB z = false → layM (ls.map Prod.fst) N z = allocM (ls.map Prod.fst) N 5 (bigL (decide (z < 0)) (mg z.natAbs)) ∧ layO (ls.map Prod.fst) N z = allocO (ls.map Prod.fst) N 5 (bigL (decide (z < 0)) (mg z.natAbs))) := fun e => by
    unfold layM layO
    rw [e]; exact ⟨rfl, rfl⟩
  obtain ⟨fb, hfb⟩ : ∃ b, b = fixB z := ⟨_, rfl⟩
  rw [← hfb] at CF hLM hLO HAM
  have HZ64 : Hid (fb = true → Z64 z) := fun e => by
    rw [hfb] at e
    unfold fixB at e
    simp only [Bool.and_eq_true, decide_eq_true_eq] at e
    unfold Z64; omega
  rw [hW0] at CF
  obtain ⟨nd, hndd⟩ : ∃ x, x = needZ z := ⟨_, rfl⟩
  rw [← hndd] at CN hLM hLO hnd hnd2
  obtain ⟨rm, hrm⟩ : ∃ x, x = N - (usedL (ls.map Prod.fst) : Nat) := ⟨_, rfl⟩
  rw [← hrm] at CR hLM hLO
  have hrm1 : 0 ≤ rm := by omega
  have hrm2 : rm ≤ 1099511627776 := by omega
  obtain ⟨c0, c1⟩ := x0.c
  rw [hW0] at c0 c1
  have HLM := hid hLM
  have HLO := hid hLO
  clear R gd b0 x0 hm hng hfb hndd hrm hus hroom hz h hB hi hLM hLO hx hn40
  cases fb
  · go_enter Tryz.func9, Tryz.ntmps9
    go_wp2_with (go_at_call 28; (with_reducible refine CF.out.mono ?_); rintro e W1 ⟨v1, rfl, _, b1⟩; rw [← hW0] at b1; have HB1 := hid (Bt HB0.out b1); have HD := hid (show W1.cell? ⟨w.heap.size, 0, none⟩ = some (.bool neg) ∧ W1.cell? ⟨w.heap.size, 1, none⟩ = some (.slice ao n cap) ∧ Below W1.heap.size W1 W1 from ⟨(HX0.out.on b1).c.1, (HX0.out.on b1).c.2, Below.refl _ _⟩); clear b1)
    go_region_held3 (fun wx => wx.cell? ⟨w.heap.size, 0, none⟩ = some (.bool neg) ∧ wx.cell? ⟨w.heap.size, 1, none⟩ = some (.slice ao n cap) ∧ Below W1.heap.size W1 wx)
      (first | exact cell2_on HD.out (Bd W1 1) | exact cell2_on (by assumption) (by assumption))
      (first
        | (go_at_call 30; (with_reducible refine (CR.out _ (Bt HB1.out ?_)).mono ?_); (exact cell2_bel (p := w.heap.size) (a0 := .bool neg) (a1 := .slice ao n cap) (by assumption)); rintro e wa ⟨rfl, ba⟩)
        | (go_at_call 31; (with_reducible refine (CN.out _ (Bt HB1.out ?_)).mono ?_); (exact cell2_bel (p := w.heap.size) (a0 := .bool neg) (a1 := .slice ao n cap) (by assumption)); rintro e wb ⟨rfl, bb⟩))
    all_goals
      rename_i hHeld
      obtain ⟨k0, k1, hbl⟩ := hHeld
      have HB3 := hid (Bt HB1.out hbl)
      clear hbl
      by_cases hfull : rm < nd
      · have e1 : layM (ls.map Prod.fst) N z = (0, 3) := by rw [HLM.out, if_neg (by decide), if_pos hfull]
        have e2 : layO (ls.map Prod.fst) N z = ls.map Prod.fst := by rw [HLO.out, if_neg (by decide), if_pos hfull]
        have E1 := hid e1
        have E2 := hid e2
        clear e1 e2
        go_wp2_with fail
        go_ret2
        rw [E1.out, E2.out]
        exact ⟨rfl, HS.out _ HB3.out⟩
      · obtain ⟨e1, e2⟩ := HAM.out (by trivial)
        have E1 := hid e1
        have E2 := hid e2
        clear e1 e2 HLM HLO HAM
        have C4 := hid (CB.out _ HB3.out)
        go_wp2_with (first
          | (go_at_call 33; (with_reducible refine C4.out.mono ?_); rintro e W4 ⟨af, nf, cf, rfl, hU, b4⟩; have C5 := hid (CA.out W4 af nf cf (Bt HB3.out b4) hU); clear b4 hU)
          | (go_at_call 32; (with_reducible refine C5.out.mono ?_); rintro e W5 ⟨rfl, hp⟩; have HP := hid hp; clear hp))
        go_ret2
        rw [E1.out, E2.out]
        exact ⟨rfl, HP.out⟩
  · have e1 : layM (ls.map Prod.fst) N z = (wordR 1 z 0, 0) := by rw [HLM.out, if_pos rfl]
    have e2 : layO (ls.map Prod.fst) N z = ls.map Prod.fst := by rw [HLO.out, if_pos rfl]
    rw [e1, e2]
    have hz64 := HZ64.out rfl
    have HZ6 := hid hz64
    clear e1 e2 hz64
    obtain ⟨wz, hwz⟩ : ∃ x, x = wordR 1 z 0 := ⟨_, rfl⟩
    rw [← hwz] at CW ⊢
    clear hwz
    go_enter Tryz.func9, Tryz.ntmps9
    go_wp2_with (first
      | (go_at_call 28; (with_reducible refine CF.out.mono ?_); rintro e W1 ⟨v1, rfl, hv1, b1⟩; rw [hv1 (by trivial)]; rw [← hW0] at b1; have HB1 := hid b1; clear b1 hv1)
      | (go_at_call 29; (with_reducible refine (CW.out W1 HZ6.out).mono ?_); rintro e W2 ⟨rfl, b2⟩; have HB2 := hid (Bt HB1.out b2); clear b2))
    go_ret2
    exact ⟨rfl, HS.out _ (Bt HB0.out HB2.out)⟩
set_option maxHeartbeats 8000000 in
theorem droom_any (op p q : Int) (hp : U64 p) (hq : U64 q) (w : World) (h : RH B g N vL ls w) (ha : AllBig (ls.map Prod.fst)) :
    Calls Tryz.prog 16 #[.pointer (some ⟨g, 0, none⟩), .int .i64 op, .int .u64 p, .int .u64 q] w fun e w' => e = .returned (.int .i64 (needZ (resZ (ls.map Prod.fst) op p q).1)) ∧ Below w.heap.size w w' := by
  have CP : Hid (∀ W, Below w.heap.size w W → Calls Tryz.prog 13 #[.pointer (some ⟨g, 0, none⟩), .int .u64 p] W fun e w' => ∃ s ao n cap, e = .returned (.tuple #[.agg #[.bool s, .slice ao n cap], .bool (numM (ls.map Prod.fst) p).isSome]) ∧ IsInt w' (.agg #[.bool s, .slice ao n cap]) ((numM (ls.map Prod.fst) p).getD 0) ∧ Below W.heap.size W w') := fun W b => dnumber_any p hp W (h.on b) ha
  have CQ : Hid (∀ W, Below w.heap.size w W → Calls Tryz.prog 13 #[.pointer (some ⟨g, 0, none⟩), .int .u64 q] W fun e w' => ∃ s ao n cap, e = .returned (.tuple #[.agg #[.bool s, .slice ao n cap], .bool (numM (ls.map Prod.fst) q).isSome]) ∧ IsInt w' (.agg #[.bool s, .slice ao n cap]) ((numM (ls.map Prod.fst) q).getD 0) ∧ Below W.heap.size W w') := fun W b => dnumber_any q hq W (h.on b) ha
  have CR : Hid (∀ (x y : Value) (a b : Int) (W : World), IsInt W x a → IsInt W y b → Calls Tryz.prog 46 #[.int .i64 op, x, y] W (RkPost W (reckM op a b))) := fun x y a b W hx hy => rreckon_any op x y a b W hx hy
  unfold RkPost at CR
  have CN : Hid (∀ (s : Bool) (a : Option Addr) (m c : Nat) (z : Int) (W : World), IsInt W (.agg #[.bool s, .slice a m c]) z → Calls Tryz.prog 31 #[.agg #[.bool s, .slice a m c]] W fun e w' => e = .returned (.int .i64 (needZ z)) ∧ Below W.heap.size W w') := fun s a m c z W hi => rneed_any _ z W hi
  have hop : op < 1 ∨ 6 < op → ∀ a b, reckM op a b = (0, 1) := fun h a b => by
    unfold reckM
    rw [if_neg (by omega), if_neg (by omega), if_neg (by omega), if_neg (by omega), if_neg (by omega), if_neg (by omega)]
  have hres : resZ (ls.map Prod.fst) op p q = if op < 1 ∨ 6 < op then (0, 1) else if (bothZ (ls.map Prod.fst) p q).2.2 = 0 then reckM op (bothZ (ls.map Prod.fst) p q).1 (bothZ (ls.map Prod.fst) p q).2.1 else (0, (bothZ (ls.map Prod.fst) p q).2.2) := rfl
  have hbz : bothZ (ls.map Prod.fst) p q = if ((numM (ls.map Prod.fst) p).isSome && (numM (ls.map Prod.fst) q).isSome) = true then ((numM (ls.map Prod.fst) p).getD 0, (numM (ls.map Prod.fst) q).getD 0, 0) else (0, 0, 70) := rfl
  obtain ⟨zp, hzp⟩ : ∃ z, z = (numM (ls.map Prod.fst) p).getD 0 := ⟨_, rfl⟩
  obtain ⟨zq, hzq⟩ : ∃ z, z = (numM (ls.map Prod.fst) q).getD 0 := ⟨_, rfl⟩
  obtain ⟨bp, hbp⟩ : ∃ z, z = (numM (ls.map Prod.fst) p).isSome := ⟨_, rfl⟩
  obtain ⟨bq, hbq⟩ : ∃ z, z = (numM (ls.map Prod.fst) q).isSome := ⟨_, rfl⟩
  rw [← hzp, ← hbp] at CP
  rw [← hzq, ← hbq] at CQ
  rw [← hzp, ← hbp, ← hzq, ← hbq] at hbz
  have HNO : Hid ((bp && bq) = false → needZ (resZ (ls.map Prod.fst) op p q).1 = 0) := fun e => by
    rw [hres, hbz, e]
    by_cases h1 : op < 1 ∨ 6 < op
    · rw [if_pos h1]; exact need_zero
    · rw [if_neg h1]
      show needZ (if (70 : Int) = 0 then _ else ((0 : Int), (70 : Int))).1 = 0
      rw [if_neg (by decide)]; exact need_zero
  have HYES : Hid ((bp && bq) = true → needZ (resZ (ls.map Prod.fst) op p q).1 = if (reckM op zp zq).2 = 0 then needZ (reckM op zp zq).1 else 0) := fun e => by
    rw [hres, hbz, e]
    by_cases h1 : op < 1 ∨ 6 < op
    · rw [if_pos h1, hop h1, if_neg (by decide)]; exact need_zero
    · rw [if_neg h1]
      show needZ (if (0 : Int) = 0 then reckM op zp zq else _).1 = _
      rw [if_pos rfl]
      by_cases h2 : (reckM op zp zq).2 = 0
      · rw [if_pos h2]
      · rw [if_neg h2, (reck_err h2).1]; exact need_zero
  obtain ⟨nd, hnd⟩ : ∃ z, z = needZ (resZ (ls.map Prod.fst) op p q).1 := ⟨_, rfl⟩
  rw [← hnd] at HNO HYES ⊢
  obtain ⟨r, hr⟩ : ∃ r, r = reckM op zp zq := ⟨_, rfl⟩
  rw [← hr] at HYES
  have HR := hid hr
  clear hop hres hbz hzp hzq hbp hbq hnd hr h ha hp hq
  go_enter Tryz.func16, Tryz.ntmps16
  go_wp2_with fail
  (with_reducible refine (CP.out w (Below.refl _ _)).mono ?_)
  rintro e W1 ⟨s1, a1, n1, c1, rfl, i1, v1⟩
  have u1 := Ba W1 (.cells #[.bool s1, .slice a1 n1 c1] 40)
  have Y1 := hid (Box.new 40 W1 s1 a1 n1 c1)
  have I1 := hid (i1.below u1)
  have HB1 := hid (Bt v1 u1)
  clear i1 v1 u1
  go_wp2_with fail
  (with_reducible refine (CQ.out _ HB1.out).mono ?_)
  rintro e W2 ⟨s2, a2, n2, c2, rfl, i2, v2⟩
  have u2 := Ba W2 (.cells #[.bool s2, .slice a2 n2 c2] 40)
  have Y2 := hid (Box.new 40 W2 s2 a2 n2 c2)
  have I2 := hid (i2.below u2)
  have v2' := Bt v2 u2
  have Y1' := hid (Y1.out.on v2')
  have I1' := hid (I1.out.below v2')
  have HB2 := hid (Bt HB1.out v2')
  obtain ⟨d0, d1⟩ := Y1'.out.c
  obtain ⟨d2, d3⟩ := Y2.out.c
  clear i2 v2 u2 v2'
  have C3 := hid (CR.out _ _ _ _ _ I1'.out I2.out)
  rw [← HR.out] at C3
  go_wp2_with fail
  (with_reducible refine C3.out.mono ?_)
  rintro e W3 ⟨s3, a3, n3, c3, rfl, i3, v3⟩
  have u3 := Ba W3 (.cells #[.bool s3, .slice a3 n3 c3] 40)
  obtain ⟨k0, k1⟩ := (Box.new 40 W3 s3 a3 n3 c3).c
  have I3 := hid (i3.below u3)
  have HB3 := hid (Bt HB2.out (Bt v3 u3))
  clear i3 v3 u3 d0 d1 d2 d3
  by_cases hb : (bp && bq) = true
  · have hy := HYES.out hb
    rw [Bool.and_eq_true] at hb
    obtain ⟨rfl, rfl⟩ := hb
    by_cases h2 : r.2 = 0
    · rw [if_pos h2] at hy
      have C4 := hid (CN.out _ _ _ _ _ _ I3.out)
      rw [← hy] at C4
      have e2 : (r.2 == 0) = true := by simp [h2]
      rw [h2]
      clear hy h2 e2
      go_wp2_with (go_at_call 31; (with_reducible refine C4.out.mono ?_); rintro e W4 ⟨rfl, v4⟩; have HB4 := hid (Bt HB3.out v4); clear v4)
      go_ret
      exact ⟨rfl, HB4.out⟩
    · rw [if_neg h2] at hy
      have HY := hid hy
      obtain ⟨er, her⟩ : ∃ e, e = r.2 := ⟨_, rfl⟩
      rw [← her] at h2 ⊢
      have e2 : (er == 0) = false := by simpa using h2
      clear hy her
      go_wp2_with fail
      go_ret
      exact ⟨by rw [HY.out]; rfl, HB3.out⟩
  · have hb' : (bp && bq) = false := by simpa using hb
    have hy := HNO.out hb'
    have HY := hid hy
    clear hy hb
    cases bp
    · go_wp2_with fail
      go_ret
      exact ⟨by rw [HY.out]; rfl, HB3.out⟩
    · obtain rfl : bq = false := by simpa using hb'
      go_wp2_with fail
      go_ret
      exact ⟨by rw [HY.out]; rfl, HB3.out⟩
set_option maxHeartbeats 8000000 in
theorem ddo_any (op p q : Int) (hp : U64 p) (hq : U64 q) (w : World) (h : RH B g N vL ls w) (ha : AllBig (ls.map Prod.fst)) (hB : B ≤ w.heap.size) :
    Calls Tryz.prog 19 #[.pointer (some ⟨g, 0, none⟩), .int .i64 op, .int .u64 p, .int .u64 q] w fun e w' => e = .returned (.tuple #[.int .u64 (doM (ls.map Prod.fst) N op p q).1, .int .i64 (doM (ls.map Prod.fst) N op p q).2]) ∧ RPost B g N vL ls w (doO (ls.map Prod.fst) N op p q) w' := by
  have CP : Hid (∀ W, Below w.heap.size w W → Calls Tryz.prog 13 #[.pointer (some ⟨g, 0, none⟩), .int .u64 p] W fun e w' => ∃ s ao n cap, e = .returned (.tuple #[.agg #[.bool s, .slice ao n cap], .bool (numM (ls.map Prod.fst) p).isSome]) ∧ IsInt w' (.agg #[.bool s, .slice ao n cap]) ((numM (ls.map Prod.fst) p).getD 0) ∧ Below W.heap.size W w') := fun W b => dnumber_any p hp W (h.on b) ha
  have CQ : Hid (∀ W, Below w.heap.size w W → Calls Tryz.prog 13 #[.pointer (some ⟨g, 0, none⟩), .int .u64 q] W fun e w' => ∃ s ao n cap, e = .returned (.tuple #[.agg #[.bool s, .slice ao n cap], .bool (numM (ls.map Prod.fst) q).isSome]) ∧ IsInt w' (.agg #[.bool s, .slice ao n cap]) ((numM (ls.map Prod.fst) q).getD 0) ∧ Below W.heap.size W w') := fun W b => dnumber_any q hq W (h.on b) ha
  have CR : Hid (∀ (x y : Value) (a b : Int) (W : World), IsInt W x a → IsInt W y b → Calls Tryz.prog 46 #[.int .i64 op, x, y] W (RkPost W (reckM op a b))) := fun x y a b W hx hy => rreckon_any op x y a b W hx hy
  unfold RkPost at CR
  have CL : Hid (∀ (s : Bool) (a : Option Addr) (m c : Nat) (z : Int) (W : World), Below w.heap.size w W → IsInt W (.agg #[.bool s, .slice a m c]) z → Calls Tryz.prog 9 #[.pointer (some ⟨g, 0, none⟩), .agg #[.bool s, .slice a m c]] W fun e w' => e = .returned (.tuple #[.int .u64 (layM (ls.map Prod.fst) N z).1, .int .i64 (layM (ls.map Prod.fst) N z).2]) ∧ RPost B g N vL ls w (layO (ls.map Prod.fst) N z) w') := fun s a m c z W b hi => by
    refine (dlay_any _ z W (h.on b) hi (Nat.le_trans hB b.size)).mono ?_
    rintro e w' ⟨rfl, hp⟩
    exact ⟨rfl, RPost.front b hp⟩
  have HS : Hid (∀ w', Below w.heap.size w w' → RPost B g N vL ls w (ls.map Prod.fst) w') := fun w' b => RPost.same h b
  have hres : resZ (ls.map Prod.fst) op p q = if op < 1 ∨ 6 < op then (0, 1) else if (bothZ (ls.map Prod.fst) p q).2.2 = 0 then reckM op (bothZ (ls.map Prod.fst) p q).1 (bothZ (ls.map Prod.fst) p q).2.1 else (0, (bothZ (ls.map Prod.fst) p q).2.2) := rfl
  have hbz : bothZ (ls.map Prod.fst) p q = if ((numM (ls.map Prod.fst) p).isSome && (numM (ls.map Prod.fst) q).isSome) = true then ((numM (ls.map Prod.fst) p).getD 0, (numM (ls.map Prod.fst) q).getD 0, 0) else (0, 0, 70) := rfl
  have hdm : doM (ls.map Prod.fst) N op p q = if (resZ (ls.map Prod.fst) op p q).2 = 0 then layM (ls.map Prod.fst) N (resZ (ls.map Prod.fst) op p q).1 else (0, (resZ (ls.map Prod.fst) op p q).2) := rfl
  have hdo : doO (ls.map Prod.fst) N op p q = if (resZ (ls.map Prod.fst) op p q).2 = 0 then layO (ls.map Prod.fst) N (resZ (ls.map Prod.fst) op p q).1 else ls.map Prod.fst := rfl
  obtain ⟨zp, hzp⟩ : ∃ z, z = (numM (ls.map Prod.fst) p).getD 0 := ⟨_, rfl⟩
  obtain ⟨zq, hzq⟩ : ∃ z, z = (numM (ls.map Prod.fst) q).getD 0 := ⟨_, rfl⟩
  obtain ⟨bp, hbp⟩ : ∃ z, z = (numM (ls.map Prod.fst) p).isSome := ⟨_, rfl⟩
  obtain ⟨bq, hbq⟩ : ∃ z, z = (numM (ls.map Prod.fst) q).isSome := ⟨_, rfl⟩
  rw [← hzp, ← hbp] at CP
  rw [← hzq, ← hbq] at CQ
  rw [← hzp, ← hbp, ← hzq, ← hbq] at hbz
  obtain ⟨r, hr⟩ : ∃ r, r = reckM op zp zq := ⟨_, rfl⟩
  have HR := hid hr
  have HX1 : Hid (op < 1 ∨ 6 < op → doM (ls.map Prod.fst) N op p q = (0, 1) ∧ doO (ls.map Prod.fst) N op p q = ls.map Prod.fst) := fun h1 => by
    rw [hdm, hdo, hres, if_pos h1]; exact ⟨rfl, rfl⟩
  have HX2 : Hid (¬ (op < 1 ∨ 6 < op) → (bp && bq) = false → doM (ls.map Prod.fst) N op p q = (0, 70) ∧ doO (ls.map Prod.fst) N op p q = ls.map Prod.fst) := fun h1 h2 => by
    rw [hdm, hdo, hres, if_neg h1, hbz, h2]; exact ⟨rfl, rfl⟩
  have HX3 : Hid (¬ (op < 1 ∨ 6 < op) → (bp && bq) = true → doM (ls.map Prod.fst) N op p q = (if r.2 = 0 then layM (ls.map Prod.fst) N r.1 else (0, r.2)) ∧ doO (ls.map Prod.fst) N op p q = (if r.2 = 0 then layO (ls.map Prod.fst) N r.1 else ls.map Prod.fst)) := fun h1 h2 => by
    rw [hdm, hdo, hres, if_neg h1, hbz, h2, hr]; exact ⟨rfl, rfl⟩
  clear hres hbz hdm hdo hzp hzq hbp hbq hr h ha hp hq hB
  by_cases h1 : op < 1 ∨ 6 < op
  · obtain ⟨e1, e2⟩ := HX1.out h1
    rw [e1, e2]
    clear e1 e2 HX1 HX2 HX3
    by_cases h3 : op < 1
    · go_enter Tryz.func19, Tryz.ntmps19
      go_wp2_with fail
      go_ret2
      exact ⟨rfl, HS.out _ (Below.refl _ _)⟩
    · have h4 : 6 < op := by omega
      go_enter Tryz.func19, Tryz.ntmps19
      go_wp2_with fail
      go_ret2
      exact ⟨rfl, HS.out _ (Below.refl _ _)⟩
  · have h3 : ¬ op < 1 := by omega
    have h4 : ¬ 6 < op := by omega
    have HX2 := hid (HX2.out h1)
    have HX3 := hid (HX3.out h1)
    clear h1 HX1
    go_enter Tryz.func19, Tryz.ntmps19
    go_wp2_with fail
    (with_reducible refine (CP.out w (Below.refl _ _)).mono ?_)
    rintro e W1 ⟨s1, a1, n1, c1, rfl, i1, v1⟩
    have u1 := Ba W1 (.cells #[.bool s1, .slice a1 n1 c1] 40)
    have Y1 := hid (Box.new 40 W1 s1 a1 n1 c1)
    have I1 := hid (i1.below u1)
    have HB1 := hid (Bt v1 u1)
    clear i1 v1 u1
    go_wp2_with fail
    (with_reducible refine (CQ.out _ HB1.out).mono ?_)
    rintro e W2 ⟨s2, a2, n2, c2, rfl, i2, v2⟩
    have u2 := Ba W2 (.cells #[.bool s2, .slice a2 n2 c2] 40)
    have Y2 := hid (Box.new 40 W2 s2 a2 n2 c2)
    have I2 := hid (i2.below u2)
    have v2' := Bt v2 u2
    have Y1' := hid (Y1.out.on v2')
    have I1' := hid (I1.out.below v2')
    have HB2 := hid (Bt HB1.out v2')
    obtain ⟨d0, d1⟩ := Y1'.out.c
    obtain ⟨d2, d3⟩ := Y2.out.c
    clear i2 v2 u2 v2'
    by_cases hb : (bp && bq) = true
    · obtain ⟨e1, e2⟩ := HX3.out hb
      have E1 := hid e1
      have E2 := hid e2
      rw [Bool.and_eq_true] at hb
      obtain ⟨rfl, rfl⟩ := hb
      have C3 := hid (CR.out _ _ _ _ _ I1'.out I2.out)
      rw [← HR.out] at C3
      clear e1 e2 HX2 HX3
      by_cases h2 : r.2 = 0
      · rw [h2] at C3
        have hr2 := hid h2
        clear h2
        obtain ⟨z, hz⟩ : ∃ z, z = r.1 := ⟨_, rfl⟩
        rw [← hz] at C3
        have HZ := hid hz
        clear hz
        go_wp2_with (first
          | (go_at_call 46; (with_reducible refine C3.out.mono ?_); rintro e W3 ⟨s3, a3, n3, c3, rfl, i3, v3⟩; have u3 := Ba W3 (.cells #[.bool s3, .slice a3 n3 c3] 40); obtain ⟨k0, k1⟩ := (Box.new 40 W3 s3 a3 n3 c3).c; have C4 := hid (CL.out _ _ _ _ _ _ (Bt HB2.out (Bt v3 u3)) (i3.below u3)); clear i3 v3 u3)
          | (go_at_call 9; (with_reducible refine C4.out.mono ?_); rintro e W4 ⟨rfl, hp4⟩; have HP4 := hid hp4; clear hp4))
        go_ret2
        rw [E1.out, E2.out, if_pos hr2.out, if_pos hr2.out, ← HZ.out]
        exact ⟨rfl, HP4.out⟩
      · obtain ⟨er, her⟩ : ∃ e, e = r.2 := ⟨_, rfl⟩
        have HER := hid her
        have hr2 := hid h2
        rw [← her] at C3 h2
        have e2 : (er == 0) = false := by simpa using h2
        clear her
        go_wp2_with (go_at_call 46; (with_reducible refine C3.out.mono ?_); rintro e W3 ⟨s3, a3, n3, c3, rfl, i3, v3⟩; have u3 := Ba W3 (.cells #[.bool s3, .slice a3 n3 c3] 40); have HB3 := hid (Bt HB2.out (Bt v3 u3)); clear i3 v3 u3)
        go_ret2
        rw [E1.out, E2.out, if_neg hr2.out, if_neg hr2.out, ← HER.out]
        exact ⟨rfl, HS.out _ HB3.out⟩
    · have hb' : (bp && bq) = false := by simpa using hb
      obtain ⟨e1, e2⟩ := HX2.out hb'
      have E1 := hid e1
      have E2 := hid e2
      clear e1 e2 HX2 HX3 hb
      cases bp
      · go_wp2_with fail
        go_ret2
        rw [E1.out, E2.out]
        exact ⟨rfl, HS.out _ HB2.out⟩
      · obtain rfl : bq = false := by simpa using hb'
        go_wp2_with fail
        go_ret2
        rw [E1.out, E2.out]
        exact ⟨rfl, HS.out _ HB2.out⟩
end
end Go.Proofs.YtdekkieajffblaaGreat
