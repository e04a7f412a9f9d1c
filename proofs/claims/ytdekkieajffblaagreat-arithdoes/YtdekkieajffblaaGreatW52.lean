/-
  Walks, of the document's answer: Div.
-/
import Derived.Test.YtdekkieajffblaaGreatMath3
import Derived.Test.YtdekkieajffblaaGreatW23
set_option linter.unusedVariables false
set_option linter.unusedSimpArgs false
namespace Go.Proofs.YtdekkieajffblaaGreat
open Go.RowKit

theorem pow_256 (k j : Nat) : 2 ^ (8 * k + j) = 256 ^ k * 2 ^ j := by
  rw [Nat.pow_add, Nat.pow_mul]
theorem split_at {l : List Nat} (k : Nat) (hk : k < l.length) : ∃ z, val 256 l = val 256 (l.take k) + 256 ^ k * (l.getD k 0 + 256 * z) := by
  refine ⟨val 256 (l.drop (k + 1)), ?_⟩
  rw [val_split 256 l k (by omega), val_drop_succ 256 l k hk]
theorem take_bd {l : List Nat} (hd : Dg 256 l) (k : Nat) (hk : k < l.length) : val 256 (l.take k) < 256 ^ k := by
  have := val_lt (hd.take k); rwa [List.length_take, Nat.min_eq_left (by omega)] at this
/-- A bit of a byte is that bit of the number. -/
theorem bit_of {l : List Nat} (hd : Dg 256 l) (k j : Nat) (hk : k < l.length) (hj : j < 8) : val 256 l / 2 ^ (8 * k + j) % 2 = l.getD k 0 / 2 ^ j % 2 := by
  obtain ⟨z, hz⟩ := split_at k hk
  have h1 := take_bd hd k hk
  have hp : 0 < 256 ^ k := Nat.pow_pos (by decide)
  have hj2 : 0 < 2 ^ j := Nat.pow_pos (by decide)
  rw [pow_256, ← Nat.div_div_eq_div_mul, hz, Nat.add_mul_div_left _ _ hp, Nat.div_eq_of_lt h1, Nat.zero_add]
  have e : 256 * z = 2 ^ j * (2 ^ (7 - j) * (2 * z)) := by
    have : 2 ^ j * 2 ^ (7 - j) = 128 := by rw [← Nat.pow_add, show j + (7 - j) = 7 by omega]
    rw [← Nat.mul_assoc, this]; omega
  rw [e, Nat.add_mul_div_left _ _ hj2, Nat.mul_left_comm, Nat.add_mul_mod_self_left]
/-- Where a number has noughts below, a byte has. -/
theorem low_zero {l : List Nat} (hd : Dg 256 l) (k j : Nat) (hk : k < l.length) (hj : j ≤ 8) (h : val 256 l % 2 ^ (8 * k + j) = 0) : l.getD k 0 % 2 ^ j = 0 := by
  obtain ⟨z, hz⟩ := split_at k hk
  have h1 := take_bd hd k hk
  have hp : 0 < 256 ^ k := Nat.pow_pos (by decide)
  rw [pow_256] at h
  obtain ⟨c, hc⟩ := Nat.dvd_of_mod_eq_zero h
  have h2 : val 256 (l.take k) = 0 := by
    have h3 : val 256 l % 256 ^ k = 0 := by rw [hc, Nat.mul_assoc, Nat.mul_mod_right]
    rw [hz, Nat.add_mul_mod_self_left, Nat.mod_eq_of_lt h1] at h3
    exact h3
  rw [hz, h2, Nat.zero_add, Nat.mul_assoc] at hc
  have h4 := Nat.eq_of_mul_eq_mul_left hp hc
  have e : 256 * z = 2 ^ j * (2 ^ (8 - j) * z) := by
    have : 2 ^ j * 2 ^ (8 - j) = 256 := by rw [← Nat.pow_add, show j + (8 - j) = 8 by omega]
    rw [← Nat.mul_assoc, this]
  rw [e] at h4
  have h5 : (l.getD k 0 + 2 ^ j * (2 ^ (8 - j) * z)) % 2 ^ j = 0 := by rw [h4, Nat.mul_mod_right]
  rwa [Nat.add_mul_mod_self_left] at h5
/-- One bit more of a number. -/
theorem bit_more (X p : Nat) : X / 2 ^ p = 2 * (X / 2 ^ (p + 1)) + X / 2 ^ p % 2 := by
  have : X / 2 ^ (p + 1) = X / 2 ^ p / 2 := by rw [Nat.pow_succ, Nat.div_div_eq_div_mul]
  rw [this]; omega
theorem div_less {X p Q V r bit : Nat} (h : X / 2 ^ (p + 1) = Q * V + r) (hb : bit = X / 2 ^ p % 2) (hlt : r + r + bit < V) : X / 2 ^ p = (2 * Q) * V + (r + r + bit) := by
  rw [bit_more, h, ← hb, Nat.mul_assoc]; omega
theorem div_more {X p Q V r bit : Nat} (h : X / 2 ^ (p + 1) = Q * V + r) (hb : bit = X / 2 ^ p % 2) (hge : V ≤ r + r + bit) : X / 2 ^ p = (2 * Q + 1) * V + (r + r + bit - V) := by
  rw [bit_more, h, ← hb, Nat.add_mul, Nat.mul_assoc]; omega

theorem or_bit (x j : Nat) (hx : x < 256) (hj : j < 8) (h : x % 2 ^ (j + 1) = 0) : bits .or .u8 (x : Int) ((2 ^ j : Nat) : Int) = ((x + 2 ^ j : Nat) : Int) ∧ x + 2 ^ j < 256 := by
  have : ∀ x : Fin 256, ∀ j : Fin 8, x.1 % 2 ^ (j.1 + 1) = 0 → bits .or .u8 (x.1 : Int) ((2 ^ j.1 : Nat) : Int) = ((x.1 + 2 ^ j.1 : Nat) : Int) ∧ x.1 + 2 ^ j.1 < 256 := by decide +kernel
  exact this ⟨x, hx⟩ ⟨j, hj⟩ h
theorem and_one (x j : Nat) (hx : x < 256) (hj : j < 8) : bits .and .u8 ((x / 2 ^ j : Nat) : Int) 1 = ((x / 2 ^ j % 2 : Nat) : Int) := by
  have : ∀ x : Fin 256, ∀ j : Fin 8, bits .and .u8 ((x.1 / 2 ^ j.1 : Nat) : Int) 1 = ((x.1 / 2 ^ j.1 % 2 : Nat) : Int) := by decide +kernel
  exact this ⟨x, hx⟩ ⟨j, hj⟩

theorem IsInt.setBox2 {w : World} {v0 : Value} {z : Int} {p : Nat} {x : Bool} {a : Option Addr} {m c : Nat} {t : TypeId} (h : IsInt w v0 z) (hp : Box t w p x a m c) (y : Bool) (v : Value) : IsInt ((w.setCell ⟨p, 0, none⟩ (.bool y)).setCell ⟨p, 1, none⟩ v) v0 z := by
  obtain ⟨s, ao, n, cap, l, rfl, R, g, rfl⟩ := h.open_
  exact ⟨s, l, ⟨ao, n, cap, rfl, R.setBox2 hp y v⟩, g, rfl⟩
theorem dbl (Q P : Nat) : Q * (P * 2) = 2 * Q * P := by grind
theorem Win.frame' {k : IntKind} {e : TypeId} {g o n : Nat} {w w' : World} {cur : Array Value} {l : List Nat} (h : Win k e w g o n cur l) (hb : w'.heap[g]? = w.heap[g]?) : Win k e w' g o n cur l := ⟨hb.trans h.blk, h.fits, h.len, h.at_⟩
theorem Bt' {B : Nat} {w w1 : World} (h1 : Below B w w1) : Below B w w1.drew := h1.trans ⟨rfl, rfl, rfl, Nat.le_refl _, fun _ _ => rfl⟩
theorem Own.far {k : IntKind} {e : TypeId} {B base : Nat} {w : World} {ao : Option Addr} {n cap : Nat} {l : List Nat} (h : Own k e B base w ao n cap l) {p : Addr} (hp : p.block < base) (v : Value) : Row k B (w.setCell p v) ao n cap l := by
  have R := h.row
  refine ⟨R.len, R.fits, R.most, R.nil_, R.dg, ?_⟩
  rcases h.own with h0 | ⟨g, cur, h1, h2, h3⟩
  · exact .inl (List.length_eq_zero_iff.1 (by rw [R.len, h0]))
  · have hb : (w.setCell p v).heap[g]? = w.heap[g]? := Below.heap_setCell _ _ _ _ (by omega)
    have := (⟨hb.trans h3.blk, h3.fits, h3.len, h3.at_⟩ : Win k e (w.setCell p v) g 0 n cur l).rd
    rw [h1]; exact this

/-- What is known at each bit: m bits are still to come. -/
structure Bv (X V m : Nat) (ql rl : List Nat) : Prop where
  tr : Tr rl
  qd : Dg 256 ql
  lt : val 256 rl < V
  eq : ∃ Q, val 256 ql = Q * 2 ^ m ∧ X / 2 ^ m = Q * V + val 256 rl

set_option maxHeartbeats 4000000 in
theorem rdiv_any (neg neg' : Bool) (ao ao' : Option Addr) (n cap n' cap' : Nat) (l l' : List Nat) (w : World) (R : Row .u32 B32 w ao n cap l) (R' : Row .u32 B32 w ao' n' cap' l') (hs : n ≤ 40) (hs' : n' ≤ 40) (h0 : n' ≠ 0) (t' : Tr l') :
    Calls Tryz.prog 76 #[.agg #[.bool neg, .slice ao n cap], .agg #[.bool neg', .slice ao' n' cap']] w fun e w' => ∃ xq xr, e = .returned (.tuple #[xq, xr, .int .i64 0]) ∧ IsInt w' xq ((sgn neg (val B32 l)).tdiv (sgn neg' (val B32 l'))) ∧ IsInt w' xr ((sgn neg (val B32 l)).tmod (sgn neg' (val B32 l'))) ∧ Below w.heap.size w w' := by
  have HR := hid R
  have HR' := hid R'
  have HT' := hid t'
  have hmx' := R'.most
  have hft' := R'.fits
  unfold maxLen at hmx'
  clear R R' t'
  go_enter Tryz.func76, Tryz.ntmps76
  go_wp2
  obtain ⟨x1, x2, x3, x4, hb0⟩ := four_boxes 40 w neg neg' false false ao ao' none none n cap n' cap' 0 0 0 0 _ rfl
  generalize hW0 : ((((w.alloc (.cells #[.bool neg, .slice ao n cap] 40)).alloc (.cells #[.bool neg', .slice ao' n' cap'] 40)).alloc (.cells #[.bool false, .slice none 0 0] 40)).alloc (.cells #[.bool false, .slice none 0 0] 40)) = W0 at *
  clear hW0
  have HS : Hid (W0.cell? ⟨w.heap.size, 0, none⟩ = some (.bool neg) ∧ W0.cell? ⟨w.heap.size, 1, none⟩ = some (.slice ao n cap) ∧ W0.cell? ⟨w.heap.size + 1, 0, none⟩ = some (.bool neg') ∧ W0.cell? ⟨w.heap.size + 1, 1, none⟩ = some (.slice ao' n' cap')) := ⟨x1.c.1, x1.c.2, x2.c.1, x2.c.2⟩
  have RW := hid (HR.out.below hb0)
  have RW' := hid (HR'.out.below hb0)
  have X1 := hid x1
  have X2 := hid x2
  have X3 := hid x3
  have X4 := hid x4
  have HB0 := hid hb0
  clear x1 x2 x3 x4 hb0
  go_region_held3 (fun wx => wx.cell? ⟨w.heap.size, 0, none⟩ = some (.bool neg) ∧ wx.cell? ⟨w.heap.size, 1, none⟩ = some (.slice ao n cap) ∧ wx.cell? ⟨w.heap.size + 1, 0, none⟩ = some (.bool neg') ∧ wx.cell? ⟨w.heap.size + 1, 1, none⟩ = some (.slice ao' n' cap'))
    (first | exact keep4 HS.out (Bd W0 1) | exact keep4 (by assumption) (by assumption))
    (first
      | (go_at_call_of 45 (Value.slice ao n cap); refine (bytes_any neg ao n cap l _ ?_ (by omega)).mono ?_; (exact RW.out.below (Bd W0 1)); rintro e wa ⟨m1, ao1, cap1, l1, rfl, hm1, hO1, ht1, hv1, ba⟩; have O1 := hid hO1; have T1 := hid ht1; have V1 := hid hv1; clear hO1 ht1 hv1)
      | (go_at_call_of 45 (Value.slice ao' n' cap'); refine (bytes_any neg' ao' n' cap' l' _ ?_ (by omega)).mono ?_; (exact (RW'.out.below (Bd W0 1)).below ba); rintro e wb ⟨m2, ao2, cap2, l2, rfl, hm2, hO2, ht2, hv2, bb⟩; have O2 := hid hO2; have T2 := hid ht2; have V2 := hid hv2; clear hO2 ht2 hv2))
  have hW : Below W0.heap.size W0 wb := Bt (Bt (Bd W0 1) ba) bb
  have HBb := hid (Bt HB0.out hW)
  have Y1 := hid (X1.out.on hW)
  have Y2 := hid (X2.out.on hW)
  have Y3 := hid (X3.out.on hW)
  have Y4 := hid (X4.out.on hW)
  have Rx := hid (O1.out.row.below bb)
  have Ry := hid O2.out.row
  rename_i hHeld
  clear hHeld hW ba bb O1 O2 X1 X2 X3 X4 RW RW' HS HB0
  have hmx1 := Rx.out.most
  have hft1 := Rx.out.fits
  have hmx2 := Ry.out.most
  have hft2 := Ry.out.fits
  unfold maxLen at hmx1 hmx2
  have hmk := fun wx => run_make_row' (P := Tryz.prog) 87 5 (.int .u8 0) 1 Tryz.underlying87 info_u8 rfl .i64 .i64 m1 (by omega) (by omega) wx
  go_wp2
  have hW0 := made_win wb .u8 5 m1
  have hbm := Ba wb (.cells (madeCells #[.int .u8 0] m1) 5)
  obtain ⟨gq, hg⟩ : ∃ gq, gq = wb.heap.size := ⟨_, rfl⟩
  rw [← hg] at hW0
  generalize hWW : wb.alloc (.cells (madeCells #[.int .u8 0] m1) 5) = W1 at *
  generalize madeCells #[.int .u8 0] m1 = curq at *
  rw [← hg]
  have hgW : gq < W1.heap.size := hW0.lt
  have hVp : 0 < val 256 l2 := by
    rw [V2.out]; exact Nat.pos_of_ne_zero (HT'.out.ne_zero (by decide) (fun e => h0 (by rw [← HR'.out.len, e]; rfl)))
  have HST : Hid (Below wb.heap.size wb W1 ∧ (∃ cq, Win .u8 5 W1 gq 0 m1 cq (List.replicate m1 0)) ∧ Row .u8 256 W1 none 0 0 [] ∧ Bv (val 256 l1) (val 256 l2) (8 * m1) (List.replicate m1 0) []) := by
    refine ⟨hbm, ⟨_, hW0⟩, Row.nil _ _ _ _, Tr.nil, Dg.zeros (by decide) _, hVp, 0, by rw [val_zeros]; simp, ?_⟩
    have := val_lt Rx.out.dg
    rw [Rx.out.len] at this
    rw [Nat.pow_mul, Nat.div_eq_of_lt this]; simp [val]
  have HG := hid hg
  clear hmk hWW hW0 hbm hg hVp
  have HM1 := hid hm1
  have HM2 := hid hm2
  have hm1b : m1 ≤ 160 := by omega
  have hm2b : m2 ≤ 160 := by omega
  go_loopw [10, 11] (fun r i wr => ∃ m mr cr : Nat, ∃ ar : Option Addr, ∃ rl ql : List Nat, m ≤ 8 * m1 ∧ i = .int .i64 ((m : Int) - 1) ∧ r = .slice ar mr cr ∧ mr ≤ m2 ∧ gq < wr.heap.size ∧ Hid (Below wb.heap.size wb wr ∧ (∃ cq, Win .u8 5 wr gq 0 m1 cq ql) ∧ Row .u8 256 wr ar mr cr rl ∧ Bv (val 256 l1) (val 256 l2) m ql rl)) (fun _ i _ => (intOf i + 1).toNat)
  case atStart => exact ⟨8 * m1, 0, 0, none, [], _, Nat.le_refl _, by simp, rfl, by omega, hgW, HST⟩
  case round =>
    clear hm1 hm2 hgW
    obtain ⟨m, mr, cr, ar, rl, ql, hm, rfl, rfl, hmr, hgw, hI⟩ := hrel
    by_cases hz : m = 0
    · subst hz
      obtain ⟨hbw, ⟨cq, hq⟩, hrr, hbv⟩ := hI.out
      have hY1 := Y1.out.on hbw
      have hY2 := Y2.out.on hbw
      have HY1 := hid hY1
      have HY3 := hid (Y3.out.on hbw)
      have HY4 := hid (Y4.out.on hbw)
      obtain ⟨c0, c1⟩ := hY1.c
      obtain ⟨d0, d1⟩ := hY2.c
      have HBW := hid hbw
      obtain ⟨Q, hQ1, hQ2⟩ := hbv.eq
      rw [Nat.pow_zero, Nat.mul_one] at hQ1
      rw [Nat.pow_zero, Nat.div_one] at hQ2
      have hlt := hbv.lt
      obtain ⟨u1, u2⟩ := div_of (U := val 256 l1) (V := val 256 l2) (q := Q) (by omega) (by rw [Nat.add_mul]; omega)
      have EQ : Hid (val 256 ql = val B32 l / val B32 l') := by rw [← V1.out, ← V2.out, u1]; exact hQ1
      have ER : Hid (val 256 rl = val B32 l % val B32 l') := by rw [← V1.out, ← V2.out, u2]; unfold Hid; omega
      have hqrow : Hid (Row .u8 256 wr (some ⟨gq, 0, none⟩) m1 m1 ql) := ⟨hq.len, Nat.le_refl _, by unfold maxLen; omega, fun e => (by cases e), hbv.qd, hq.rd⟩
      have HRR := hid hrr
      clear hI hbw hq hrr hbv hY1 hY2 hQ1 hQ2 hlt u1 u2
      have hbig : Hid (¬ Big (val B32 l)) := by
        have := val_lt HR.out.dg
        rw [HR.out.len] at this
        have h3 : B32 ^ n ≤ B32 ^ 40 := Nat.pow_le_pow_right (by decide) hs
        unfold Hid Big; omega
      have enn : (!(neg == neg')) = (neg != neg') := rfl
      go_wp2_with fail

      refine (rwhole_any (neg != neg') _ m1 m1 ql _ hqrow.out (by omega)).mono ?_
      rintro e we ⟨x, en, rfl, hA, b7⟩
      rw [EQ.out] at hA
      have hA1 := hA.toI
      rcases hA1 with ⟨_, he, hx⟩ | ⟨hb, _, _⟩
      case inr => exact absurd hb (by rw [natAbs_sgn]; exact not_big_le (Nat.div_le_self _ _) hbig.out)
      subst he
      obtain ⟨sx, ax, nx, cx, lx, rfl, Rxx, gx, hxe⟩ := hx.open_
      have HXX := hid hx
      have HB7 := hid b7
      have Z1 := (HY1.out.on b7).alloc (.cells #[.bool sx, .slice ax nx cx] 40)
      have Z3 := hid ((HY3.out.on b7).alloc (.cells #[.bool sx, .slice ax nx cx] 40))
      have Z4 := hid ((HY4.out.on b7).alloc (.cells #[.bool sx, .slice ax nx cx] 40))
      obtain ⟨c0', c1'⟩ := Z1.c
      have hl1 : w.heap.size + 1 + 1 + 1 < we.heap.size := (HY4.out.on b7).lt
      clear hA hx Rxx gx hxe b7 c0 c1 d0 d1 Z1
      go_wp2_with fail
      clear c0' c1'
      have hA8 := Ba we (.cells #[.bool sx, .slice ax nx cx] 40)
      have hsb := Box.new 40 we sx ax nx cx
      obtain ⟨gs, hgs⟩ : ∃ gs, gs = we.heap.size := ⟨_, rfl⟩
      rw [← hgs] at hsb
      rw [← hgs]
      have hHX := HXX.out.below hA8
      have hb8 := Bt HB7.out hA8
      generalize we.alloc (.cells #[.bool sx, .slice ax nx cx] 40) = w8 at *
      refine (rwhole_any neg ar mr cr rl _ (HRR.out.below hb8) (by omega)).mono ?_
      rintro e wf ⟨y, en, rfl, hA, b9⟩
      rw [ER.out] at hA
      rcases hA.toI with ⟨_, he, hy⟩ | ⟨hb, _, _⟩
      case inr => exact absurd hb (by rw [natAbs_sgn]; exact not_big_le (Nat.mod_le _ _) hbig.out)
      subst he
      obtain ⟨sy, ay, ny, cy, ly, rfl, Ryy, gy, hye⟩ := hy.open_
      have hA9 := Ba wf (.cells #[.bool sy, .slice ay ny cy] 40)
      have htb := Box.new 40 wf sy ay ny cy
      have hl2 : w.heap.size + 1 + 1 + 1 < wf.heap.size := (Z4.out.on b9).lt
      rw [← hgs] at hl1
      have HS9 := hid ((hsb.on b9).on hA9)
      have HZ3 := hid ((Z3.out.on b9).on hA9)
      have HZ4 := hid ((Z4.out.on b9).on hA9)
      have HX9 := hid ((hHX.below b9).below hA9)
      have HY9 := hid (hy.below hA9)
      have HB9 := hid (Bt (Bt (Bt (Bt HBb.out HBW.out) hb8) b9) hA9)
      obtain ⟨s0, s1⟩ := HS9.out.c
      obtain ⟨f0, f1⟩ := HZ3.out.f
      obtain ⟨f2, f3⟩ := HZ4.out.f
      obtain ⟨z0, z1⟩ := HZ3.out.c
      obtain ⟨z2, z3⟩ := HZ4.out.c
      obtain ⟨t0, t1⟩ := htb.c
      clear hA hy Ryy gy hye b9 hA9 hsb hHX hb8 hA8 htb hgs
      go_wp2
      go_region
      have q1 := (HZ3.out.set2 sx ax nx cx).far2 (q := w.heap.size + 1 + 1 + 1) (by omega) (.bool sy) (.slice ay ny cy)
      have q2 := (HZ4.out.far2 (q := w.heap.size + 1 + 1) (by omega) (.bool sx) (.slice ax nx cx)).set2 sy ay ny cy
      have q3 := (HZ4.out.far2 (q := w.heap.size + 1 + 1) (by omega) (.bool sx) (.slice ax nx cx))
      obtain ⟨y0, y1⟩ := q1.c
      obtain ⟨y2, y3⟩ := q2.c
      have r1 := (HX9.out.setBox2 HZ3.out sx (.slice ax nx cx)).setBox2 q3 sy (.slice ay ny cy)
      have r2 := (HY9.out.setBox2 HZ3.out sx (.slice ax nx cx)).setBox2 q3 sy (.slice ay ny cy)
      have bF := Bt' ((((HB9.out.setCell (p := ⟨w.heap.size + 1 + 1, 0, none⟩) (by simp; omega) (.bool sx)).setCell (p := ⟨w.heap.size + 1 + 1, 1, none⟩) (by simp; omega) (.slice ax nx cx)).setCell (p := ⟨w.heap.size + 1 + 1 + 1, 0, none⟩) (by simp; omega) (.bool sy)).setCell (p := ⟨w.heap.size + 1 + 1 + 1, 1, none⟩) (by simp; omega) (.slice ay ny cy))
      have r1' := r1.below (Bd _ 1)
      have r2' := r2.below (Bd _ 1)
      rw [sgn_div] at r1'
      rw [sgn_mod neg neg'] at r2'
      have R1 := hid r1'
      have R2 := hid r2'
      have BF := hid bF
      clear q1 q2 q3 r1 r2 bF r1' r2' s0 s1 f0 f1 f2 f3 z0 z1 z2 z3 t0 t1
      go_wp2
      exact bodyPost_ret (v := .tuple #[.agg #[.bool sx, .slice ax nx cx], .agg #[.bool sy, .slice ay ny cy], .int .i64 0]) (by simp [results, Tryz.results76, go_sem, y0, y1, y2, y3]) rfl ⟨_, _, rfl, R1.out, R2.out, BF.out⟩
    · obtain ⟨p, rfl⟩ : ∃ p, m = p + 1 := ⟨m - 1, by omega⟩
      have hkm : p / 8 < m1 := by omega
      obtain ⟨hbw, ⟨cq, hq⟩, hrr, hbv⟩ := hI.out
      have HRR := hid hrr
      have HQ := hid hq
      have HBW := hid hbw
      have HBV := hid hbv
      clear hI hbw hq hrr hbv
      go_wp2_with fail
      refine (rplus_any ar ar mr cr mr cr rl rl _ HRR.out HRR.out (by omega) (by omega)).mono ?_
      rintro e w2 ⟨m3, a3, c3, L3, rfl, hm3, hO3, hv3, b3⟩
      have HO3 := hid hO3
      have HV3 := hid hv3
      have HB3 := hid b3
      have hg2 := b3.size
      clear hO3 hv3 b3
      -- the bit
      obtain ⟨x, hx⟩ : ∃ x, x = l1.getD (p / 8) 0 := ⟨_, rfl⟩
      obtain ⟨ax, ox, rfl, hlx, hcx⟩ := Rx.out.rd.some (by rw [Rx.out.len]; omega)
      have hxb : x < 256 := by rw [hx]; exact Rx.out.dg.getD _ (by rw [Rx.out.len]; omega)
      have hcx2 : w2.cell? ⟨ax, ox + p / 8, none⟩ = some (.int .u8 x) := by
        rw [(HBW.out.trans (HB3.out.mono HBW.out.size)).cell (p := ⟨ax, ox + p / 8, none⟩) hlx, hcx (p / 8) (by rw [Rx.out.len]; exact hkm), hx]
      clear hcx
      obtain ⟨bit, hbit⟩ : ∃ bit, bit = x / 2 ^ (p % 8) % 2 := ⟨_, rfl⟩
      have eand : bits .and .u8 ((x : Int) / 2 ^ (p % 8)) 1 = (bit : Int) := by rw [hbit, show ((x : Int) / 2 ^ (p % 8)) = ((x / 2 ^ (p % 8) : Nat) : Int) by simp]; exact and_one x (p % 8) hxb (by omega)
      have HBIT := hid hbit
      have HX := hid hx
      have hbw2 := HBW.out.trans (HB3.out.mono HBW.out.size)
      have hq2 := HQ.out.onto
      have HQ2 : Hid (Win .u8 5 w2 gq 0 m1 cq ql) := ⟨(HB3.out.block gq hgw).trans HQ.out.blk, HQ.out.fits, HQ.out.len, HQ.out.at_⟩
      have HB2 := hid hbw2
      have hbit2 : bit = 0 ∨ bit = 1 := by omega
      have HBX : Hid (bit = val 256 l1 / 2 ^ p % 2) := by
        have := bit_of Rx.out.dg (p / 8) (p % 8) (by rw [Rx.out.len]; exact hkm) (by omega)
        rw [show 8 * (p / 8) + p % 8 = p by omega, ← hx, ← hbit] at this
        exact this.symm
      clear hbit hx hbw2 hq2
      rcases hbit2 with rfl | rfl
      · have HO4 := hid HO3.out.row
        have HV4 : Hid (val 256 L3 = val 256 rl + val 256 rl + 0) := HV3.out
        have HB4 := HB2
        have HQ4 := HQ2
        have hm4 : m3 ≤ 165 := by omega
        have hg4 : gq < w2.heap.size := by omega
        go_wp2_with fail
        refine (rtrim_any a3 m3 c3 L3 _ HO4.out (by omega)).mono ?_
        rintro e w5 ⟨m5, a5, c5, hm5, rfl, hO5, ht5, hv5, b5⟩
        have HR5 := hid hO5.row
        have HT5 := hid ht5
        have HV5 := hid (hv5.trans HV4.out)
        have HB5 := hid (HB4.out.trans (b5.mono HB4.out.size))
        have HQ5 : Hid (Win .u8 5 w5 gq 0 m1 cq ql) := ⟨(b5.block gq hg4).trans HQ4.out.blk, HQ4.out.fits, HQ4.out.len, HQ4.out.at_⟩
        have hg5 : gq < w5.heap.size := by have := b5.size; omega
        clear hO5 ht5 hv5 b5 hcx2 HQ4 HB4
        generalize L3.take m5 = L5 at *
        obtain ⟨C, hC⟩ : ∃ C, C = cmpN (val 256 L5) (val 256 l2) := ⟨_, rfl⟩
        have HCC : Hid (Calls Tryz.prog 44 #[.slice a5 m5 c5, .slice ao2 m2 cap2] w5 fun e w' => e = .returned (.int .i64 C) ∧ ∃ k, w' = w5.drewN k) := by
          rw [hC]; exact rsize_any a5 ao2 m5 c5 m2 cap2 L5 l2 w5 HR5.out (Ry.out.below HB5.out) HT5.out T2.out
        have HC := hid hC
        clear hC
        go_wp2_with fail
        refine HCC.out.mono ?_
        rintro e w6 ⟨rfl, k6, hw6⟩
        have b6 : Below w5.heap.size w5 w6 := by rw [hw6]; exact Bd w5 k6
        have HR6 := hid (HR5.out.below b6)
        have HB6 := hid (HB5.out.trans (b6.mono HB5.out.size))
        have HQ6 : Hid (Win .u8 5 w6 gq 0 m1 cq ql) := ⟨(b6.block gq hg5).trans HQ5.out.blk, HQ5.out.fits, HQ5.out.len, HQ5.out.at_⟩
        have hg6 : gq < w6.heap.size := by have := b6.size; omega
        clear b6 hw6 HCC HR5 HB5 HQ5
        obtain ⟨Q, hQ1, hQ2⟩ := HBV.out.eq
        by_cases hlt : val 256 L5 < val 256 l2
        · have e2 : decide ((0 : Int) ≤ C) = false := by rw [HC.out]; simp [cmpN, hlt]
          have hml : m5 ≤ m2 := by
            rw [← HR6.out.len, ← Ry.out.len]
            exact len_le8 Ry.out.dg HR6.out.dg HT5.out (Nat.le_of_lt hlt)
          have hd := div_less hQ2 HBX.out (by rw [← HV5.out]; exact hlt)
          rw [← HV5.out] at hd
          have HNW : Hid (Bv (val 256 l1) (val 256 l2) p ql L5) := ⟨HT5.out, HBV.out.qd, hlt, 2 * Q, by rw [hQ1, Nat.pow_succ, dbl], hd⟩
          clear hlt hQ1 hQ2 hd
          go_wp2
          exact ⟨⟨p, m5, c5, a5, L5, ql, by omega, by congr 1, rfl, hml, hg6, HB6.out, ⟨cq, HQ6.out⟩, HR6.out, HNW.out⟩, by simp [intOf] <;> omega⟩
        · have e2 : decide ((0 : Int) ≤ C) = true := by
            rw [HC.out]; simp [cmpN, hlt]; split <;> omega
          have hml : m2 ≤ m5 := by
            rw [← HR6.out.len, ← Ry.out.len]
            exact len_le8 HR6.out.dg Ry.out.dg T2.out (by omega)
          have hd := div_more hQ2 HBX.out (by rw [← HV5.out]; omega)
          rw [← HV5.out] at hd
          go_wp2_with fail
          refine (rminus_any a5 ao2 m5 c5 m2 cap2 L5 l2 _ HR6.out (Ry.out.below HB6.out) (by omega) hml (by omega)).mono ?_
          rintro e w7 ⟨m8, a8, c8, L8, rfl, hm8, hO8, ht8, hv8, b8⟩
          have hqd : ql.getD (p / 8) 0 < 256 := HBV.out.qd.getD _ (by rw [HQ6.out.len]; exact hkm)
          obtain ⟨y, hy⟩ : ∃ y, y = ql.getD (p / 8) 0 := ⟨_, rfl⟩
          rw [← hy] at hqd
          have hy0 : y % 2 ^ (p % 8 + 1) = 0 := by
            rw [hy]
            refine low_zero HBV.out.qd (p / 8) (p % 8 + 1) (by rw [HQ6.out.len]; exact hkm) (by omega) ?_
            rw [show 8 * (p / 8) + (p % 8 + 1) = p + 1 by omega, hQ1, Nat.mul_mod_left]
          obtain ⟨eor, hyb⟩ := or_bit y (p % 8) hqd (by omega) hy0
          have hq7 := HQ6.out.frame' (b8.block gq hg6)
          have hc7 : w7.cell? ⟨gq, p / 8, none⟩ = some (.int .u8 y) := by
            have := hq7.cell (i := p / 8) hkm
            rw [Nat.zero_add, ← hy] at this; exact this
          have hf7 : w7.frozen? ⟨gq, p / 8, none⟩ = false := hq7.frozen _
          obtain ⟨E, hE⟩ : ∃ E : Nat, E = 2 ^ (p % 8) := ⟨_, rfl⟩
          have eshl : (2 : Int) ^ (p % 8) % 256 = (E : Int) := by
            have h1 : 2 ^ (p % 8) ≤ 2 ^ 7 := Nat.pow_le_pow_right (by decide) (by omega)
            rw [show ((2 : Int) ^ (p % 8)) = ((2 ^ (p % 8) : Nat) : Int) by simp, ← hE]; omega
          rw [← hE] at eor hyb
          have HNW : Hid (Bv (val 256 l1) (val 256 l2) p (ql.set (p / 8) (y + E)) L8) := by
            refine ⟨ht8, HBV.out.qd.set hyb, ?_, 2 * Q + 1, ?_, by rw [hv8]; exact hd⟩
            · have := HBV.out.lt
              have h1 := HV5.out
              have h2 : 0 ≤ 1 := by omega
              rw [hv8]; omega
            · have h1 := val_set (B := 256) (L := ql) (p := p / 8) (x := y + E) (by rw [HQ6.out.len]; exact hkm)
              rw [← hy, hQ1] at h1
              have h2 : 256 ^ (p / 8) * E = 2 ^ p := by rw [hE, ← pow_256, show 8 * (p / 8) + p % 8 = p by omega]
              rw [Nat.mul_add, h2, Nat.pow_succ, dbl] at h1
              rw [Nat.add_mul, Nat.one_mul]; omega
          have HQ7 := hid hq7
          have HO8 := hid hO8
          have HB7 := hid (HB6.out.trans (b8.mono HB6.out.size))
          have hs7 := b8.size
          have hm9 : m8 ≤ m2 := by
            rw [← hO8.row.len, ← Ry.out.len]
            exact len_le8 Ry.out.dg hO8.row.dg ht8 (Nat.le_of_lt HNW.out.lt)
          have HYE := hid hyb
          clear hy hy0 hQ1 hQ2 hd hv8 ht8 hO8 b8 hq7 hE
          go_wp2
          go_region
          go_wp2
          have hst := (HQ7.out.onto.store (i := p / 8) hkm (y + E)).win
          rw [Nat.zero_add] at hst
          obtain ⟨cq9, hst⟩ := hst
          refine ⟨⟨p, m8, c8, a8, L8, ql.set (p / 8) (y + E), by omega, by congr 1, rfl, hm9, ?_, ?_, ⟨cq9, hst.frame' rfl⟩, ?_, HNW.out⟩, by simp [intOf] <;> omega⟩
          · have : gq < w7.heap.size := by omega
            simpa [World.setCell, World.drew] using this
          · exact Bt' (HB7.out.setCell (p := ⟨gq, p / 8, none⟩) (by rw [HG.out]; exact Nat.le_refl _) _)
          · exact (HO8.out.far (p := ⟨gq, p / 8, none⟩) hg6 _).below (Bd _ 1)
      · go_wp2_with fail
        have hA1 := Ba w2 (.cells #[.int .u8 1] 5)
        have hone : Row .u8 256 (w2.alloc (.cells #[.int .u8 1] 5)) (some ⟨w2.heap.size, 0, none⟩) 1 1 [1] := by
          refine ⟨rfl, Nat.le_refl _, by unfold maxLen; omega, fun e => (by cases e), Dg.one (by decide), .inr ⟨_, _, rfl, by rw [size_alloc]; omega, fun i hi => ?_⟩⟩
          rw [cell_at _ _ _ _ _ rfl]
          have : i = 0 := by simp at hi; exact hi
          subst this; rfl
        have hr1 := HO3.out.row.below hA1
        generalize hg1 : w2.heap.size = g1 at hone
        have hsz1 := size_alloc w2 (.cells #[.int .u8 1] 5)
        generalize w2.alloc (.cells #[.int .u8 1] 5) = w3 at *
        refine (rplus_any a3 _ m3 c3 1 1 L3 [1] _ hr1 hone (by omega) (by omega)).mono ?_
        rintro e w4 ⟨m4, a4, c4, L4, rfl, hm4', hO4, hv4, b4⟩
        have HO4 := hid hO4.row
        have HV4 : Hid (val 256 L4 = val 256 rl + val 256 rl + 1) := by rw [hv4, HV3.out]; rfl
        have hb24 := Bt hA1 b4
        have HB4 := hid (HB2.out.trans (hb24.mono HB2.out.size))
        have hg4 : gq < w4.heap.size := by have := hb24.size; omega
        have HQ4 : Hid (Win .u8 5 w4 gq 0 m1 cq ql) := ⟨(hb24.block gq (by omega)).trans HQ2.out.blk, HQ2.out.fits, HQ2.out.len, HQ2.out.at_⟩
        have hm4 : m4 ≤ 166 := by omega
        clear hO4 hv4 b4 hb24 hone hr1 hsz1 hA1 hm4'
        go_wp2_with fail
        refine (rtrim_any a4 m4 c4 L4 _ HO4.out (by omega)).mono ?_
        rintro e w5 ⟨m5, a5, c5, hm5, rfl, hO5, ht5, hv5, b5⟩
        have HR5 := hid hO5.row
        have HT5 := hid ht5
        have HV5 := hid (hv5.trans HV4.out)
        have HB5 := hid (HB4.out.trans (b5.mono HB4.out.size))
        have HQ5 : Hid (Win .u8 5 w5 gq 0 m1 cq ql) := ⟨(b5.block gq hg4).trans HQ4.out.blk, HQ4.out.fits, HQ4.out.len, HQ4.out.at_⟩
        have hg5 : gq < w5.heap.size := by have := b5.size; omega
        clear hO5 ht5 hv5 b5 hcx2 HQ4 HB4
        generalize L4.take m5 = L5 at *
        obtain ⟨C, hC⟩ : ∃ C, C = cmpN (val 256 L5) (val 256 l2) := ⟨_, rfl⟩
        have HCC : Hid (Calls Tryz.prog 44 #[.slice a5 m5 c5, .slice ao2 m2 cap2] w5 fun e w' => e = .returned (.int .i64 C) ∧ ∃ k, w' = w5.drewN k) := by
          rw [hC]; exact rsize_any a5 ao2 m5 c5 m2 cap2 L5 l2 w5 HR5.out (Ry.out.below HB5.out) HT5.out T2.out
        have HC := hid hC
        clear hC
        go_wp2_with fail
        refine HCC.out.mono ?_
        rintro e w6 ⟨rfl, k6, hw6⟩
        have b6 : Below w5.heap.size w5 w6 := by rw [hw6]; exact Bd w5 k6
        have HR6 := hid (HR5.out.below b6)
        have HB6 := hid (HB5.out.trans (b6.mono HB5.out.size))
        have HQ6 : Hid (Win .u8 5 w6 gq 0 m1 cq ql) := ⟨(b6.block gq hg5).trans HQ5.out.blk, HQ5.out.fits, HQ5.out.len, HQ5.out.at_⟩
        have hg6 : gq < w6.heap.size := by have := b6.size; omega
        clear b6 hw6 HCC HR5 HB5 HQ5
        obtain ⟨Q, hQ1, hQ2⟩ := HBV.out.eq
        by_cases hlt : val 256 L5 < val 256 l2
        · have e2 : decide ((0 : Int) ≤ C) = false := by rw [HC.out]; simp [cmpN, hlt]
          have hml : m5 ≤ m2 := by
            rw [← HR6.out.len, ← Ry.out.len]
            exact len_le8 Ry.out.dg HR6.out.dg HT5.out (Nat.le_of_lt hlt)
          have hd := div_less hQ2 HBX.out (by rw [← HV5.out]; exact hlt)
          rw [← HV5.out] at hd
          have HNW : Hid (Bv (val 256 l1) (val 256 l2) p ql L5) := ⟨HT5.out, HBV.out.qd, hlt, 2 * Q, by rw [hQ1, Nat.pow_succ, dbl], hd⟩
          clear hlt hQ1 hQ2 hd
          go_wp2
          exact ⟨⟨p, m5, c5, a5, L5, ql, by omega, by congr 1, rfl, hml, hg6, HB6.out, ⟨cq, HQ6.out⟩, HR6.out, HNW.out⟩, by simp [intOf] <;> omega⟩
        · have e2 : decide ((0 : Int) ≤ C) = true := by
            rw [HC.out]; simp [cmpN, hlt]; split <;> omega
          have hml : m2 ≤ m5 := by
            rw [← HR6.out.len, ← Ry.out.len]
            exact len_le8 HR6.out.dg Ry.out.dg T2.out (by omega)
          have hd := div_more hQ2 HBX.out (by rw [← HV5.out]; omega)
          rw [← HV5.out] at hd
          go_wp2_with fail
          refine (rminus_any a5 ao2 m5 c5 m2 cap2 L5 l2 _ HR6.out (Ry.out.below HB6.out) (by omega) hml (by omega)).mono ?_
          rintro e w7 ⟨m8, a8, c8, L8, rfl, hm8, hO8, ht8, hv8, b8⟩
          have hqd : ql.getD (p / 8) 0 < 256 := HBV.out.qd.getD _ (by rw [HQ6.out.len]; exact hkm)
          obtain ⟨y, hy⟩ : ∃ y, y = ql.getD (p / 8) 0 := ⟨_, rfl⟩
          rw [← hy] at hqd
          have hy0 : y % 2 ^ (p % 8 + 1) = 0 := by
            rw [hy]
            refine low_zero HBV.out.qd (p / 8) (p % 8 + 1) (by rw [HQ6.out.len]; exact hkm) (by omega) ?_
            rw [show 8 * (p / 8) + (p % 8 + 1) = p + 1 by omega, hQ1, Nat.mul_mod_left]
          obtain ⟨eor, hyb⟩ := or_bit y (p % 8) hqd (by omega) hy0
          have hq7 := HQ6.out.frame' (b8.block gq hg6)
          have hc7 : w7.cell? ⟨gq, p / 8, none⟩ = some (.int .u8 y) := by
            have := hq7.cell (i := p / 8) hkm
            rw [Nat.zero_add, ← hy] at this; exact this
          have hf7 : w7.frozen? ⟨gq, p / 8, none⟩ = false := hq7.frozen _
          obtain ⟨E, hE⟩ : ∃ E : Nat, E = 2 ^ (p % 8) := ⟨_, rfl⟩
          have eshl : (2 : Int) ^ (p % 8) % 256 = (E : Int) := by
            have h1 : 2 ^ (p % 8) ≤ 2 ^ 7 := Nat.pow_le_pow_right (by decide) (by omega)
            rw [show ((2 : Int) ^ (p % 8)) = ((2 ^ (p % 8) : Nat) : Int) by simp, ← hE]; omega
          rw [← hE] at eor hyb
          have HNW : Hid (Bv (val 256 l1) (val 256 l2) p (ql.set (p / 8) (y + E)) L8) := by
            refine ⟨ht8, HBV.out.qd.set hyb, ?_, 2 * Q + 1, ?_, by rw [hv8]; exact hd⟩
            · have := HBV.out.lt
              have h1 := HV5.out
              have h2 : 1 ≤ 1 := by omega
              rw [hv8]; omega
            · have h1 := val_set (B := 256) (L := ql) (p := p / 8) (x := y + E) (by rw [HQ6.out.len]; exact hkm)
              rw [← hy, hQ1] at h1
              have h2 : 256 ^ (p / 8) * E = 2 ^ p := by rw [hE, ← pow_256, show 8 * (p / 8) + p % 8 = p by omega]
              rw [Nat.mul_add, h2, Nat.pow_succ, dbl] at h1
              rw [Nat.add_mul, Nat.one_mul]; omega
          have HQ7 := hid hq7
          have HO8 := hid hO8
          have HB7 := hid (HB6.out.trans (b8.mono HB6.out.size))
          have hs7 := b8.size
          have hm9 : m8 ≤ m2 := by
            rw [← hO8.row.len, ← Ry.out.len]
            exact len_le8 Ry.out.dg hO8.row.dg ht8 (Nat.le_of_lt HNW.out.lt)
          have HYE := hid hyb
          clear hy hy0 hQ1 hQ2 hd hv8 ht8 hO8 b8 hq7 hE
          go_wp2
          go_region
          go_wp2
          have hst := (HQ7.out.onto.store (i := p / 8) hkm (y + E)).win
          rw [Nat.zero_add] at hst
          obtain ⟨cq9, hst⟩ := hst
          refine ⟨⟨p, m8, c8, a8, L8, ql.set (p / 8) (y + E), by omega, by congr 1, rfl, hm9, ?_, ?_, ⟨cq9, hst.frame' rfl⟩, ?_, HNW.out⟩, by simp [intOf] <;> omega⟩
          · have : gq < w7.heap.size := by omega
            simpa [World.setCell, World.drew] using this
          · exact Bt' (HB7.out.setCell (p := ⟨gq, p / 8, none⟩) (by rw [HG.out]; exact Nat.le_refl _) _)
          · exact (HO8.out.far (p := ⟨gq, p / 8, none⟩) hg6 _).below (Bd _ 1)

end Go.Proofs.YtdekkieajffblaaGreat
