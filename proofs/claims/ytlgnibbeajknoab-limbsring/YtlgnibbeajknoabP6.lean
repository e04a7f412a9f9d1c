/-
  Walk of LimbsRing: whatever three integers are handed in, the statement answers true.
-/
import Derived.Test.YtlgnibbeajknoabW38
import Derived.Test.YtlgnibbeajknoabW16
set_option linter.unusedVariables false
set_option linter.unusedSimpArgs false
namespace Go.Proofs.Ytlgnibbeajknoab
open Go.RowKit

set_option maxHeartbeats 400000 in
theorem limbsOf_any (s : Bool) (ao : Option Addr) (n cap : Nat) (en : Int) (w : World) :
    Calls Try.prog 15 #[.agg #[.bool s, .slice ao n cap], .int .i64 en] w fun e w' => e = .returned (.agg #[.bool s, .slice ao n cap]) ∧ Below w.heap.size w w' := by
  go_enter Try.func15, Try.ntmps15
  go_wp2
  refine bodyPost_ret (v := .agg #[.bool s, .slice ao n cap]) (by simp [results, Try.results15, go_sem]) rfl ⟨rfl, ?_⟩
  exact by first | exact Baa _ _ _ | exact Ba _ _ | exact (Below.refl _ _) | (refine ((Baa _ _ _).setCell ?_ _).setCell ?_ _ <;> simp)

/-- The cells of the three that are handed in, in a world behind w1. -/
def Held3 (w1 : World) (p q r : Nat) (a0 a1 b0 b1 c0 c1 : Value) (wx : World) : Prop := (wx.cell? ⟨p, 0, none⟩ = some a0 ∧ wx.cell? ⟨p, 1, none⟩ = some a1 ∧ wx.cell? ⟨q, 0, none⟩ = some b0 ∧ wx.cell? ⟨q, 1, none⟩ = some b1) ∧ (wx.cell? ⟨r, 0, none⟩ = some c0 ∧ wx.cell? ⟨r, 1, none⟩ = some c1) ∧ Below w1.heap.size w1 wx
theorem Held3.on {w1 wx wy : World} {p q r : Nat} {a0 a1 b0 b1 c0 c1 : Value} (h : Held3 w1 p q r a0 a1 b0 b1 c0 c1 wx) (hb : Below wx.heap.size wx wy) : Held3 w1 p q r a0 a1 b0 b1 c0 c1 wy :=
  ⟨keep4 h.1 hb, ⟨(hb.cell (p := ⟨r, 0, none⟩) (cell_lt h.2.1.1)).trans h.2.1.1, (hb.cell (p := ⟨r, 1, none⟩) (cell_lt h.2.1.1)).trans h.2.1.2⟩, Bt h.2.2 hb⟩
theorem Held3.set2 {w1 wx : World} {p q r s : Nat} {a0 a1 b0 b1 c0 c1 u v : Value} (h : Held3 w1 p q r a0 a1 b0 b1 c0 c1 wx) (hs : w1.heap.size ≤ s) (hp : p < w1.heap.size) (hq : q < w1.heap.size) (hr : r < w1.heap.size) : Held3 w1 p q r a0 a1 b0 b1 c0 c1 ((wx.setCell ⟨s, 0, none⟩ u).setCell ⟨s, 1, none⟩ v) :=
  ⟨keep4s h.1 (by omega) (by omega), ⟨far2 h.2.1.1 (by omega), far2 h.2.1.2 (by omega)⟩, (h.2.2.setCell hs u).setCell hs v⟩

/-- A state of the region that multiplies three. -/
structure S10 (W : World) (m pz : Int) (k : Nat) (al : Bool) (t94 t95 t96 t97 t99 t91 t100 t101 t21 : Value) (wx : World) : Prop where
  bel : Below W.heap.size W wx
  i1 : k = 1 → ∃ s ao n cap, t95 = .agg #[.bool s, .slice ao n cap] ∧ t96 = .int .i64 0 ∧ IsInt wx t95 m
  i2 : k = 2 → IsInt wx t97 m
  i3 : k = 3 → ∃ s ao n cap, t100 = .agg #[.bool s, .slice ao n cap] ∧ t101 = .int .i64 0 ∧ IsInt wx t100 pz
  b : al = true → ∃ g, t21 = .pointer (some ⟨g, 0, none⟩) ∧ W.heap.size ≤ g ∧ Box 24 wx g false none 0 0
theorem S10.on {W wx wy : World} {m pz : Int} {k : Nat} {al : Bool} {t94 t95 t96 t97 t99 t91 t100 t101 t21 : Value} (h : S10 W m pz k al t94 t95 t96 t97 t99 t91 t100 t101 t21 wx) (hb : Below wx.heap.size wx wy) : S10 W m pz k al t94 t95 t96 t97 t99 t91 t100 t101 t21 wy :=
  ⟨Bt h.bel hb, fun e => by obtain ⟨s, ao, n, cap, h1, h2, h3⟩ := h.i1 e; exact ⟨s, ao, n, cap, h1, h2, h3.below hb⟩, fun e => (h.i2 e).below hb, fun e => by obtain ⟨s, ao, n, cap, h1, h2, h3⟩ := h.i3 e; exact ⟨s, ao, n, cap, h1, h2, h3.below hb⟩, fun e => by obtain ⟨g, h1, h2, h3⟩ := h.b e; exact ⟨g, h1, h2, h3.on hb⟩⟩
theorem S10.al {W wx : World} {m pz : Int} {k : Nat} {t94 t95 t96 t97 t99 t91 t100 t101 t21 : Value} (h : S10 W m pz k false t94 t95 t96 t97 t99 t91 t100 t101 t21 wx) : S10 W m pz k true t94 t95 t96 t97 t99 t91 t100 t101 (.pointer (some ⟨wx.heap.size, 0, none⟩)) (wx.alloc (.cells #[.bool false, .slice none 0 0] 24)) :=
  let h' := h.on (Ba wx (.cells #[.bool false, .slice none 0 0] 24))
  ⟨h'.bel, h'.i1, h'.i2, h'.i3, fun _ => ⟨_, rfl, h.bel.size, Box.new _ _ _ _ _ _⟩⟩
def L10 (s : Nat × Bool) : Array Bool := #[true, true, Nat.ble 1 s.1, Nat.ble 1 s.1, Nat.ble 1 s.1, Nat.ble 2 s.1, true, Nat.ble 3 s.1, Nat.ble 3 s.1, Nat.ble 3 s.1, Nat.ble 3 s.1, s.2, false, false]
def M10 (s : Nat × Bool) : Nat := (3 - s.1) + (if s.2 then 0 else 1)
def F10 (s : Nat × Bool) : Nat := (match s.1 with | 0 => 10 | 1 => 7 | 2 => 6 | _ => 2) + (if s.2 then 0 else 1)

set_option maxRecDepth 100000 in
set_option maxHeartbeats 16000000 in
theorem limbsRing_walk (neg1 : Bool) (ao1 : Option Addr) (n1 cap1 : Nat) (l1 : List Nat) (neg2 : Bool) (ao2 : Option Addr) (n2 cap2 : Nat) (l2 : List Nat) (neg3 : Bool) (ao3 : Option Addr) (n3 cap3 : Nat) (l3 : List Nat) (w : World) (R1 : Row .u32 B32 w ao1 n1 cap1 l1) (R2 : Row .u32 B32 w ao2 n2 cap2 l2) (R3 : Row .u32 B32 w ao3 n3 cap3 l3) :
    Calls Try.prog 4 #[.agg #[.bool neg1, .slice ao1 n1 cap1], .agg #[.bool neg2, .slice ao2 n2 cap2], .agg #[.bool neg3, .slice ao3 n3 cap3]] w fun e w' => e = .returned (.bool true) ∧ Below w.heap.size w w' := by
  have HR1 := hid R1
  have HR2 := hid R2
  have HR3 := hid R3
  clear R1 R2 R3
  go_enter Try.func4, Try.ntmps4
  go_wp2_with fail
  obtain ⟨x1, x2, x3, bA⟩ := three_boxes 24 w neg1 neg2 neg3 ao1 ao2 ao3 n1 cap1 n2 cap2 n3 cap3 _ rfl
  have hsz : (((w.alloc (.cells #[.bool neg1, .slice ao1 n1 cap1] 24)).alloc (.cells #[.bool neg2, .slice ao2 n2 cap2] 24)).alloc (.cells #[.bool neg3, .slice ao3 n3 cap3] 24)).heap.size = w.heap.size + 1 + 1 + 1 := by rw [size_alloc, size_alloc, size_alloc]
  generalize ((w.alloc (.cells #[.bool neg1, .slice ao1 n1 cap1] 24)).alloc (.cells #[.bool neg2, .slice ao2 n2 cap2] 24)).alloc (.cells #[.bool neg3, .slice ao3 n3 cap3] 24) = WA at *
  have bQ := Ba WA (.cells #[.bool neg1, .slice ao1 n1 cap1, .bool neg2, .slice ao2 n2 cap2, .bool neg3, .slice ao3 n3 cap3] 24)
  have hq := blk_new WA #[.bool neg1, .slice ao1 n1 cap1, .bool neg2, .slice ao2 n2 cap2, .bool neg3, .slice ao3 n3 cap3] 24
  rw [hsz] at hq
  have b0 := Bt bA bQ
  have y1 := x1.on bQ
  have y2 := x2.on bQ
  have y3 := x3.on bQ
  generalize WA.alloc (.cells #[.bool neg1, .slice ao1 n1 cap1, .bool neg2, .slice ao2 n2 cap2, .bool neg3, .slice ao3 n3 cap3] 24) = W at *
  refine (lgood3 (w.heap.size + 1 + 1 + 1) neg1 neg2 neg3 ao1 ao2 ao3 n1 cap1 n2 cap2 n3 cap3 l1 l2 l3 W (blk_cell hq 0) (blk_cell hq 1) (blk_cell hq 2) (blk_cell hq 3) (blk_cell hq 4) (blk_cell hq 5) (HR1.out.below b0) (HR2.out.below b0) (HR3.out.below b0)).mono ?_
  rintro e w1 ⟨rfl, b1⟩
  have HB := hid (Bt b0 b1)
  have Xa := hid (y1.on b1)
  have Xb := hid (y2.on b1)
  have Xc := hid (y3.on b1)
  have Ra := hid (HR1.out.below HB.out)
  have Rb := hid (HR2.out.below HB.out)
  have Rc := hid (HR3.out.below HB.out)
  clear x1 x2 x3 y1 y2 y3 hq b0 b1 bQ bA hsz HR1 HR2 HR3
  cases hg : goodB neg1 l1 && goodB neg2 l2 && goodB neg3 l3
  · go_wp2_with (go_at_call 9; refine (awake_any _).mono ?_; rintro e w2 ⟨rfl, b2⟩)
    go_ret
    exact ⟨rfl, Bt HB.out b2⟩
  · rw [Bool.and_eq_true, Bool.and_eq_true] at hg
    have hn1 : n1 ≤ 40 := by rw [← Ra.out.len]; exact goodB_len hg.1.1
    have hn2 : n2 ≤ 40 := by rw [← Rb.out.len]; exact goodB_len hg.1.2
    have hn3 : n3 ≤ 40 := by rw [← Rc.out.len]; exact goodB_len hg.2
    have IA0 : IsInt w1 (.agg #[.bool neg1, .slice ao1 n1 cap1]) (sgn neg1 (val B32 l1)) := ⟨neg1, l1, ⟨ao1, n1, cap1, rfl, Ra.out⟩, hg.1.1, rfl⟩
    have IB0 : IsInt w1 (.agg #[.bool neg2, .slice ao2 n2 cap2]) (sgn neg2 (val B32 l2)) := ⟨neg2, l2, ⟨ao2, n2, cap2, rfl, Rb.out⟩, hg.1.2, rfl⟩
    have IC0 : IsInt w1 (.agg #[.bool neg3, .slice ao3 n3 cap3]) (sgn neg3 (val B32 l3)) := ⟨neg3, l3, ⟨ao3, n3, cap3, rfl, Rc.out⟩, hg.2, rfl⟩
    have hA1 : (sgn neg1 (val B32 l1)).natAbs < B32 ^ n1 := by rw [natAbs_sgn, ← Ra.out.len]; exact val_lt Ra.out.dg
    have hA2 : (sgn neg2 (val B32 l2)).natAbs < B32 ^ n2 := by rw [natAbs_sgn, ← Rb.out.len]; exact val_lt Rb.out.dg
    have hA3 : (sgn neg3 (val B32 l3)).natAbs < B32 ^ n3 := by rw [natAbs_sgn, ← Rc.out.len]; exact val_lt Rc.out.dg
    generalize sgn neg1 (val B32 l1) = A at *
    generalize sgn neg2 (val B32 l2) = B at *
    generalize sgn neg3 (val B32 l3) = C at *
    have Ia := hid IA0
    have Ib := hid IB0
    have Ic := hid IC0
    have HL : Hid (n1 + n2 + n3 ≤ 38 → Small3 A B C) := fun h => small3 hA1 hA2 hA3 h
    obtain ⟨c10, c11⟩ := Xa.out.c
    obtain ⟨c20, c21⟩ := Xb.out.c
    obtain ⟨c30, c31⟩ := Xc.out.c
    clear hg IA0 IB0 IC0 hA1 hA2 hA3 Ra Rb Rc
    by_cases hlen : ¬ n1 + n2 + n3 ≤ 38
    · have e38 : decide ((38 : Int) < (n1 : Int) + n2 + n3) = true := by simp; omega
      go_wp2_with (go_at_call 9; refine (awake_any _).mono ?_; rintro e w2 ⟨rfl, b2⟩)
      go_ret
      exact ⟨rfl, Bt HB.out b2⟩
    have HM := hid (HL.out (Decidable.of_not_not hlen))
    have hlen2 : n1 + n2 + n3 ≤ 38 := Decidable.of_not_not hlen
    have e38 : decide ((38 : Int) < (n1 : Int) + n2 + n3) = false := by simp; omega
    clear HL
    go_wp2_with fail
    clear c10 c11 c20 c21 c30 c31 e38
    have u0 := True.intro
    have u1 := True.intro
    have u2 := True.intro
    have u3 := True.intro
    refine (add_ok _ _ _ _ _ Ia.out Ib.out HM.out.ab).mono ?_
    rintro e w2 ⟨sab, aab, nab, cab, rfl, iv, b2⟩
    have b3 := Bt b2 (Ba w2 (.cells #[.bool sab, .slice aab nab cab] 24))
    have Xa_2 := hid (Xa.out.on b3)
    have Xb_2 := hid (Xb.out.on b3)
    have Xc_2 := hid (Xc.out.on b3)
    have Ia_2 := hid (Ia.out.below b3)
    have Ib_2 := hid (Ib.out.below b3)
    have Ic_2 := hid (Ic.out.below b3)
    have HB_2 := hid (Bt HB.out b3)
    have Iab_2 := hid (iv.below (Ba w2 (.cells #[.bool sab, .slice aab nab cab] 24)))
    have Xab_2 := hid (Box.new 24 w2 sab aab nab cab)
    clear u0 u1 u2 u3 b2 b3 iv Xa Xb Xc Ia Ib Ic HB
    obtain ⟨u0, u1⟩ := Xb_2.out.c
    obtain ⟨u2, u3⟩ := Xa_2.out.c
    go_wp2_with fail
    obtain ⟨gab, hgab⟩ : ∃ g, g = w2.heap.size := ⟨_, rfl⟩
    rw [← hgab] at Xab_2
    rw [← hgab]
    generalize w2.alloc (.cells #[.bool sab, .slice aab nab cab] 24) = W2 at *
    clear hgab
    refine (add_ok _ _ _ _ _ Ib_2.out Ia_2.out HM.out.ba).mono ?_
    rintro e w3 ⟨sba, aba, nba, cba, rfl, iv, b2⟩
    have b3 := Bt b2 (Ba w3 (.cells #[.bool sba, .slice aba nba cba] 24))
    have Xa_3 := hid (Xa_2.out.on b3)
    have Xb_3 := hid (Xb_2.out.on b3)
    have Xc_3 := hid (Xc_2.out.on b3)
    have Xab_3 := hid (Xab_2.out.on b3)
    have Ia_3 := hid (Ia_2.out.below b3)
    have Ib_3 := hid (Ib_2.out.below b3)
    have Ic_3 := hid (Ic_2.out.below b3)
    have Iab_3 := hid (Iab_2.out.below b3)
    have HB_3 := hid (Bt HB_2.out b3)
    have Iba_3 := hid (iv.below (Ba w3 (.cells #[.bool sba, .slice aba nba cba] 24)))
    have Xba_3 := hid (Box.new 24 w3 sba aba nba cba)
    clear u0 u1 u2 u3 b2 b3 iv Xa_2 Xb_2 Xc_2 Xab_2 Ia_2 Ib_2 Ic_2 Iab_2 HB_2
    obtain ⟨u0, u1⟩ := Xab_3.out.c
    obtain ⟨u2, u3⟩ := Xc_3.out.c
    go_wp2_with fail
    obtain ⟨gba, hgba⟩ : ∃ g, g = w3.heap.size := ⟨_, rfl⟩
    rw [← hgba] at Xba_3
    rw [← hgba]
    generalize w3.alloc (.cells #[.bool sba, .slice aba nba cba] 24) = W3 at *
    clear hgba
    refine (mul_ok _ _ _ _ _ Iab_3.out Ic_3.out HM.out.abc).mono ?_
    rintro e w4 ⟨sx, ax, nx, cx, rfl, iv, b2⟩
    have b3 := Bt b2 (Ba w4 (.cells #[.bool sx, .slice ax nx cx] 24))
    have Xa_4 := hid (Xa_3.out.on b3)
    have Xb_4 := hid (Xb_3.out.on b3)
    have Xc_4 := hid (Xc_3.out.on b3)
    have Xab_4 := hid (Xab_3.out.on b3)
    have Xba_4 := hid (Xba_3.out.on b3)
    have Ia_4 := hid (Ia_3.out.below b3)
    have Ib_4 := hid (Ib_3.out.below b3)
    have Ic_4 := hid (Ic_3.out.below b3)
    have Iab_4 := hid (Iab_3.out.below b3)
    have Iba_4 := hid (Iba_3.out.below b3)
    have HB_4 := hid (Bt HB_3.out b3)
    have Ix_4 := hid (iv.below (Ba w4 (.cells #[.bool sx, .slice ax nx cx] 24)))
    have Xx_4 := hid (Box.new 24 w4 sx ax nx cx)
    clear u0 u1 u2 u3 b2 b3 iv Xa_3 Xb_3 Xc_3 Xab_3 Xba_3 Ia_3 Ib_3 Ic_3 Iab_3 Iba_3 HB_3
    obtain ⟨u0, u1⟩ := Xa_4.out.c
    obtain ⟨u2, u3⟩ := Xc_4.out.c
    go_wp2_with fail
    obtain ⟨gx, hgx⟩ : ∃ g, g = w4.heap.size := ⟨_, rfl⟩
    rw [← hgx] at Xx_4
    rw [← hgx]
    generalize w4.alloc (.cells #[.bool sx, .slice ax nx cx] 24) = W4 at *
    clear hgx
    refine (mul_ok _ _ _ _ _ Ia_4.out Ic_4.out HM.out.ac).mono ?_
    rintro e w5 ⟨sy, ay, ny, cy, rfl, iv, b2⟩
    have b3 := Bt b2 (Ba w5 (.cells #[.bool sy, .slice ay ny cy] 24))
    have Xa_5 := hid (Xa_4.out.on b3)
    have Xb_5 := hid (Xb_4.out.on b3)
    have Xc_5 := hid (Xc_4.out.on b3)
    have Xab_5 := hid (Xab_4.out.on b3)
    have Xba_5 := hid (Xba_4.out.on b3)
    have Xx_5 := hid (Xx_4.out.on b3)
    have Ia_5 := hid (Ia_4.out.below b3)
    have Ib_5 := hid (Ib_4.out.below b3)
    have Ic_5 := hid (Ic_4.out.below b3)
    have Iab_5 := hid (Iab_4.out.below b3)
    have Iba_5 := hid (Iba_4.out.below b3)
    have Ix_5 := hid (Ix_4.out.below b3)
    have HB_5 := hid (Bt HB_4.out b3)
    have Iy_5 := hid (iv.below (Ba w5 (.cells #[.bool sy, .slice ay ny cy] 24)))
    have Xy_5 := hid (Box.new 24 w5 sy ay ny cy)
    clear u0 u1 u2 u3 b2 b3 iv Xa_4 Xb_4 Xc_4 Xab_4 Xba_4 Xx_4 Ia_4 Ib_4 Ic_4 Iab_4 Iba_4 Ix_4 HB_4
    obtain ⟨u0, u1⟩ := Xb_5.out.c
    obtain ⟨u2, u3⟩ := Xc_5.out.c
    go_wp2_with fail
    obtain ⟨gy, hgy⟩ : ∃ g, g = w5.heap.size := ⟨_, rfl⟩
    rw [← hgy] at Xy_5
    rw [← hgy]
    generalize w5.alloc (.cells #[.bool sy, .slice ay ny cy] 24) = W5 at *
    clear hgy
    refine (mul_ok _ _ _ _ _ Ib_5.out Ic_5.out HM.out.bc).mono ?_
    rintro e w6 ⟨sz, az, nz, cz, rfl, iv, b2⟩
    have b3 := Bt b2 (Ba w6 (.cells #[.bool sz, .slice az nz cz] 24))
    have Xa_6 := hid (Xa_5.out.on b3)
    have Xb_6 := hid (Xb_5.out.on b3)
    have Xc_6 := hid (Xc_5.out.on b3)
    have Xab_6 := hid (Xab_5.out.on b3)
    have Xba_6 := hid (Xba_5.out.on b3)
    have Xx_6 := hid (Xx_5.out.on b3)
    have Xy_6 := hid (Xy_5.out.on b3)
    have Ia_6 := hid (Ia_5.out.below b3)
    have Ib_6 := hid (Ib_5.out.below b3)
    have Ic_6 := hid (Ic_5.out.below b3)
    have Iab_6 := hid (Iab_5.out.below b3)
    have Iba_6 := hid (Iba_5.out.below b3)
    have Ix_6 := hid (Ix_5.out.below b3)
    have Iy_6 := hid (Iy_5.out.below b3)
    have HB_6 := hid (Bt HB_5.out b3)
    have Iz_6 := hid (iv.below (Ba w6 (.cells #[.bool sz, .slice az nz cz] 24)))
    have Xz_6 := hid (Box.new 24 w6 sz az nz cz)
    clear u0 u1 u2 u3 b2 b3 iv Xa_5 Xb_5 Xc_5 Xab_5 Xba_5 Xx_5 Xy_5 Ia_5 Ib_5 Ic_5 Iab_5 Iba_5 Ix_5 Iy_5 HB_5
    obtain ⟨u0, u1⟩ := Xy_6.out.c
    obtain ⟨u2, u3⟩ := Xz_6.out.c
    go_wp2_with fail
    obtain ⟨gz, hgz⟩ : ∃ g, g = w6.heap.size := ⟨_, rfl⟩
    rw [← hgz] at Xz_6
    rw [← hgz]
    generalize w6.alloc (.cells #[.bool sz, .slice az nz cz] 24) = W6 at *
    clear hgz
    refine (add_ok _ _ _ _ _ Iy_6.out Iz_6.out HM.out.s).mono ?_
    rintro e w7 ⟨ss_, as_, ns_, cs_, rfl, iv, b2⟩
    have b3 := Bt b2 (Ba w7 (.cells #[.bool ss_, .slice as_ ns_ cs_] 24))
    have Xa_7 := hid (Xa_6.out.on b3)
    have Xb_7 := hid (Xb_6.out.on b3)
    have Xc_7 := hid (Xc_6.out.on b3)
    have Xab_7 := hid (Xab_6.out.on b3)
    have Xba_7 := hid (Xba_6.out.on b3)
    have Xx_7 := hid (Xx_6.out.on b3)
    have Xy_7 := hid (Xy_6.out.on b3)
    have Xz_7 := hid (Xz_6.out.on b3)
    have Ia_7 := hid (Ia_6.out.below b3)
    have Ib_7 := hid (Ib_6.out.below b3)
    have Ic_7 := hid (Ic_6.out.below b3)
    have Iab_7 := hid (Iab_6.out.below b3)
    have Iba_7 := hid (Iba_6.out.below b3)
    have Ix_7 := hid (Ix_6.out.below b3)
    have Iy_7 := hid (Iy_6.out.below b3)
    have Iz_7 := hid (Iz_6.out.below b3)
    have HB_7 := hid (Bt HB_6.out b3)
    have Is__7 := hid (iv.below (Ba w7 (.cells #[.bool ss_, .slice as_ ns_ cs_] 24)))
    have Xs__7 := hid (Box.new 24 w7 ss_ as_ ns_ cs_)
    clear u0 u1 u2 u3 b2 b3 iv Xa_6 Xb_6 Xc_6 Xab_6 Xba_6 Xx_6 Xy_6 Xz_6 Ia_6 Ib_6 Ic_6 Iab_6 Iba_6 Ix_6 Iy_6 Iz_6 HB_6
    obtain ⟨u0, u1⟩ := Xc_7.out.c
    obtain ⟨u2, u3⟩ := Xb_7.out.c
    go_wp2_with fail
    obtain ⟨gs_, hgs_⟩ : ∃ g, g = w7.heap.size := ⟨_, rfl⟩
    rw [← hgs_] at Xs__7
    rw [← hgs_]
    generalize w7.alloc (.cells #[.bool ss_, .slice as_ ns_ cs_] 24) = W7 at *
    clear hgs_
    refine (mul_ok _ _ _ _ _ Ic_7.out Ib_7.out HM.out.cb).mono ?_
    rintro e w8 ⟨sbc, abc, nbc, cbc, rfl, iv, b2⟩
    have b3 := Bt b2 (Ba w8 (.cells #[.bool sbc, .slice abc nbc cbc] 24))
    have Xa_8 := hid (Xa_7.out.on b3)
    have Xb_8 := hid (Xb_7.out.on b3)
    have Xc_8 := hid (Xc_7.out.on b3)
    have Xab_8 := hid (Xab_7.out.on b3)
    have Xba_8 := hid (Xba_7.out.on b3)
    have Xx_8 := hid (Xx_7.out.on b3)
    have Xy_8 := hid (Xy_7.out.on b3)
    have Xz_8 := hid (Xz_7.out.on b3)
    have Xs__8 := hid (Xs__7.out.on b3)
    have Ia_8 := hid (Ia_7.out.below b3)
    have Ib_8 := hid (Ib_7.out.below b3)
    have Ic_8 := hid (Ic_7.out.below b3)
    have Iab_8 := hid (Iab_7.out.below b3)
    have Iba_8 := hid (Iba_7.out.below b3)
    have Ix_8 := hid (Ix_7.out.below b3)
    have Iy_8 := hid (Iy_7.out.below b3)
    have Iz_8 := hid (Iz_7.out.below b3)
    have Is__8 := hid (Is__7.out.below b3)
    have HB_8 := hid (Bt HB_7.out b3)
    have Ibc_8 := hid (iv.below (Ba w8 (.cells #[.bool sbc, .slice abc nbc cbc] 24)))
    have Xbc_8 := hid (Box.new 24 w8 sbc abc nbc cbc)
    clear u0 u1 u2 u3 b2 b3 iv Xa_7 Xb_7 Xc_7 Xab_7 Xba_7 Xx_7 Xy_7 Xz_7 Xs__7 Ia_7 Ib_7 Ic_7 Iab_7 Iba_7 Ix_7 Iy_7 Iz_7 Is__7 HB_7
    go_wp2_with fail
    obtain ⟨gbc, hgbc⟩ : ∃ g, g = w8.heap.size := ⟨_, rfl⟩
    rw [← hgbc] at Xbc_8
    rw [← hgbc]
    generalize w8.alloc (.cells #[.bool sbc, .slice abc nbc cbc] 24) = W8 at *
    clear hgbc
    skip
    have HS0 : Hid (Held3 W8 w.heap.size (w.heap.size + 1) (w.heap.size + 1 + 1) (.bool neg1) (.slice ao1 n1 cap1) (.bool neg2) (.slice ao2 n2 cap2) (.bool neg3) (.slice ao3 n3 cap3) W8) := ⟨⟨Xa_8.out.c.1, Xa_8.out.c.2, Xb_8.out.c.1, Xb_8.out.c.2⟩, ⟨Xc_8.out.c.1, Xc_8.out.c.2⟩, Below.refl _ _⟩
    have hl1 := Xa_8.out.lt
    have hl2 := Xb_8.out.lt
    have hl3 := Xc_8.out.lt
    refine wp_region_held_drew (S := Held3 W8 w.heap.size (w.heap.size + 1) (w.heap.size + 1 + 1) (.bool neg1) (.slice ao1 n1 cap1) (.bool neg2) (.slice ao2 n2 cap2) (.bool neg3) (.slice ao3 n3 cap3)) (by kernel_rfl) (HS0.out.on (Bd W8 1)) (fun hHeld => ?_)
    refine htake 0 (some 92) (.agg #[.bool neg1, .slice ao1 n1 cap1]) rfl rfl (by kernel_rfl) (by kernel_rfl) (by kernel_rfl) (fun _ _ _ h => h) (Or.inl ⟨by rfl, fun wx hSw => ?_⟩) (by assumption) ?_
    · obtain ⟨⟨s0, s1, s2, s3⟩, ⟨s4, s5⟩, _⟩ := hSw
      go_simp
    simp only [Act.put, List.setIfInBounds_toArray, List.set_cons_zero, List.set_cons_succ]
    refine htake 1 (some 93) (.agg #[.bool neg2, .slice ao2 n2 cap2]) rfl rfl (by kernel_rfl) (by kernel_rfl) (by kernel_rfl) (fun _ _ _ h => h) (Or.inl ⟨by rfl, fun wx hSw => ?_⟩) (by assumption) ?_
    · obtain ⟨⟨s0, s1, s2, s3⟩, ⟨s4, s5⟩, _⟩ := hSw
      go_simp
    simp only [Act.put, List.setIfInBounds_toArray, List.set_cons_zero, List.set_cons_succ]
    refine htake 6 (some 98) (.agg #[.bool neg3, .slice ao3 n3 cap3]) rfl rfl (by kernel_rfl) (by kernel_rfl) (by kernel_rfl) (fun _ _ _ h => h) (Or.inl ⟨by rfl, fun wx hSw => ?_⟩) (by assumption) ?_
    · obtain ⟨⟨s0, s1, s2, s3⟩, ⟨s4, s5⟩, _⟩ := hSw
      go_simp
    simp only [Act.put, List.setIfInBounds_toArray, List.set_cons_zero, List.set_cons_succ]
    refine wpAnyH_start L10 M10 F10 (fun a0 s a wx => s.1 ≤ 3 ∧ Held3 W8 w.heap.size (w.heap.size + 1) (w.heap.size + 1 + 1) (.bool neg1) (.slice ao1 n1 cap1) (.bool neg2) (.slice ao2 n2 cap2) (.bool neg3) (.slice ao3 n3 cap3) wx ∧ ∃ t94 t95 t96 t97 t99 t91 t100 t101 t21, a = (((((((((a0.put (some 94) t94).put (some 95) t95).put (some 96) t96).put (some 97) t97).put (some 99) t99).put (some 91) t91).put (some 100) t100).put (some 101) t101).put (some 21) t21) ∧ S10 W8 (A * B) (A * B * C) s.1 s.2 t94 t95 t96 t97 t99 t91 t100 t101 t21 wx) (0, false) ?_ ?_
    · exact ⟨by decide, hHeld, undef, undef, undef, undef, undef, undef, undef, undef, undef, (by simp only [Act.put, List.setIfInBounds_toArray, List.set_cons_zero, List.set_cons_succ]), ⟨Bd W8 1, fun e => (by cases e), fun e => (by cases e), fun e => (by cases e), fun e => (by cases e)⟩⟩
    clear hHeld
    rintro ⟨k, al⟩ a wx ⟨hk, hH, t94, t95, t96, t97, t99, t91, t100, t101, t21, rfl, hst⟩ IH
    simp only [Act.put, List.setIfInBounds_toArray, List.set_cons_zero, List.set_cons_succ]
    simp only at hk hst
    have HHe := hid hH
    have HSt := hid hst
    have HI := hid IH
    clear hH hst IH
    rcases (show k = 0 ∨ k = 1 ∨ k = 2 ∨ k = 3 by omega) with rfl | rfl | rfl | rfl <;> clear hk <;> cases al
    · refine wpAnyH_ready (rs := [2, 11]) (by kernel_rfl) (by simp) ?_
      refine AllReadyH.cons rfl (fun K hK => ?_) ?_
      · go_simp; go_at_call 11; refine (mul_ok _ _ _ _ _ (Ia_8.out.below HSt.out.bel) (Ib_8.out.below HSt.out.bel) HM.out.m).mono ?_; rintro e wy ⟨sv, av, nv, cv, rfl, iv, bv⟩
        refine hK.out _ _ (HHe.out.on bv) (fun hHeld => ?_)
        clear hK K
        try simp only [Act.put, List.setIfInBounds_toArray, List.set_cons_zero, List.set_cons_succ]
        refine htake 3 (some 95) (.agg #[.bool sv, .slice av nv cv]) rfl rfl (by kernel_rfl) (by kernel_rfl) (by kernel_rfl) (fun _ _ _ h => h) (Or.inl ⟨by rfl, fun wz hSw => by go_simp⟩) (by assumption) ?_
        simp only [Act.put, List.setIfInBounds_toArray, List.set_cons_zero, List.set_cons_succ]
        refine htake 4 (some 96) (.int .i64 0) rfl rfl (by kernel_rfl) (by kernel_rfl) (by kernel_rfl) (fun _ _ _ h => h) (Or.inl ⟨by rfl, fun wz hSw => by go_simp⟩) (by assumption) ?_
        simp only [Act.put, List.setIfInBounds_toArray, List.set_cons_zero, List.set_cons_succ]
        exact HI.out (1, false) (by decide) _ _ ⟨by decide, hHeld, (.tuple #[.agg #[.bool sv, .slice av nv cv], .int .i64 0]), (.agg #[.bool sv, .slice av nv cv]), (.int .i64 0), t97, t99, t91, t100, t101, t21, (by simp only [Act.put, List.setIfInBounds_toArray, List.set_cons_zero, List.set_cons_succ]), ⟨Bt HSt.out.bel bv, fun _ => ⟨sv, av, nv, cv, rfl, rfl, iv⟩, fun e => (by cases e), fun e => (by cases e), (HSt.out.on bv).b⟩⟩
      refine AllReadyH.cons rfl (fun K hK => ?_) ?_
      · go_simp; refine hK.out _ _ (HHe.out.on (Ba _ _)) (fun hHeld => ?_)
        exact HI.out (0, true) (by decide) _ _ ⟨by decide, hHeld, t94, t95, t96, t97, t99, t91, t100, t101, (.pointer (some ⟨wx.heap.size, 0, none⟩)), (by simp only [Act.put, List.setIfInBounds_toArray, List.set_cons_zero, List.set_cons_succ]), HSt.out.al⟩
      exact AllReadyH.nil
    · refine wpAnyH_ready (rs := [2]) (by kernel_rfl) (by simp) ?_
      refine AllReadyH.cons rfl (fun K hK => ?_) ?_
      · go_simp; go_at_call 11; refine (mul_ok _ _ _ _ _ (Ia_8.out.below HSt.out.bel) (Ib_8.out.below HSt.out.bel) HM.out.m).mono ?_; rintro e wy ⟨sv, av, nv, cv, rfl, iv, bv⟩
        refine hK.out _ _ (HHe.out.on bv) (fun hHeld => ?_)
        clear hK K
        try simp only [Act.put, List.setIfInBounds_toArray, List.set_cons_zero, List.set_cons_succ]
        refine htake 3 (some 95) (.agg #[.bool sv, .slice av nv cv]) rfl rfl (by kernel_rfl) (by kernel_rfl) (by kernel_rfl) (fun _ _ _ h => h) (Or.inl ⟨by rfl, fun wz hSw => by go_simp⟩) (by assumption) ?_
        simp only [Act.put, List.setIfInBounds_toArray, List.set_cons_zero, List.set_cons_succ]
        refine htake 4 (some 96) (.int .i64 0) rfl rfl (by kernel_rfl) (by kernel_rfl) (by kernel_rfl) (fun _ _ _ h => h) (Or.inl ⟨by rfl, fun wz hSw => by go_simp⟩) (by assumption) ?_
        simp only [Act.put, List.setIfInBounds_toArray, List.set_cons_zero, List.set_cons_succ]
        exact HI.out (1, true) (by decide) _ _ ⟨by decide, hHeld, (.tuple #[.agg #[.bool sv, .slice av nv cv], .int .i64 0]), (.agg #[.bool sv, .slice av nv cv]), (.int .i64 0), t97, t99, t91, t100, t101, t21, (by simp only [Act.put, List.setIfInBounds_toArray, List.set_cons_zero, List.set_cons_succ]), ⟨Bt HSt.out.bel bv, fun _ => ⟨sv, av, nv, cv, rfl, rfl, iv⟩, fun e => (by cases e), fun e => (by cases e), (HSt.out.on bv).b⟩⟩
      exact AllReadyH.nil
    · refine wpAnyH_ready (rs := [5, 11]) (by kernel_rfl) (by simp) ?_
      refine AllReadyH.cons rfl (fun K hK => ?_) ?_
      · obtain ⟨sv, av, nv, cv, rfl, rfl, iv⟩ := HSt.out.i1 rfl
        go_simp; go_at_call 15; refine (limbsOf_any sv av nv cv 0 _).mono ?_; rintro e wy ⟨rfl, bv⟩
        refine hK.out _ _ (HHe.out.on bv) (fun hHeld => ?_)
        exact HI.out (2, false) (by decide) _ _ ⟨by decide, hHeld, t94, (.agg #[.bool sv, .slice av nv cv]), (.int .i64 0), (.agg #[.bool sv, .slice av nv cv]), t99, t91, t100, t101, t21, (by simp only [Act.put, List.setIfInBounds_toArray, List.set_cons_zero, List.set_cons_succ]), ⟨Bt HSt.out.bel bv, fun e => (by cases e), fun _ => iv.below bv, fun e => (by cases e), (HSt.out.on bv).b⟩⟩
      refine AllReadyH.cons rfl (fun K hK => ?_) ?_
      · go_simp; refine hK.out _ _ (HHe.out.on (Ba _ _)) (fun hHeld => ?_)
        exact HI.out (1, true) (by decide) _ _ ⟨by decide, hHeld, t94, t95, t96, t97, t99, t91, t100, t101, (.pointer (some ⟨wx.heap.size, 0, none⟩)), (by simp only [Act.put, List.setIfInBounds_toArray, List.set_cons_zero, List.set_cons_succ]), HSt.out.al⟩
      exact AllReadyH.nil
    · refine wpAnyH_ready (rs := [5]) (by kernel_rfl) (by simp) ?_
      refine AllReadyH.cons rfl (fun K hK => ?_) ?_
      · obtain ⟨sv, av, nv, cv, rfl, rfl, iv⟩ := HSt.out.i1 rfl
        go_simp; go_at_call 15; refine (limbsOf_any sv av nv cv 0 _).mono ?_; rintro e wy ⟨rfl, bv⟩
        refine hK.out _ _ (HHe.out.on bv) (fun hHeld => ?_)
        exact HI.out (2, true) (by decide) _ _ ⟨by decide, hHeld, t94, (.agg #[.bool sv, .slice av nv cv]), (.int .i64 0), (.agg #[.bool sv, .slice av nv cv]), t99, t91, t100, t101, t21, (by simp only [Act.put, List.setIfInBounds_toArray, List.set_cons_zero, List.set_cons_succ]), ⟨Bt HSt.out.bel bv, fun e => (by cases e), fun _ => iv.below bv, fun e => (by cases e), (HSt.out.on bv).b⟩⟩
      exact AllReadyH.nil
    · refine wpAnyH_ready (rs := [7, 11]) (by kernel_rfl) (by simp) ?_
      refine AllReadyH.cons rfl (fun K hK => ?_) ?_
      · go_simp; go_at_call 11; refine (mul_ok _ _ _ _ _ (HSt.out.i2 rfl) (Ic_8.out.below HSt.out.bel) HM.out.p).mono ?_; rintro e wy ⟨sv, av, nv, cv, rfl, iv, bv⟩
        refine hK.out _ _ (HHe.out.on bv) (fun hHeld => ?_)
        clear hK K
        try simp only [Act.put, List.setIfInBounds_toArray, List.set_cons_zero, List.set_cons_succ]
        refine htake 8 (some 91) (.tuple #[.agg #[.bool sv, .slice av nv cv], .int .i64 0]) rfl rfl (by kernel_rfl) (by kernel_rfl) (by kernel_rfl) (fun _ _ _ h => h) (Or.inl ⟨by rfl, fun wz hSw => by go_simp⟩) (by assumption) ?_
        simp only [Act.put, List.setIfInBounds_toArray, List.set_cons_zero, List.set_cons_succ]
        refine htake 9 (some 100) (.agg #[.bool sv, .slice av nv cv]) rfl rfl (by kernel_rfl) (by kernel_rfl) (by kernel_rfl) (fun _ _ _ h => h) (Or.inl ⟨by rfl, fun wz hSw => by go_simp⟩) (by assumption) ?_
        simp only [Act.put, List.setIfInBounds_toArray, List.set_cons_zero, List.set_cons_succ]
        refine htake 10 (some 101) (.int .i64 0) rfl rfl (by kernel_rfl) (by kernel_rfl) (by kernel_rfl) (fun _ _ _ h => h) (Or.inl ⟨by rfl, fun wz hSw => by go_simp⟩) (by assumption) ?_
        simp only [Act.put, List.setIfInBounds_toArray, List.set_cons_zero, List.set_cons_succ]
        exact HI.out (3, false) (by decide) _ _ ⟨by decide, hHeld, t94, t95, t96, t97, (.tuple #[.agg #[.bool sv, .slice av nv cv], .int .i64 0]), (.tuple #[.agg #[.bool sv, .slice av nv cv], .int .i64 0]), (.agg #[.bool sv, .slice av nv cv]), (.int .i64 0), t21, (by simp only [Act.put, List.setIfInBounds_toArray, List.set_cons_zero, List.set_cons_succ]), ⟨Bt HSt.out.bel bv, fun e => (by cases e), fun e => (by cases e), fun _ => ⟨sv, av, nv, cv, rfl, rfl, iv⟩, (HSt.out.on bv).b⟩⟩
      refine AllReadyH.cons rfl (fun K hK => ?_) ?_
      · go_simp; refine hK.out _ _ (HHe.out.on (Ba _ _)) (fun hHeld => ?_)
        exact HI.out (2, true) (by decide) _ _ ⟨by decide, hHeld, t94, t95, t96, t97, t99, t91, t100, t101, (.pointer (some ⟨wx.heap.size, 0, none⟩)), (by simp only [Act.put, List.setIfInBounds_toArray, List.set_cons_zero, List.set_cons_succ]), HSt.out.al⟩
      exact AllReadyH.nil
    · refine wpAnyH_ready (rs := [7]) (by kernel_rfl) (by simp) ?_
      refine AllReadyH.cons rfl (fun K hK => ?_) ?_
      · go_simp; go_at_call 11; refine (mul_ok _ _ _ _ _ (HSt.out.i2 rfl) (Ic_8.out.below HSt.out.bel) HM.out.p).mono ?_; rintro e wy ⟨sv, av, nv, cv, rfl, iv, bv⟩
        refine hK.out _ _ (HHe.out.on bv) (fun hHeld => ?_)
        clear hK K
        try simp only [Act.put, List.setIfInBounds_toArray, List.set_cons_zero, List.set_cons_succ]
        refine htake 8 (some 91) (.tuple #[.agg #[.bool sv, .slice av nv cv], .int .i64 0]) rfl rfl (by kernel_rfl) (by kernel_rfl) (by kernel_rfl) (fun _ _ _ h => h) (Or.inl ⟨by rfl, fun wz hSw => by go_simp⟩) (by assumption) ?_
        simp only [Act.put, List.setIfInBounds_toArray, List.set_cons_zero, List.set_cons_succ]
        refine htake 9 (some 100) (.agg #[.bool sv, .slice av nv cv]) rfl rfl (by kernel_rfl) (by kernel_rfl) (by kernel_rfl) (fun _ _ _ h => h) (Or.inl ⟨by rfl, fun wz hSw => by go_simp⟩) (by assumption) ?_
        simp only [Act.put, List.setIfInBounds_toArray, List.set_cons_zero, List.set_cons_succ]
        refine htake 10 (some 101) (.int .i64 0) rfl rfl (by kernel_rfl) (by kernel_rfl) (by kernel_rfl) (fun _ _ _ h => h) (Or.inl ⟨by rfl, fun wz hSw => by go_simp⟩) (by assumption) ?_
        simp only [Act.put, List.setIfInBounds_toArray, List.set_cons_zero, List.set_cons_succ]
        exact HI.out (3, true) (by decide) _ _ ⟨by decide, hHeld, t94, t95, t96, t97, (.tuple #[.agg #[.bool sv, .slice av nv cv], .int .i64 0]), (.tuple #[.agg #[.bool sv, .slice av nv cv], .int .i64 0]), (.agg #[.bool sv, .slice av nv cv]), (.int .i64 0), t21, (by simp only [Act.put, List.setIfInBounds_toArray, List.set_cons_zero, List.set_cons_succ]), ⟨Bt HSt.out.bel bv, fun e => (by cases e), fun e => (by cases e), fun _ => ⟨sv, av, nv, cv, rfl, rfl, iv⟩, (HSt.out.on bv).b⟩⟩
      exact AllReadyH.nil
    · refine wpAnyH_ready (rs := [11]) (by kernel_rfl) (by simp) ?_
      refine AllReadyH.cons rfl (fun K hK => ?_) ?_
      · go_simp; refine hK.out _ _ (HHe.out.on (Ba _ _)) (fun hHeld => ?_)
        exact HI.out (3, true) (by decide) _ _ ⟨by decide, hHeld, t94, t95, t96, t97, t99, t91, t100, t101, (.pointer (some ⟨wx.heap.size, 0, none⟩)), (by simp only [Act.put, List.setIfInBounds_toArray, List.set_cons_zero, List.set_cons_succ]), HSt.out.al⟩
      exact AllReadyH.nil
    · obtain ⟨gp, rfl, hgp, B5⟩ := HSt.out.b rfl
      obtain ⟨sp, ap, np, cp, rfl, rfl, iv⟩ := HSt.out.i3 rfl
      obtain ⟨sp', ap', np', cp', lp, he, Rp, gp1, hz⟩ := iv.open_
      cases he
      have IP : Hid (∀ wz, Row .u32 B32 wz ap np cp lp → IsInt wz (.agg #[.bool sp, .slice ap np cp]) (A * B * C)) := fun wz R => ⟨sp, lp, ⟨ap, np, cp, rfl, R⟩, gp1, hz⟩
      have HRp := hid (Rp.setBox2 B5 sp (.slice ap np cp))
      have HBW := hid ((HSt.out.bel.setCell (p := ⟨gp, 0, none⟩) hgp (.bool sp)).setCell (p := ⟨gp, 1, none⟩) hgp (.slice ap np cp))
      have Xp0 := hid (B5.set2 sp ap np cp)
      obtain ⟨c50, c51⟩ := B5.c
      obtain ⟨f50, f51⟩ := B5.f
      clear HSt HI Rp iv gp1 hz B5
      refine hone 12 _ rfl (by kernel_rfl) (fun K hK => ?_)
      go_simp
      refine hK.out _ _ (HHe.out.set2 hgp hl1 hl2 hl3) (fun hHeld => ?_)
      clear hK K c50 c51 f50 f51
      refine hone 13 _ rfl (by kernel_rfl) (fun K hK => ?_)
      go_simp
      refine hK.out _ _ hHeld (fun hHeld2 => ?_)
      clear hK K hHeld hHeld2 HHe
      refine wpAnyH_done (by kernel_rfl) ?_ _
      generalize ((wx.setCell ⟨gp, 0, none⟩ (.bool sp)).setCell ⟨gp, 1, none⟩ (.slice ap np cp)) = WX at *
      have Xa_10 := hid (Xa_8.out.on HBW.out)
      have Xb_10 := hid (Xb_8.out.on HBW.out)
      have Xc_10 := hid (Xc_8.out.on HBW.out)
      have Xab_10 := hid (Xab_8.out.on HBW.out)
      have Xba_10 := hid (Xba_8.out.on HBW.out)
      have Xx_10 := hid (Xx_8.out.on HBW.out)
      have Xy_10 := hid (Xy_8.out.on HBW.out)
      have Xz_10 := hid (Xz_8.out.on HBW.out)
      have Xs__10 := hid (Xs__8.out.on HBW.out)
      have Xbc_10 := hid (Xbc_8.out.on HBW.out)
      have Ia_10 := hid (Ia_8.out.below HBW.out)
      have Ib_10 := hid (Ib_8.out.below HBW.out)
      have Ic_10 := hid (Ic_8.out.below HBW.out)
      have Iab_10 := hid (Iab_8.out.below HBW.out)
      have Iba_10 := hid (Iba_8.out.below HBW.out)
      have Ix_10 := hid (Ix_8.out.below HBW.out)
      have Iy_10 := hid (Iy_8.out.below HBW.out)
      have Iz_10 := hid (Iz_8.out.below HBW.out)
      have Is__10 := hid (Is__8.out.below HBW.out)
      have Ibc_10 := hid (Ibc_8.out.below HBW.out)
      have HB_10 := hid (Bt HB_8.out HBW.out)
      have Ip_10 := hid (IP.out _ HRp.out)
      have Xp_10 := hid Xp0.out
      clear IP HRp HBW Xp0 HS0 hl1 hl2 hl3 hgp Xa_8 Xb_8 Xc_8 Xab_8 Xba_8 Xx_8 Xy_8 Xz_8 Xs__8 Xbc_8 Ia_8 Ib_8 Ic_8 Iab_8 Iba_8 Ix_8 Iy_8 Iz_8 Is__8 Ibc_8 HB_8
      obtain ⟨u0, u1⟩ := Xa_10.out.c
      obtain ⟨u2, u3⟩ := Xbc_10.out.c
      go_wp2_with fail
      refine (mul_ok _ _ _ _ _ Ia_10.out Ibc_10.out HM.out.q).mono ?_
      rintro e w11 ⟨sq, aq, nq, cq, rfl, iv, b2⟩
      have b3 := Bt b2 (Ba w11 (.cells #[.bool sq, .slice aq nq cq] 24))
      have Xa_11 := hid (Xa_10.out.on b3)
      have Xb_11 := hid (Xb_10.out.on b3)
      have Xc_11 := hid (Xc_10.out.on b3)
      have Xab_11 := hid (Xab_10.out.on b3)
      have Xba_11 := hid (Xba_10.out.on b3)
      have Xx_11 := hid (Xx_10.out.on b3)
      have Xy_11 := hid (Xy_10.out.on b3)
      have Xz_11 := hid (Xz_10.out.on b3)
      have Xs__11 := hid (Xs__10.out.on b3)
      have Xbc_11 := hid (Xbc_10.out.on b3)
      have Xp_11 := hid (Xp_10.out.on b3)
      have Ia_11 := hid (Ia_10.out.below b3)
      have Ib_11 := hid (Ib_10.out.below b3)
      have Ic_11 := hid (Ic_10.out.below b3)
      have Iab_11 := hid (Iab_10.out.below b3)
      have Iba_11 := hid (Iba_10.out.below b3)
      have Ix_11 := hid (Ix_10.out.below b3)
      have Iy_11 := hid (Iy_10.out.below b3)
      have Iz_11 := hid (Iz_10.out.below b3)
      have Is__11 := hid (Is__10.out.below b3)
      have Ibc_11 := hid (Ibc_10.out.below b3)
      have Ip_11 := hid (Ip_10.out.below b3)
      have HB_11 := hid (Bt HB_10.out b3)
      have Iq_11 := hid (iv.below (Ba w11 (.cells #[.bool sq, .slice aq nq cq] 24)))
      have Xq_11 := hid (Box.new 24 w11 sq aq nq cq)
      clear u0 u1 u2 u3 b2 b3 iv Xa_10 Xb_10 Xc_10 Xab_10 Xba_10 Xx_10 Xy_10 Xz_10 Xs__10 Xbc_10 Xp_10 Ia_10 Ib_10 Ic_10 Iab_10 Iba_10 Ix_10 Iy_10 Iz_10 Is__10 Ibc_10 Ip_10 HB_10
      obtain ⟨u0, u1⟩ := Xab_11.out.c
      obtain ⟨u2, u3⟩ := Xb_11.out.c
      go_wp2_with fail
      obtain ⟨gq, hgq⟩ : ∃ g, g = w11.heap.size := ⟨_, rfl⟩
      rw [← hgq] at Xq_11
      rw [← hgq]
      generalize w11.alloc (.cells #[.bool sq, .slice aq nq cq] 24) = W11 at *
      clear hgq
      refine (sub_ok _ _ _ _ _ Iab_11.out Ib_11.out HM.out.d).mono ?_
      rintro e w12 ⟨sd, ad, nd, cd, rfl, iv, b2⟩
      have b3 := Bt b2 (Ba w12 (.cells #[.bool sd, .slice ad nd cd] 24))
      have Xa_12 := hid (Xa_11.out.on b3)
      have Xb_12 := hid (Xb_11.out.on b3)
      have Xc_12 := hid (Xc_11.out.on b3)
      have Xab_12 := hid (Xab_11.out.on b3)
      have Xba_12 := hid (Xba_11.out.on b3)
      have Xx_12 := hid (Xx_11.out.on b3)
      have Xy_12 := hid (Xy_11.out.on b3)
      have Xz_12 := hid (Xz_11.out.on b3)
      have Xs__12 := hid (Xs__11.out.on b3)
      have Xbc_12 := hid (Xbc_11.out.on b3)
      have Xp_12 := hid (Xp_11.out.on b3)
      have Xq_12 := hid (Xq_11.out.on b3)
      have Ia_12 := hid (Ia_11.out.below b3)
      have Ib_12 := hid (Ib_11.out.below b3)
      have Ic_12 := hid (Ic_11.out.below b3)
      have Iab_12 := hid (Iab_11.out.below b3)
      have Iba_12 := hid (Iba_11.out.below b3)
      have Ix_12 := hid (Ix_11.out.below b3)
      have Iy_12 := hid (Iy_11.out.below b3)
      have Iz_12 := hid (Iz_11.out.below b3)
      have Is__12 := hid (Is__11.out.below b3)
      have Ibc_12 := hid (Ibc_11.out.below b3)
      have Ip_12 := hid (Ip_11.out.below b3)
      have Iq_12 := hid (Iq_11.out.below b3)
      have HB_12 := hid (Bt HB_11.out b3)
      have Id_12 := hid (iv.below (Ba w12 (.cells #[.bool sd, .slice ad nd cd] 24)))
      have Xd_12 := hid (Box.new 24 w12 sd ad nd cd)
      clear u0 u1 u2 u3 b2 b3 iv Xa_11 Xb_11 Xc_11 Xab_11 Xba_11 Xx_11 Xy_11 Xz_11 Xs__11 Xbc_11 Xp_11 Xq_11 Ia_11 Ib_11 Ic_11 Iab_11 Iba_11 Ix_11 Iy_11 Iz_11 Is__11 Ibc_11 Ip_11 Iq_11 HB_11
      obtain ⟨u0, u1⟩ := Xab_12.out.c
      obtain ⟨u2, u3⟩ := Xba_12.out.c
      go_wp2_with fail
      obtain ⟨gd, hgd⟩ : ∃ g, g = w12.heap.size := ⟨_, rfl⟩
      rw [← hgd] at Xd_12
      rw [← hgd]
      generalize w12.alloc (.cells #[.bool sd, .slice ad nd cd] 24) = W12 at *
      clear hgd
      have E1 := hid Iba_12.out
      have E2 := hid (show IsInt _ _ (A + B) by rw [Int.add_comm]; exact E1.out)
      refine (same_true _ _ _ _ Iab_12.out E2.out).mono ?_
      rintro e w13 ⟨rfl, b2⟩
      have Xa_13 := hid (Xa_12.out.on b2)
      have Xb_13 := hid (Xb_12.out.on b2)
      have Xc_13 := hid (Xc_12.out.on b2)
      have Xab_13 := hid (Xab_12.out.on b2)
      have Xba_13 := hid (Xba_12.out.on b2)
      have Xx_13 := hid (Xx_12.out.on b2)
      have Xy_13 := hid (Xy_12.out.on b2)
      have Xz_13 := hid (Xz_12.out.on b2)
      have Xs__13 := hid (Xs__12.out.on b2)
      have Xbc_13 := hid (Xbc_12.out.on b2)
      have Xp_13 := hid (Xp_12.out.on b2)
      have Xq_13 := hid (Xq_12.out.on b2)
      have Xd_13 := hid (Xd_12.out.on b2)
      have Ia_13 := hid (Ia_12.out.below b2)
      have Ib_13 := hid (Ib_12.out.below b2)
      have Ic_13 := hid (Ic_12.out.below b2)
      have Iab_13 := hid (Iab_12.out.below b2)
      have Iba_13 := hid (Iba_12.out.below b2)
      have Ix_13 := hid (Ix_12.out.below b2)
      have Iy_13 := hid (Iy_12.out.below b2)
      have Iz_13 := hid (Iz_12.out.below b2)
      have Is__13 := hid (Is__12.out.below b2)
      have Ibc_13 := hid (Ibc_12.out.below b2)
      have Ip_13 := hid (Ip_12.out.below b2)
      have Iq_13 := hid (Iq_12.out.below b2)
      have Id_13 := hid (Id_12.out.below b2)
      have HB_13 := hid (Bt HB_12.out b2)
      clear u0 u1 u2 u3 b2 E1 E2 Xa_12 Xb_12 Xc_12 Xab_12 Xba_12 Xx_12 Xy_12 Xz_12 Xs__12 Xbc_12 Xp_12 Xq_12 Xd_12 Ia_12 Ib_12 Ic_12 Iab_12 Iba_12 Ix_12 Iy_12 Iz_12 Is__12 Ibc_12 Ip_12 Iq_12 Id_12 HB_12
      obtain ⟨u0, u1⟩ := Xx_13.out.c
      obtain ⟨u2, u3⟩ := Xs__13.out.c
      go_wp2_with fail
      have E1 := hid Is__13.out
      have E2 := hid (show IsInt _ _ ((A + B) * C) by rw [Int.add_mul]; exact E1.out)
      refine (same_true _ _ _ _ Ix_13.out E2.out).mono ?_
      rintro e w14 ⟨rfl, b2⟩
      have Xa_14 := hid (Xa_13.out.on b2)
      have Xb_14 := hid (Xb_13.out.on b2)
      have Xc_14 := hid (Xc_13.out.on b2)
      have Xab_14 := hid (Xab_13.out.on b2)
      have Xba_14 := hid (Xba_13.out.on b2)
      have Xx_14 := hid (Xx_13.out.on b2)
      have Xy_14 := hid (Xy_13.out.on b2)
      have Xz_14 := hid (Xz_13.out.on b2)
      have Xs__14 := hid (Xs__13.out.on b2)
      have Xbc_14 := hid (Xbc_13.out.on b2)
      have Xp_14 := hid (Xp_13.out.on b2)
      have Xq_14 := hid (Xq_13.out.on b2)
      have Xd_14 := hid (Xd_13.out.on b2)
      have Ia_14 := hid (Ia_13.out.below b2)
      have Ib_14 := hid (Ib_13.out.below b2)
      have Ic_14 := hid (Ic_13.out.below b2)
      have Iab_14 := hid (Iab_13.out.below b2)
      have Iba_14 := hid (Iba_13.out.below b2)
      have Ix_14 := hid (Ix_13.out.below b2)
      have Iy_14 := hid (Iy_13.out.below b2)
      have Iz_14 := hid (Iz_13.out.below b2)
      have Is__14 := hid (Is__13.out.below b2)
      have Ibc_14 := hid (Ibc_13.out.below b2)
      have Ip_14 := hid (Ip_13.out.below b2)
      have Iq_14 := hid (Iq_13.out.below b2)
      have Id_14 := hid (Id_13.out.below b2)
      have HB_14 := hid (Bt HB_13.out b2)
      clear u0 u1 u2 u3 b2 E1 E2 Xa_13 Xb_13 Xc_13 Xab_13 Xba_13 Xx_13 Xy_13 Xz_13 Xs__13 Xbc_13 Xp_13 Xq_13 Xd_13 Ia_13 Ib_13 Ic_13 Iab_13 Iba_13 Ix_13 Iy_13 Iz_13 Is__13 Ibc_13 Ip_13 Iq_13 Id_13 HB_13
      obtain ⟨u0, u1⟩ := Xz_14.out.c
      obtain ⟨u2, u3⟩ := Xbc_14.out.c
      go_wp2_with fail
      have E1 := hid Ibc_14.out
      have E2 := hid (show IsInt _ _ (B * C) by rw [Int.mul_comm]; exact E1.out)
      refine (same_true _ _ _ _ Iz_14.out E2.out).mono ?_
      rintro e w15 ⟨rfl, b2⟩
      have Xa_15 := hid (Xa_14.out.on b2)
      have Xb_15 := hid (Xb_14.out.on b2)
      have Xc_15 := hid (Xc_14.out.on b2)
      have Xab_15 := hid (Xab_14.out.on b2)
      have Xba_15 := hid (Xba_14.out.on b2)
      have Xx_15 := hid (Xx_14.out.on b2)
      have Xy_15 := hid (Xy_14.out.on b2)
      have Xz_15 := hid (Xz_14.out.on b2)
      have Xs__15 := hid (Xs__14.out.on b2)
      have Xbc_15 := hid (Xbc_14.out.on b2)
      have Xp_15 := hid (Xp_14.out.on b2)
      have Xq_15 := hid (Xq_14.out.on b2)
      have Xd_15 := hid (Xd_14.out.on b2)
      have Ia_15 := hid (Ia_14.out.below b2)
      have Ib_15 := hid (Ib_14.out.below b2)
      have Ic_15 := hid (Ic_14.out.below b2)
      have Iab_15 := hid (Iab_14.out.below b2)
      have Iba_15 := hid (Iba_14.out.below b2)
      have Ix_15 := hid (Ix_14.out.below b2)
      have Iy_15 := hid (Iy_14.out.below b2)
      have Iz_15 := hid (Iz_14.out.below b2)
      have Is__15 := hid (Is__14.out.below b2)
      have Ibc_15 := hid (Ibc_14.out.below b2)
      have Ip_15 := hid (Ip_14.out.below b2)
      have Iq_15 := hid (Iq_14.out.below b2)
      have Id_15 := hid (Id_14.out.below b2)
      have HB_15 := hid (Bt HB_14.out b2)
      clear u0 u1 u2 u3 b2 E1 E2 Xa_14 Xb_14 Xc_14 Xab_14 Xba_14 Xx_14 Xy_14 Xz_14 Xs__14 Xbc_14 Xp_14 Xq_14 Xd_14 Ia_14 Ib_14 Ic_14 Iab_14 Iba_14 Ix_14 Iy_14 Iz_14 Is__14 Ibc_14 Ip_14 Iq_14 Id_14 HB_14
      obtain ⟨u0, u1⟩ := Xp_15.out.c
      obtain ⟨u2, u3⟩ := Xq_15.out.c
      go_wp2_with fail
      have E1 := hid Iq_15.out
      have E2 := hid (show IsInt _ _ (A * B * C) by rw [Int.mul_assoc, Int.mul_comm B C]; exact E1.out)
      refine (same_true _ _ _ _ Ip_15.out E2.out).mono ?_
      rintro e w16 ⟨rfl, b2⟩
      have Xa_16 := hid (Xa_15.out.on b2)
      have Xb_16 := hid (Xb_15.out.on b2)
      have Xc_16 := hid (Xc_15.out.on b2)
      have Xab_16 := hid (Xab_15.out.on b2)
      have Xba_16 := hid (Xba_15.out.on b2)
      have Xx_16 := hid (Xx_15.out.on b2)
      have Xy_16 := hid (Xy_15.out.on b2)
      have Xz_16 := hid (Xz_15.out.on b2)
      have Xs__16 := hid (Xs__15.out.on b2)
      have Xbc_16 := hid (Xbc_15.out.on b2)
      have Xp_16 := hid (Xp_15.out.on b2)
      have Xq_16 := hid (Xq_15.out.on b2)
      have Xd_16 := hid (Xd_15.out.on b2)
      have Ia_16 := hid (Ia_15.out.below b2)
      have Ib_16 := hid (Ib_15.out.below b2)
      have Ic_16 := hid (Ic_15.out.below b2)
      have Iab_16 := hid (Iab_15.out.below b2)
      have Iba_16 := hid (Iba_15.out.below b2)
      have Ix_16 := hid (Ix_15.out.below b2)
      have Iy_16 := hid (Iy_15.out.below b2)
      have Iz_16 := hid (Iz_15.out.below b2)
      have Is__16 := hid (Is__15.out.below b2)
      have Ibc_16 := hid (Ibc_15.out.below b2)
      have Ip_16 := hid (Ip_15.out.below b2)
      have Iq_16 := hid (Iq_15.out.below b2)
      have Id_16 := hid (Id_15.out.below b2)
      have HB_16 := hid (Bt HB_15.out b2)
      clear u0 u1 u2 u3 b2 E1 E2 Xa_15 Xb_15 Xc_15 Xab_15 Xba_15 Xx_15 Xy_15 Xz_15 Xs__15 Xbc_15 Xp_15 Xq_15 Xd_15 Ia_15 Ib_15 Ic_15 Iab_15 Iba_15 Ix_15 Iy_15 Iz_15 Is__15 Ibc_15 Ip_15 Iq_15 Id_15 HB_15
      obtain ⟨u0, u1⟩ := Xd_16.out.c
      obtain ⟨u2, u3⟩ := Xa_16.out.c
      go_wp2_with fail
      have E1 := hid Ia_16.out
      have E2 := hid (show IsInt _ _ (A + B + -B) by rw [Int.add_neg_cancel_right]; exact E1.out)
      refine (same_true _ _ _ _ Id_16.out E2.out).mono ?_
      rintro e w17 ⟨rfl, b2⟩
      have Xa_17 := hid (Xa_16.out.on b2)
      have Xb_17 := hid (Xb_16.out.on b2)
      have Xc_17 := hid (Xc_16.out.on b2)
      have Xab_17 := hid (Xab_16.out.on b2)
      have Xba_17 := hid (Xba_16.out.on b2)
      have Xx_17 := hid (Xx_16.out.on b2)
      have Xy_17 := hid (Xy_16.out.on b2)
      have Xz_17 := hid (Xz_16.out.on b2)
      have Xs__17 := hid (Xs__16.out.on b2)
      have Xbc_17 := hid (Xbc_16.out.on b2)
      have Xp_17 := hid (Xp_16.out.on b2)
      have Xq_17 := hid (Xq_16.out.on b2)
      have Xd_17 := hid (Xd_16.out.on b2)
      have Ia_17 := hid (Ia_16.out.below b2)
      have Ib_17 := hid (Ib_16.out.below b2)
      have Ic_17 := hid (Ic_16.out.below b2)
      have Iab_17 := hid (Iab_16.out.below b2)
      have Iba_17 := hid (Iba_16.out.below b2)
      have Ix_17 := hid (Ix_16.out.below b2)
      have Iy_17 := hid (Iy_16.out.below b2)
      have Iz_17 := hid (Iz_16.out.below b2)
      have Is__17 := hid (Is__16.out.below b2)
      have Ibc_17 := hid (Ibc_16.out.below b2)
      have Ip_17 := hid (Ip_16.out.below b2)
      have Iq_17 := hid (Iq_16.out.below b2)
      have Id_17 := hid (Id_16.out.below b2)
      have HB_17 := hid (Bt HB_16.out b2)
      clear u0 u1 u2 u3 b2 E1 E2 Xa_16 Xb_16 Xc_16 Xab_16 Xba_16 Xx_16 Xy_16 Xz_16 Xs__16 Xbc_16 Xp_16 Xq_16 Xd_16 Ia_16 Ib_16 Ic_16 Iab_16 Iba_16 Ix_16 Iy_16 Iz_16 Is__16 Ibc_16 Ip_16 Iq_16 Id_16 HB_16
      go_wp2_with (go_at_call 9; refine (awake_any _).mono ?_; rintro e w99 ⟨rfl, b9⟩)
      go_ret
      exact ⟨rfl, Bt HB_17.out b9⟩

end Go.Proofs.Ytlgnibbeajknoab
