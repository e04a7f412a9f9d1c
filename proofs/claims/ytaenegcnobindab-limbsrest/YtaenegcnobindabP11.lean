/-
  Walk of LimbsRest: whatever two integers are handed in, the statement answers true.
-/
import Derived.Test.YtaenegcnobindabW51
import Derived.Test.YtaenegcnobindabW38
import Derived.Test.YtaenegcnobindabW16
set_option linter.unusedVariables false
set_option linter.unusedSimpArgs false
namespace Go.Proofs.Ytaenegcnobindab
open Go.RowKit

theorem natAbs_div_le (a b : Int) : (a.tdiv b).natAbs ≤ a.natAbs := by rw [Int.natAbs_tdiv]; exact Nat.div_le_self _ _
theorem mul_le_abs (a b : Int) : (a.tdiv b * b).natAbs ≤ a.natAbs := by
  rw [Int.natAbs_mul, Int.natAbs_tdiv]; exact Nat.div_mul_le_self _ _
theorem rest_sign {s t u : Bool} {l l' lr : List Nat} (hg : goodB t lr = true) (h : sgn t (val B32 lr) = (sgn s (val B32 l)).tmod (sgn u (val B32 l'))) (hl : lr ≠ []) : t = s := by
  rw [← sgn_mod] at h
  have h0 := (goodB_tr hg).ne_zero (B := B32) (by decide) hl
  cases s <;> cases t <;> simp [sgn] at h ⊢ <;> omega
theorem rest_lt {s t u : Bool} {l l' lr : List Nat} (h : sgn t (val B32 lr) = (sgn s (val B32 l)).tmod (sgn u (val B32 l'))) (hl : 0 < val B32 l') : val B32 lr < val B32 l' := by
  rw [← sgn_mod] at h
  have h1 := congrArg Int.natAbs h
  have e1 : ∀ (s : Bool) (v : Nat), (sgn s v).natAbs = v := fun s v => by cases s <;> simp [sgn]
  rw [e1, e1] at h1
  rw [h1]; exact Nat.mod_lt _ hl

theorem Box.set0 {t : TypeId} {w : World} {p : Nat} {x : Bool} {a : Option Addr} {m c : Nat} (h : Box t w p x a m c) (y : Bool) : Box t (w.setCell ⟨p, 0, none⟩ (.bool y)) p y a m c := blk_set h (.bool y)
theorem Box.far1 {t : TypeId} {w : World} {p q : Nat} {x : Bool} {a : Option Addr} {m c : Nat} (h : Box t w p x a m c) (hq : p ≠ q) (i : Nat) (u : Value) : Box t (w.setCell ⟨q, i, none⟩ u) p x a m c :=
  (Below.heap_setCell _ _ _ _ hq).trans h
theorem isint_of {w w' : World} (h : ∀ {a : Option Addr} {n c : Nat} {l : List Nat}, Row .u32 B32 w a n c l → Row .u32 B32 w' a n c l) {x : Value} {z : Int} (hi : IsInt w x z) : IsInt w' x z := by
  obtain ⟨s, ao, n, cap, l, rfl, R, g, rfl⟩ := hi.open_
  exact ⟨s, l, ⟨ao, n, cap, rfl, h R⟩, g, rfl⟩

set_option maxHeartbeats 4000000 in
theorem limbsRest_walk (neg : Bool) (ao : Option Addr) (n cap : Nat) (l : List Nat) (neg' : Bool) (ao' : Option Addr) (n' cap' : Nat) (l' : List Nat) (w : World) (R : Row .u32 B32 w ao n cap l) (R' : Row .u32 B32 w ao' n' cap' l') :
    Calls Try.prog 3 #[.agg #[.bool neg, .slice ao n cap], .agg #[.bool neg', .slice ao' n' cap']] w fun e w' => e = .returned (.bool true) ∧ Below w.heap.size w w' := by
  have HR := hid R
  have HR' := hid R'
  have hmx := R'.most
  have hft := R'.fits
  unfold maxLen at hmx
  clear R R'
  go_enter Try.func3, Try.ntmps3
  go_wp2_with fail
  have bA := Baa w (.cells #[.bool neg, .slice ao n cap] 24) (.cells #[.bool neg', .slice ao' n' cap'] 24)
  have x1 := (Box.new 24 w neg ao n cap).alloc (.cells #[.bool neg', .slice ao' n' cap'] 24)
  have x2 := Box.new 24 (w.alloc (.cells #[.bool neg, .slice ao n cap] 24)) neg' ao' n' cap'
  rw [size_alloc] at x2
  have hsz : ((w.alloc (.cells #[.bool neg, .slice ao n cap] 24)).alloc (.cells #[.bool neg', .slice ao' n' cap'] 24)).heap.size = w.heap.size + 1 + 1 := by rw [size_alloc, size_alloc]
  generalize (w.alloc (.cells #[.bool neg, .slice ao n cap] 24)).alloc (.cells #[.bool neg', .slice ao' n' cap'] 24) = WA at *
  have bQ := Ba WA (.cells #[.bool neg, .slice ao n cap, .bool neg', .slice ao' n' cap'] 24)
  have y1 := x1.on bQ
  have y2 := x2.on bQ
  have hq := blk_new WA #[.bool neg, .slice ao n cap, .bool neg', .slice ao' n' cap'] 24
  rw [hsz] at hq
  have b0 := Bt bA bQ
  generalize WA.alloc (.cells #[.bool neg, .slice ao n cap, .bool neg', .slice ao' n' cap'] 24) = W at *
  refine (lgood2 (w.heap.size + 1 + 1) neg neg' ao ao' n cap n' cap' l l' W (blk_cell hq 0) (blk_cell hq 1) (blk_cell hq 2) (blk_cell hq 3) (HR.out.below b0) (HR'.out.below b0)).mono ?_
  rintro e w1 ⟨rfl, b1⟩
  have HB1 := hid (Bt b0 b1)
  have X1 := hid (y1.on b1)
  have X2 := hid (y2.on b1)
  have R1 := hid (HR.out.below HB1.out)
  have R1' := hid (HR'.out.below HB1.out)
  obtain ⟨c0, c1⟩ := X1.out.c
  obtain ⟨d0, d1⟩ := X2.out.c
  clear x1 x2 y1 y2 hq b0 b1 bQ bA hsz HR HR'
  cases hg : goodB neg l && goodB neg' l'
  · go_wp2_with (go_at_call 9; refine (awake_any _).mono ?_; rintro e w2 ⟨rfl, b2⟩)
    go_ret
    exact ⟨rfl, Bt HB1.out b2⟩
  · rw [Bool.and_eq_true] at hg
    by_cases hn0 : n' = 0
    · subst hn0
      go_wp2_with (go_at_call 9; refine (awake_any _).mono ?_; rintro e w2 ⟨rfl, b2⟩)
      go_ret
      exact ⟨rfl, Bt HB1.out b2⟩
    · have en0 : ((n' : Int) == 0) = false := by simp; omega
      have IA : Hid (IsInt w1 (.agg #[.bool neg, .slice ao n cap]) (sgn neg (val B32 l))) := ⟨neg, l, ⟨ao, n, cap, rfl, R1.out⟩, hg.1, rfl⟩
      have IB : Hid (IsInt w1 (.agg #[.bool neg', .slice ao' n' cap']) (sgn neg' (val B32 l'))) := ⟨neg', l', ⟨ao', n', cap', rfl, R1'.out⟩, hg.2, rfl⟩
      have hvp : Hid (0 < val B32 l') := Nat.pos_of_ne_zero ((goodB_tr hg.2).ne_zero (by decide) (fun e => hn0 (by rw [← R1'.out.len, e]; rfl)))
      have hb0 : Hid (sgn neg' (val B32 l') ≠ 0) := by
        have := hvp.out; unfold Hid sgn; split <;> omega
      have HBG : Hid (¬ Big (sgn neg (val B32 l)).natAbs) := by
        have := good_small R1.out hg.1
        have e1 : (sgn neg (val B32 l)).natAbs = val B32 l := by unfold sgn; cases neg <;> simp
        unfold Hid; rw [e1]; exact this
      have G2 := hid hg.2
      obtain ⟨za, hza⟩ : ∃ z, z = sgn neg (val B32 l) := ⟨_, rfl⟩
      obtain ⟨zb, hzb⟩ : ∃ z, z = sgn neg' (val B32 l') := ⟨_, rfl⟩
      rw [← hza] at IA HBG
      rw [← hzb] at IB hb0
      have HZA := hid hza
      have HZB := hid hzb
      clear hg hza hzb
      go_wp2_with fail
      refine (div_is _ _ za zb w1 IA.out IB.out hb0.out long_any).mono ?_
      rintro e w2 ⟨xq, xr, rfl, hq, hr, b2⟩
      obtain ⟨sq, aq, nq, cq, lq, rfl, Rq, gq, eq⟩ := hq.open_
      obtain ⟨sr, ar, nr, cr, lr, rfl, Rr, gr, er⟩ := hr.open_
      have HB2 := hid (Bt HB1.out b2)
      have Y1 := hid (X1.out.on b2)
      have Y2 := hid (X2.out.on b2)
      have IA2 := hid (IA.out.below b2)
      have IB2 := hid (IB.out.below b2)
      have R2' := hid (R1'.out.below b2)
      clear c0 c1 d0 d1 IA IB X1 X2 R1 R1' HB1 b2
      go_wp2_with fail
      have v1 := Ba w2 (.cells #[.bool sq, .slice aq nq cq] 24)
      have z1 := Box.new 24 w2 sq aq nq cq
      have s1 := size_alloc w2 (.cells #[.bool sq, .slice aq nq cq] 24)
      obtain ⟨g, hg⟩ : ∃ g, g = w2.heap.size := ⟨_, rfl⟩
      rw [← hg] at z1 s1
      rw [← hg]
      generalize w2.alloc (.cells #[.bool sq, .slice aq nq cq] 24) = w3 at *
      have v2 := Ba w3 (.cells #[.bool sr, .slice ar nr cr] 24)
      have z2 := Box.new 24 w3 sr ar nr cr
      have s2 := size_alloc w3 (.cells #[.bool sr, .slice ar nr cr] 24)
      rw [s1] at z2 s2
      have z1 := z1.on v2
      generalize w3.alloc (.cells #[.bool sr, .slice ar nr cr] 24) = w4 at *
      have v3 := Ba w4 (.cells #[.bool sq, .slice aq nq cq, .bool sr, .slice ar nr cr] 24)
      have hq4 := blk_new w4 #[.bool sq, .slice aq nq cq, .bool sr, .slice ar nr cr] 24
      rw [s2] at hq4
      have z1 := z1.on v3
      have z2 := z2.on v3
      have v := Bt (Bt v1 v2) v3
      generalize w4.alloc (.cells #[.bool sq, .slice aq nq cq, .bool sr, .slice ar nr cr] 24) = w5 at *
      refine (lgood2 (g + 1 + 1) sq sr aq ar nq cq nr cr lq lr w5 (blk_cell hq4 0) (blk_cell hq4 1) (blk_cell hq4 2) (blk_cell hq4 3) (Rq.below v) (Rr.below v)).mono ?_
      rintro e w6 ⟨rfl, b6⟩
      have bv := Bt v b6
      have Z1 := hid (z1.on b6)
      have Z2 := hid (z2.on b6)
      have Y3 := hid (Y1.out.on bv)
      have Y4 := hid (Y2.out.on bv)
      have IA6 := hid (IA2.out.below bv)
      have IB6 := hid (IB2.out.below bv)
      have IQ := hid (hq.below bv)
      have IR := hid (hr.below bv)
      have RR := hid (Rr.below bv)
      have R6' := hid (R2'.out.below bv)
      have HB6 := hid (Bt HB2.out bv)
      have EQ := hid eq
      have ER := hid er
      have GR := hid gr
      have eg : (goodB sq lq && goodB sr lr) = true := by rw [gq, gr]; rfl
      have hmxr := Rr.most
      have hftr := Rr.fits
      unfold maxLen at hmxr
      clear v v1 v2 v3 z1 z2 s1 s2 hg hq4 b6 bv Rq Rr gq gr eq er hq hr Y1 Y2 IA2 IB2 R2' HB2
      rw [eg]
      clear eg
      obtain ⟨c0, c1⟩ := Z1.out.c
      obtain ⟨d0, d1⟩ := Y4.out.c
      go_wp2_with fail
      refine (mul_ok _ _ (za.tdiv zb) zb w6 IQ.out IB6.out (not_big_le (mul_le_abs za zb) HBG.out)).mono ?_
      rintro e w7 ⟨sp, ap, np, cp, rfl, hp, b7⟩
      have v1 := Ba w7 (.cells #[.bool sp, .slice ap np cp] 24)
      have bv := Bt b7 v1
      have z3 := Box.new 24 w7 sp ap np cp
      have Z1' := hid (Z1.out.on bv)
      have Z2' := hid (Z2.out.on bv)
      have Z3 := hid z3
      have Y3' := hid (Y3.out.on bv)
      have Y4' := hid (Y4.out.on bv)
      have IA7 := hid (IA6.out.below bv)
      have IR7 := hid (IR.out.below bv)
      have IP7 := hid (hp.below v1)
      have RR7 := hid (RR.out.below bv)
      have R7' := hid (R6'.out.below bv)
      have HB7 := hid (Bt HB6.out bv)
      clear c0 c1 d0 d1 v1 bv b7 z3 hp Z1 Z2 Y3 Y4 IA6 IB6 IQ IR RR R6' HB6
      obtain ⟨c0, c1⟩ := Z3.out.c
      obtain ⟨d0, d1⟩ := Z2'.out.c
      go_wp2_with fail
      clear c0 c1 d0 d1
      obtain ⟨gp, hgp⟩ : ∃ g, g = w7.heap.size := ⟨_, rfl⟩
      rw [← hgp] at Z3
      rw [← hgp]
      generalize w7.alloc (.cells #[.bool sp, .slice ap np cp] 24) = w8 at *
      have hsum : za.tdiv zb * zb + za.tmod zb = za := Int.tdiv_mul_add_tmod za zb
      refine (add_ok _ _ (za.tdiv zb * zb) (za.tmod zb) w8 IP7.out IR7.out (by rw [hsum]; exact HBG.out)).mono ?_
      rintro e w9 ⟨ss, aas, ns, cs, rfl, hs, b9⟩
      rw [hsum] at hs
      have v1 := Ba w9 (.cells #[.bool ss, .slice aas ns cs] 24)
      have z4 := Box.new 24 w9 ss aas ns cs
      have s1 := size_alloc w9 (.cells #[.bool ss, .slice aas ns cs] 24)
      have bv := Bt b9 v1
      have Z2 := hid (Z2'.out.on bv)
      have Y3 := hid (Y3'.out.on bv)
      have Y4 := hid (Y4'.out.on bv)
      have IA9 := hid (IA7.out.below bv)
      have IS9 := hid (hs.below v1)
      have RR9 := hid (RR7.out.below bv)
      have R9' := hid (R7'.out.below bv)
      have HB9 := hid (Bt HB7.out bv)
      have Z4 := hid z4
      have S1 := hid s1
      clear hsum hgp hs b9 bv v1 z4 s1 Z1' Z2' Z3 Y3' Y4' IA7 IR7 IP7 RR7 R7' HB7
      obtain ⟨c0, c1⟩ := Z2.out.c
      obtain ⟨d0, d1⟩ := Y4.out.c
      go_wp2_with fail
      obtain ⟨gs, hgs⟩ : ∃ g, g = w9.heap.size := ⟨_, rfl⟩
      rw [← hgs] at Z4
      rw [← hgs]
      generalize w9.alloc (.cells #[.bool ss, .slice aas ns cs] 24) = w10 at *
      clear hgs S1
      have l1 : g + 1 < w10.heap.size := Z2.out.lt
      have l2 : w.heap.size + 1 < w10.heap.size := Y4.out.lt
      have k1 : ∀ o, (w10.alloc o).cell? ⟨g + 1, 0, none⟩ = some (.bool sr) := fun o => (cell_old _ _ _ _ l1).trans c0
      have k2 : ∀ o, (w10.alloc o).cell? ⟨g + 1, 1, none⟩ = some (.slice ar nr cr) := fun o => (cell_old _ _ _ _ l1).trans c1
      have k3 : ∀ o, (w10.alloc o).cell? ⟨w.heap.size + 1, 0, none⟩ = some (.bool neg') := fun o => (cell_old _ _ _ _ l2).trans d0
      have k4 : ∀ o, (w10.alloc o).cell? ⟨w.heap.size + 1, 1, none⟩ = some (.slice ao' n' cap') := fun o => (cell_old _ _ _ _ l2).trans d1
      have k5 : ∀ o o', ((w10.alloc o).alloc o').cell? ⟨g + 1, 0, none⟩ = some (.bool sr) := fun o o' => (cell_old _ _ _ _ (by rw [size_alloc]; omega)).trans (k1 o)
      have k6 : ∀ o o', ((w10.alloc o).alloc o').cell? ⟨g + 1, 1, none⟩ = some (.slice ar nr cr) := fun o o' => (cell_old _ _ _ _ (by rw [size_alloc]; omega)).trans (k2 o)
      have k7 : ∀ o o', ((w10.alloc o).alloc o').cell? ⟨w.heap.size + 1, 0, none⟩ = some (.bool neg') := fun o o' => (cell_old _ _ _ _ (by rw [size_alloc]; omega)).trans (k3 o)
      have k8 : ∀ o o', ((w10.alloc o).alloc o').cell? ⟨w.heap.size + 1, 1, none⟩ = some (.slice ao' n' cap') := fun o o' => (cell_old _ _ _ _ (by rw [size_alloc]; omega)).trans (k4 o)
      go_region
      · have v : Below w10.heap.size w10 ((w10.alloc (.cells #[.bool sr, .slice ar nr cr] 24)).alloc (.cells #[.bool neg', .slice ao' n' cap'] 24)).drew := Bt (Baa w10 (.cells #[.bool sr, .slice ar nr cr] 24) (.cells #[.bool neg', .slice ao' n' cap'] 24)) (Bd _ 1)
        have bm : Box 24 ((w10.alloc (.cells #[.bool sr, .slice ar nr cr] 24)).alloc (.cells #[.bool neg', .slice ao' n' cap'] 24)).drew w10.heap.size sr ar nr cr := ((Box.new 24 w10 sr ar nr cr).alloc (.cells #[.bool neg', .slice ao' n' cap'] 24)).on (Bd _ 1)
        have bn : Box 24 ((w10.alloc (.cells #[.bool sr, .slice ar nr cr] 24)).alloc (.cells #[.bool neg', .slice ao' n' cap'] 24)).drew (w10.heap.size + 1) neg' ao' n' cap' := by
          have := (Box.new 24 (w10.alloc (.cells #[.bool sr, .slice ar nr cr] 24)) neg' ao' n' cap').on (Bd _ 1)
          rwa [size_alloc] at this
        obtain ⟨pm, hpm⟩ : ∃ g, g = w10.heap.size := ⟨_, rfl⟩
        obtain ⟨pn, hpn⟩ : ∃ g, g = (w10.heap.size + 1) := ⟨_, rfl⟩
        have hne : pm ≠ pn := by rw [hpm, hpn]; omega
        have hm1 : w10.heap.size ≤ pm := by rw [hpm]; omega
        have hm2 : w10.heap.size ≤ pn := by rw [hpn]; omega
        clear k1 k2 k3 k4 k5 k6 k7 k8 c0 c1 d0 d1
        rw [← hpm] at bm
        rw [← hpn] at bn
        rw [← hpn, ← hpm]
        clear hpm hpn
        generalize ((w10.alloc (.cells #[.bool sr, .slice ar nr cr] 24)).alloc (.cells #[.bool neg', .slice ao' n' cap'] 24)).drew = w11 at *
        have hmm := bm.f.1
        have hnn := bn.f.1
        have cmm := bm.c.1
        have cnn := bn.c.1
        have hW1 := w11.setCell ⟨pm, 0, none⟩ (.bool false)
        have bm1 := bm.set0 false
        have bn1 := bn.far1 (q := pm) (fun e => hne e.symm) 0 (.bool false)
        have bm2 := bm1.far1 (q := pn) hne 0 (.bool false)
        have bn2 := bn1.set0 false
        have far2 : ∀ {q x a m c}, Box 24 w10 q x a m c → Box 24 ((w11.setCell ⟨pm, 0, none⟩ (.bool false)).setCell ⟨pn, 0, none⟩ (.bool false)) q x a m c := fun h =>
          ((h.on v).far1 (q := pm) (by have := h.lt; omega) 0 (.bool false)).far1 (q := pn) (by have := h.lt; omega) 0 (.bool false)
        have irow : ∀ {a n c l}, Row .u32 B32 w10 a n c l → Row .u32 B32 ((w11.setCell ⟨pm, 0, none⟩ (.bool false)).setCell ⟨pn, 0, none⟩ (.bool false)) a n c l := fun h => ((h.below v).setBox bm 0 (.bool false)).setBox bn1 0 (.bool false)
        have Z2a := hid (far2 Z2.out)
        have Y3a := hid (far2 Y3.out)
        have Z4a := hid (far2 Z4.out)
        have BM2 := hid bm2
        have BN2 := hid bn2
        have IAa := hid (isint_of irow IA9.out)
        have ISa := hid (isint_of irow IS9.out)
        have RRa := hid (irow RR9.out)
        have RBa := hid (irow R9'.out)
        have HBa := hid (((Bt HB9.out v).setCell (p := ⟨pm, 0, none⟩) (by have := HB9.out.size; simp; omega) (.bool false)).setCell (p := ⟨pn, 0, none⟩) (by have := HB9.out.size; simp; omega) (.bool false))
        have cn1 := bn1.c.1
        have fn1 := bn1.f.1
        clear bm bn bm1 bm2 bn2 bn1 far2 irow hW1 v Z2 Y3 Y4 Z4 IA9 IS9 RR9 R9' HB9
        obtain ⟨c0, c1⟩ := Z4a.out.c
        obtain ⟨d0, d1⟩ := Y3a.out.c
        go_wp2_with fail
        clear c0 c1 d0 d1 hmm hnn cmm cnn cn1 fn1
        generalize (w11.setCell ⟨pm, 0, none⟩ (.bool false)).setCell ⟨pn, 0, none⟩ (.bool false) = w12 at *
        refine (same_true _ _ za w12 ISa.out IAa.out).mono ?_
        rintro e w13 ⟨rfl, b13⟩
        obtain ⟨c0, c1⟩ := (BM2.out.on b13).c
        obtain ⟨d0, d1⟩ := (BN2.out.on b13).c
        have Z2b := hid (Z2a.out.on b13)
        have Y3b := hid (Y3a.out.on b13)
        have RRb := hid (RRa.out.below b13)
        have RBb := hid (RBa.out.below b13)
        have HBb := hid (Bt HBa.out b13)
        have GM : Hid (goodB false lr = true) := goodB_mk (goodB_tr GR.out) (goodB_len GR.out) (fun _ => rfl)
        have GN : Hid (goodB false l' = true) := goodB_mk (goodB_tr G2.out) (goodB_len G2.out) (fun _ => rfl)
        have hcmp : cmpR false false (val B32 lr) (val B32 l') = -1 := by
          have h1 := ER.out
          rw [HZA.out, HZB.out] at h1
          have h3 := rest_lt (h1.symm) hvp.out
          rw [cmpR_eq]; simp [cmpN, h3]
        have HCM : Hid (Calls Try.prog 14 #[.agg #[.bool false, .slice ar nr cr], .agg #[.bool false, .slice ao' n' cap']] w13 fun e w' => e = .returned (.int .i64 (-1)) ∧ Below w13.heap.size w13 w') := by
          have := cmp_any false false ar ao' nr cr n' cap' lr l' w13 RRb.out RBb.out GM.out GN.out
          rw [hcmp] at this; exact this
        clear b13 hcmp
        go_wp2_with fail
        clear c0 c1 d0 d1
        refine HCM.out.mono ?_
        rintro e w14 ⟨rfl, b14⟩
        have HBc := hid (Bt HBb.out b14)
        obtain ⟨c0, c1⟩ := (Z2b.out.on b14).c
        obtain ⟨d0, d1⟩ := (Y3b.out.on b14).c
        clear b14
        by_cases hr0 : nr = 0
        · subst hr0
          go_wp2_with (go_at_call 9; refine (awake_any _).mono ?_; rintro e w9 ⟨rfl, b9⟩)
          go_ret
          exact ⟨rfl, Bt HBc.out b9⟩
        · have e1 : ((nr : Int) == 0) = false := by simp; omega
          have hsr : sr = neg := by
            have h1 := ER.out
            rw [HZA.out, HZB.out] at h1
            exact rest_sign GR.out h1.symm (fun e => hr0 (by rw [← RRb.out.len, e]; rfl))
          have e2 : (sr == neg) = true := by simp [hsr]
          clear hsr
          go_wp2_with (go_at_call 9; refine (awake_any _).mono ?_; rintro e w9 ⟨rfl, b9⟩)
          go_ret
          exact ⟨rfl, Bt HBc.out b9⟩
      · have v : Below w10.heap.size w10 ((w10.alloc (.cells #[.bool neg', .slice ao' n' cap'] 24)).alloc (.cells #[.bool sr, .slice ar nr cr] 24)).drew := Bt (Baa w10 (.cells #[.bool neg', .slice ao' n' cap'] 24) (.cells #[.bool sr, .slice ar nr cr] 24)) (Bd _ 1)
        have bm : Box 24 ((w10.alloc (.cells #[.bool neg', .slice ao' n' cap'] 24)).alloc (.cells #[.bool sr, .slice ar nr cr] 24)).drew (w10.heap.size + 1) sr ar nr cr := by
          have := (Box.new 24 (w10.alloc (.cells #[.bool neg', .slice ao' n' cap'] 24)) sr ar nr cr).on (Bd _ 1)
          rwa [size_alloc] at this
        have bn : Box 24 ((w10.alloc (.cells #[.bool neg', .slice ao' n' cap'] 24)).alloc (.cells #[.bool sr, .slice ar nr cr] 24)).drew w10.heap.size neg' ao' n' cap' := ((Box.new 24 w10 neg' ao' n' cap').alloc (.cells #[.bool sr, .slice ar nr cr] 24)).on (Bd _ 1)
        obtain ⟨pm, hpm⟩ : ∃ g, g = (w10.heap.size + 1) := ⟨_, rfl⟩
        obtain ⟨pn, hpn⟩ : ∃ g, g = w10.heap.size := ⟨_, rfl⟩
        have hne : pm ≠ pn := by rw [hpm, hpn]; omega
        have hm1 : w10.heap.size ≤ pm := by rw [hpm]; omega
        have hm2 : w10.heap.size ≤ pn := by rw [hpn]; omega
        clear k1 k2 k3 k4 k5 k6 k7 k8 c0 c1 d0 d1
        rw [← hpm] at bm
        rw [← hpn] at bn
        rw [← hpm, ← hpn]
        clear hpm hpn
        generalize ((w10.alloc (.cells #[.bool neg', .slice ao' n' cap'] 24)).alloc (.cells #[.bool sr, .slice ar nr cr] 24)).drew = w11 at *
        have hmm := bm.f.1
        have hnn := bn.f.1
        have cmm := bm.c.1
        have cnn := bn.c.1
        have hW1 := w11.setCell ⟨pm, 0, none⟩ (.bool false)
        have bm1 := bm.set0 false
        have bn1 := bn.far1 (q := pm) (fun e => hne e.symm) 0 (.bool false)
        have bm2 := bm1.far1 (q := pn) hne 0 (.bool false)
        have bn2 := bn1.set0 false
        have far2 : ∀ {q x a m c}, Box 24 w10 q x a m c → Box 24 ((w11.setCell ⟨pm, 0, none⟩ (.bool false)).setCell ⟨pn, 0, none⟩ (.bool false)) q x a m c := fun h =>
          ((h.on v).far1 (q := pm) (by have := h.lt; omega) 0 (.bool false)).far1 (q := pn) (by have := h.lt; omega) 0 (.bool false)
        have irow : ∀ {a n c l}, Row .u32 B32 w10 a n c l → Row .u32 B32 ((w11.setCell ⟨pm, 0, none⟩ (.bool false)).setCell ⟨pn, 0, none⟩ (.bool false)) a n c l := fun h => ((h.below v).setBox bm 0 (.bool false)).setBox bn1 0 (.bool false)
        have Z2a := hid (far2 Z2.out)
        have Y3a := hid (far2 Y3.out)
        have Z4a := hid (far2 Z4.out)
        have BM2 := hid bm2
        have BN2 := hid bn2
        have IAa := hid (isint_of irow IA9.out)
        have ISa := hid (isint_of irow IS9.out)
        have RRa := hid (irow RR9.out)
        have RBa := hid (irow R9'.out)
        have HBa := hid (((Bt HB9.out v).setCell (p := ⟨pm, 0, none⟩) (by have := HB9.out.size; simp; omega) (.bool false)).setCell (p := ⟨pn, 0, none⟩) (by have := HB9.out.size; simp; omega) (.bool false))
        have cn1 := bn1.c.1
        have fn1 := bn1.f.1
        clear bm bn bm1 bm2 bn2 bn1 far2 irow hW1 v Z2 Y3 Y4 Z4 IA9 IS9 RR9 R9' HB9
        obtain ⟨c0, c1⟩ := Z4a.out.c
        obtain ⟨d0, d1⟩ := Y3a.out.c
        go_wp2_with fail
        clear c0 c1 d0 d1 hmm hnn cmm cnn cn1 fn1
        generalize (w11.setCell ⟨pm, 0, none⟩ (.bool false)).setCell ⟨pn, 0, none⟩ (.bool false) = w12 at *
        refine (same_true _ _ za w12 ISa.out IAa.out).mono ?_
        rintro e w13 ⟨rfl, b13⟩
        obtain ⟨c0, c1⟩ := (BM2.out.on b13).c
        obtain ⟨d0, d1⟩ := (BN2.out.on b13).c
        have Z2b := hid (Z2a.out.on b13)
        have Y3b := hid (Y3a.out.on b13)
        have RRb := hid (RRa.out.below b13)
        have RBb := hid (RBa.out.below b13)
        have HBb := hid (Bt HBa.out b13)
        have GM : Hid (goodB false lr = true) := goodB_mk (goodB_tr GR.out) (goodB_len GR.out) (fun _ => rfl)
        have GN : Hid (goodB false l' = true) := goodB_mk (goodB_tr G2.out) (goodB_len G2.out) (fun _ => rfl)
        have hcmp : cmpR false false (val B32 lr) (val B32 l') = -1 := by
          have h1 := ER.out
          rw [HZA.out, HZB.out] at h1
          have h3 := rest_lt (h1.symm) hvp.out
          rw [cmpR_eq]; simp [cmpN, h3]
        have HCM : Hid (Calls Try.prog 14 #[.agg #[.bool false, .slice ar nr cr], .agg #[.bool false, .slice ao' n' cap']] w13 fun e w' => e = .returned (.int .i64 (-1)) ∧ Below w13.heap.size w13 w') := by
          have := cmp_any false false ar ao' nr cr n' cap' lr l' w13 RRb.out RBb.out GM.out GN.out
          rw [hcmp] at this; exact this
        clear b13 hcmp
        go_wp2_with fail
        clear c0 c1 d0 d1
        refine HCM.out.mono ?_
        rintro e w14 ⟨rfl, b14⟩
        have HBc := hid (Bt HBb.out b14)
        obtain ⟨c0, c1⟩ := (Z2b.out.on b14).c
        obtain ⟨d0, d1⟩ := (Y3b.out.on b14).c
        clear b14
        by_cases hr0 : nr = 0
        · subst hr0
          go_wp2_with (go_at_call 9; refine (awake_any _).mono ?_; rintro e w9 ⟨rfl, b9⟩)
          go_ret
          exact ⟨rfl, Bt HBc.out b9⟩
        · have e1 : ((nr : Int) == 0) = false := by simp; omega
          have hsr : sr = neg := by
            have h1 := ER.out
            rw [HZA.out, HZB.out] at h1
            exact rest_sign GR.out h1.symm (fun e => hr0 (by rw [← RRb.out.len, e]; rfl))
          have e2 : (sr == neg) = true := by simp [hsr]
          clear hsr
          go_wp2_with (go_at_call 9; refine (awake_any _).mono ?_; rintro e w9 ⟨rfl, b9⟩)
          go_ret
          exact ⟨rfl, Bt HBc.out b9⟩

end Go.Proofs.Ytaenegcnobindab
