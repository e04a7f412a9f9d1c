/-
  Walk: ArithParts.
-/
import Derived.Test.YtdekkieajffblaaArg
set_option linter.unusedVariables false
set_option linter.unusedSimpArgs false
set_option maxRecDepth 100000
namespace Go.Proofs.Ytdekkieajffblaa
open Go.RowKit

theorem quot_small {a b : Int} (h : ¬ Big a.natAbs) : ¬ Big (a.tdiv b * b).natAbs := by
  refine not_big_le (v := a.natAbs) ?_ h
  rw [Int.natAbs_mul, Int.natAbs_tdiv]
  exact Nat.div_mul_le_self _ _
theorem modZ_off {a b : Int} : a.tmod b + -modZ a b = 0 ∨ a.tmod b + -modZ a b = -b := by
  unfold modZ
  split
  · right; omega
  · left; omega
theorem modZ_sign {a b : Int} (h0 : b ≠ 0) : modZ a b = 0 ∨ decide (modZ a b < 0) = decide (b < 0) := by
  have h1 := tmod_abs (a := a) h0
  unfold modZ
  generalize a.tmod b = r at *
  split
  · rename_i h
    right
    by_cases h2 : r < 0 <;> by_cases h3 : b < 0 <;> simp [h2, h3] at h ⊢ <;> omega
  · rename_i h
    by_cases hr : r = 0
    · left; exact hr
    · right
      apply Classical.byContradiction
      intro e
      exact h ⟨hr, e⟩
theorem modZ_small {a b : Int} (h0 : b ≠ 0) (hb : ¬ Big b.natAbs) : ¬ Big (modZ a b).natAbs := by
  unfold modZ
  split
  · rename_i h
    exact mod_small h0 hb h.2
  · refine not_big_le (v := b.natAbs) ?_ hb
    have := tmod_abs (a := a) h0
    omega
theorem reckp4 {a b : Int} (h0 : b ≠ 0) : reckM 4 a b = (a.tdiv b, 0) := by
  show (if b = 0 then ((0 : Int), (11 : Int)) else (a.tdiv b, 0)) = _
  rw [if_neg h0]
theorem reckp5 {a b : Int} (h0 : b ≠ 0) : reckM 5 a b = (a.tmod b, 0) := by
  show (if b = 0 then ((0 : Int), (11 : Int)) else (a.tmod b, 0)) = _
  rw [if_neg h0]
theorem reckp6 {a b : Int} (h0 : b ≠ 0) : reckM 6 a b = (modZ a b, 0) := by
  show (if b = 0 then ((0 : Int), (11 : Int)) else (modZ a b, 0)) = _
  rw [if_neg h0]
theorem reckp3 {a b : Int} (h : ¬ Big a.natAbs) : reckM 3 (a.tdiv b) b = (a.tdiv b * b, 0) := by
  show bigZ (a.tdiv b * b) = _
  rw [bigZ_small (quot_small h)]
theorem reckp1 {a b : Int} (h : ¬ Big a.natAbs) : reckM 1 (a.tdiv b * b) (a.tmod b) = (a, 0) := by
  show bigZ (a.tdiv b * b + a.tmod b) = _
  rw [Int.tdiv_mul_add_tmod, bigZ_small h]
theorem reckp2 {a b : Int} (h : ¬ Big b.natAbs) : reckM 2 (a.tmod b) (modZ a b) = (a.tmod b + -modZ a b, 0) := by
  show bigZ (a.tmod b + -modZ a b) = _
  refine bigZ_small ?_
  rcases modZ_off (a := a) (b := b) with e | e
  · rw [e]; exact not_big_64 _ (by decide)
  · rw [e, Int.natAbs_neg]; exact h
theorem reckp7 {a b : Int} (h0 : b ≠ 0) : reckM 5 (a.tmod b + -modZ a b) b = (0, 0) := by
  rw [reckp5 h0]
  rcases modZ_off (a := a) (b := b) with e | e
  · rw [e, Int.zero_tmod]
  · rw [e, Int.neg_tmod, Int.tmod_self]; rfl
theorem zrow_one {w : World} {g : Nat} {s : Bool} {a : Option Addr} {m c : Nat} {l : List Nat} {t : TypeId} (h : w.heap[g]? = some (.cells #[.bool s, .slice a m c] t (0, 0))) (R : Row .u32 B32 w a m c l) : ZRow w (some ⟨g, 0, none⟩) 1 1 [(s, l)] := by
  refine ⟨rfl, Nat.le_refl _, by unfold maxLen; omega, fun e => (by cases e), .inr ⟨g, 0, rfl, (Array.getElem?_eq_some_iff.1 h).1, fun i hi => ?_⟩⟩
  match i, hi with
  | 0, _ => exact ⟨blk_cell h 0, a, m, c, blk_cell h 1, R⟩
theorem one_good {w : World} {g : Nat} {s : Bool} {a : Option Addr} {m c : Nat} {z : Int} {t : TypeId} (h : w.heap[g]? = some (.cells #[.bool s, .slice a m c] t (0, 0))) (hi : IsInt w (.agg #[.bool s, .slice a m c]) z) :
    Calls Try.prog 7 #[.slice (some ⟨g, 0, none⟩) 1 1] w fun e w' => e = .returned (.bool true) ∧ Below w.heap.size w w' := by
  obtain ⟨s', ao', n', cap', l, e, R, gd, _⟩ := hi.open_
  cases e
  have := zgood_any _ 1 1 _ w (zrow_one h R) (by omega)
  have e : [(s, l)].all goodZ = true := by simp [goodZ, gd]
  rw [e] at this
  exact this
set_option maxHeartbeats 8000000 in
theorem arithParts_walk (neg : Bool) (ao : Option Addr) (n cap : Nat) (l : List Nat) (neg' : Bool) (ao' : Option Addr) (n' cap' : Nat) (l' : List Nat) (w : World) (R : Row .u32 B32 w ao n cap l) (R' : Row .u32 B32 w ao' n' cap' l') :
    Calls Try.prog 5 #[.agg #[.bool neg, .slice ao n cap], .agg #[.bool neg', .slice ao' n' cap']] w fun e w' => e = .returned (.bool true) ∧ Below w.heap.size w w' := by
  have hmx' := R'.most
  have hft' := R'.fits
  unfold maxLen at hmx'
  have b0 := Baa w (.cells #[.bool neg, .slice ao n cap] 24) (.cells #[.bool neg', .slice ao' n' cap'] 24)
  have x1 := (Box.new 24 w neg ao n cap).alloc (.cells #[.bool neg', .slice ao' n' cap'] 24)
  have x2 := Box.new 24 (w.alloc (.cells #[.bool neg, .slice ao n cap] 24)) neg' ao' n' cap'
  rw [size_alloc] at x2
  obtain ⟨W0, hW0⟩ : ∃ W, W = (w.alloc (.cells #[.bool neg, .slice ao n cap] 24)).alloc (.cells #[.bool neg', .slice ao' n' cap'] 24) := ⟨_, rfl⟩
  rw [← hW0] at b0 x1 x2
  have hs0 : W0.heap.size = w.heap.size + 1 + 1 := by rw [hW0, size_alloc, size_alloc]
  have b1 := Ba W0 (.cells #[.bool neg, .slice ao n cap, .bool neg', .slice ao' n' cap'] 24)
  have hblk := blk_new W0 #[.bool neg, .slice ao n cap, .bool neg', .slice ao' n' cap'] 24
  rw [hs0] at hblk
  have CG := hid (two_good neg neg' ao ao' n cap n' cap' l l' w _ _ _ R R' (Bt b0 b1) hblk)
  obtain ⟨c0, c1⟩ := x1.c
  obtain ⟨c2, c3⟩ := x2.c
  have CA := hid (fun W : World => arawake_any W)
  have HB1 := hid (Bt b0 b1)
  have HX1 := hid (x1.on b1)
  have HX2 := hid (x2.on b1)
  have HA : Hid (goodB neg l = true → IsInt w (.agg #[.bool neg, .slice ao n cap]) (sgn neg (val B32 l))) := fun g => ⟨neg, l, ⟨ao, n, cap, rfl, R⟩, g, rfl⟩
  have HB : Hid (goodB neg' l' = true → IsInt w (.agg #[.bool neg', .slice ao' n' cap']) (sgn neg' (val B32 l'))) := fun g => ⟨neg', l', ⟨ao', n', cap', rfl, R'⟩, g, rfl⟩
  obtain ⟨a, ha⟩ : ∃ a, a = sgn neg (val B32 l) := ⟨_, rfl⟩
  obtain ⟨b, hb⟩ : ∃ a, a = sgn neg' (val B32 l') := ⟨_, rfl⟩
  obtain ⟨g1, hg1⟩ : ∃ g, g = goodB neg l := ⟨_, rfl⟩
  obtain ⟨g2, hg2⟩ : ∃ g, g = goodB neg' l' := ⟨_, rfl⟩
  rw [← ha, ← hg1] at HA
  rw [← hb, ← hg2] at HB
  rw [← hg1, ← hg2] at CG
  rw [hW0] at c0 c1 c2 c3 CG
  have HW0 := hid hW0
  clear R R' b0 b1 x1 x2 hblk hs0 ha hb hg1 hg2 hW0
  by_cases hg : (g1 && g2) = true
  · rw [hg] at CG
    rw [Bool.and_eq_true] at hg
    have HA := hid (HA.out hg.1)
    have HB := hid (HB.out hg.2)
    clear hg
    by_cases hn0 : n' = 0
    · subst hn0
      go_enter Try.func5, Try.ntmps5
      go_wp2_with (first
        | (go_at_call 7; (with_reducible refine CG.out.mono ?_); rintro e W1 ⟨rfl, v1⟩; rw [← HW0.out] at v1; have HB2 := hid (Bt HB1.out v1); clear c0 c1 c2 c3; obtain ⟨c2, c3⟩ := (HX2.out.on v1).c; clear v1)
        | (go_at_call 8; (with_reducible refine (CA.out _).mono ?_); rintro e W2 ⟨rfl, v2⟩; have HB3 := hid (Bt HB2.out v2); clear v2))
      go_ret
      exact ⟨rfl, HB3.out⟩
    have e0 : ((n' : Int) == 0) = false := by simp; omega
    obtain ⟨pa1, pa2, pa3, pa4, pa5, pa6, pa7⟩ := HA.out.parts
    obtain ⟨pb1, pb2, pb3, pb4, pb5, pb6, pb7⟩ := HB.out.parts
    have hb0 : b ≠ 0 := fun e => hn0 (pb1.2 e)
    have CR := fun (op : Int) (x y : Value) (za zb : Int) (W : World) (hx : IsInt W x za) (hy : IsInt W y zb) => reckon_any op x y za zb W hx hy
    obtain ⟨q, hq⟩ : ∃ q, q = a.tdiv b := ⟨_, rfl⟩
    obtain ⟨r, hr⟩ : ∃ r, r = a.tmod b := ⟨_, rfl⟩
    obtain ⟨m, hm⟩ : ∃ m, m = modZ a b := ⟨_, rfl⟩
    obtain ⟨d, hd⟩ : ∃ d, d = r + -m := ⟨_, rfl⟩
    obtain ⟨p, hp⟩ : ∃ p, p = q * b := ⟨_, rfl⟩
    have CQ : Hid (∀ (x y : Value) (W : World), IsInt W x a → IsInt W y b → Calls Try.prog 9 #[.int .i64 4, x, y] W (RkPost W (q, 0))) := fun x y W hx hy => by
      have h := CR 4 x y _ _ W hx hy
      have e : reckM 4 a b = (q, 0) := by
        subst hp hd hq hr hm
        exact reckp4 hb0
      rw [e] at h; exact h
    have CR_ : Hid (∀ (x y : Value) (W : World), IsInt W x a → IsInt W y b → Calls Try.prog 9 #[.int .i64 5, x, y] W (RkPost W (r, 0))) := fun x y W hx hy => by
      have h := CR 5 x y _ _ W hx hy
      have e : reckM 5 a b = (r, 0) := by
        subst hp hd hq hr hm
        exact reckp5 hb0
      rw [e] at h; exact h
    have CM : Hid (∀ (x y : Value) (W : World), IsInt W x a → IsInt W y b → Calls Try.prog 9 #[.int .i64 6, x, y] W (RkPost W (m, 0))) := fun x y W hx hy => by
      have h := CR 6 x y _ _ W hx hy
      have e : reckM 6 a b = (m, 0) := by
        subst hp hd hq hr hm
        exact reckp6 hb0
      rw [e] at h; exact h
    have CP : Hid (∀ (x y : Value) (W : World), IsInt W x q → IsInt W y b → Calls Try.prog 9 #[.int .i64 3, x, y] W (RkPost W (p, 0))) := fun x y W hx hy => by
      have h := CR 3 x y _ _ W hx hy
      have e : reckM 3 q b = (p, 0) := by
        subst hp hd hq hr hm
        exact reckp3 pa3
      rw [e] at h; exact h
    have CS : Hid (∀ (x y : Value) (W : World), IsInt W x p → IsInt W y r → Calls Try.prog 9 #[.int .i64 1, x, y] W (RkPost W (a, 0))) := fun x y W hx hy => by
      have h := CR 1 x y _ _ W hx hy
      have e : reckM 1 p r = (a, 0) := by
        subst hp hd hq hr hm
        exact reckp1 pa3
      rw [e] at h; exact h
    have CD : Hid (∀ (x y : Value) (W : World), IsInt W x r → IsInt W y m → Calls Try.prog 9 #[.int .i64 2, x, y] W (RkPost W (d, 0))) := fun x y W hx hy => by
      have h := CR 2 x y _ _ W hx hy
      have e : reckM 2 r m = (d, 0) := by
        subst hp hd hq hr hm
        exact reckp2 pb3
      rw [e] at h; exact h
    have CZ : Hid (∀ (x y : Value) (W : World), IsInt W x d → IsInt W y b → Calls Try.prog 9 #[.int .i64 5, x, y] W (RkPost W (0, 0))) := fun x y W hx hy => by
      have h := CR 5 x y _ _ W hx hy
      have e : reckM 5 d b = (0, 0) := by
        subst hp hd hq hr hm
        exact reckp7 hb0
      rw [e] at h; exact h
    unfold RkPost at CQ CR_ CM CP CS CD CZ
    have hms := modZ_sign (a := a) hb0
    rw [← hm, ← pb2] at hms
    have HMS := hid hms
    clear CR hq hr hm hd hp hms pa1 pa2 pa3 pa4 pa5 pa6 pa7 pb1 pb2 pb3 pb4 pb5 pb6 pb7 hb0
    go_enter Try.func5, Try.ntmps5
    go_wp2_with fail
    (with_reducible refine CG.out.mono ?_)
    rintro e W1 ⟨rfl, v1⟩
    rw [← HW0.out] at v1
    have HBw1 := hid (Bt HB1.out v1)
    have YA1 := hid (HX1.out.on v1)
    have YB1 := hid (HX2.out.on v1)
    have IA1 := hid (HA.out.below HBw1.out)
    have IB1 := hid (HB.out.below HBw1.out)
    clear c0 c1 c2 c3 v1 HX1 HX2 HB1
    obtain ⟨c0, c1⟩ := YA1.out.c
    obtain ⟨c2, c3⟩ := YB1.out.c
    go_wp2_with fail
    clear c0 c1 c2 c3
    (with_reducible refine (CQ.out _ _ W1 IA1.out IB1.out).mono ?_)
    rintro e V2 ⟨sq, aq, nq, kq, rfl, iq, v2⟩
    have u2 := Ba V2 (.cells #[.bool sq, .slice aq nq kq] 24)
    have YQ2 := hid (Box.new 24 V2 sq aq nq kq)
    have IQ2 := hid (iq.below u2)
    have t2 := Bt v2 u2
    have YA2 := hid (YA1.out.on t2)
    have IA2 := hid (IA1.out.below t2)
    have YB2 := hid (YB1.out.on t2)
    have IB2 := hid (IB1.out.below t2)
    have HBw2 := hid (Bt HBw1.out t2)
    clear iq v2 u2 t2 HBw1 YA1 IA1 YB1 IB1
    obtain ⟨c0, c1⟩ := YA2.out.c
    obtain ⟨c2, c3⟩ := YB2.out.c
    go_wp2_with fail
    clear c0 c1 c2 c3
    obtain ⟨gq, hgq⟩ : ∃ g, g = V2.heap.size := ⟨_, rfl⟩
    rw [← hgq] at YQ2 ⊢
    generalize V2.alloc (.cells #[.bool sq, .slice aq nq kq] 24) = W2 at *
    clear hgq
    (with_reducible refine (CR_.out _ _ W2 IA2.out IB2.out).mono ?_)
    rintro e V3 ⟨sr, ar, nr, kr, rfl, ir, v3⟩
    have u3 := Ba V3 (.cells #[.bool sr, .slice ar nr kr] 24)
    have YR3 := hid (Box.new 24 V3 sr ar nr kr)
    have IR3 := hid (ir.below u3)
    have t3 := Bt v3 u3
    have YA3 := hid (YA2.out.on t3)
    have IA3 := hid (IA2.out.below t3)
    have YB3 := hid (YB2.out.on t3)
    have IB3 := hid (IB2.out.below t3)
    have YQ3 := hid (YQ2.out.on t3)
    have IQ3 := hid (IQ2.out.below t3)
    have HBw3 := hid (Bt HBw2.out t3)
    clear ir v3 u3 t3 HBw2 YA2 IA2 YB2 IB2 YQ2 IQ2
    obtain ⟨c0, c1⟩ := YA3.out.c
    obtain ⟨c2, c3⟩ := YB3.out.c
    go_wp2_with fail
    clear c0 c1 c2 c3
    obtain ⟨gr, hgr⟩ : ∃ g, g = V3.heap.size := ⟨_, rfl⟩
    rw [← hgr] at YR3 ⊢
    generalize V3.alloc (.cells #[.bool sr, .slice ar nr kr] 24) = W3 at *
    clear hgr
    (with_reducible refine (CM.out _ _ W3 IA3.out IB3.out).mono ?_)
    rintro e V4 ⟨sm, am, nm, km, rfl, im, v4⟩
    have u4 := Ba V4 (.cells #[.bool sm, .slice am nm km] 24)
    have YM4 := hid (Box.new 24 V4 sm am nm km)
    have IM4 := hid (im.below u4)
    have t4 := Bt v4 u4
    have YA4 := hid (YA3.out.on t4)
    have IA4 := hid (IA3.out.below t4)
    have YB4 := hid (YB3.out.on t4)
    have IB4 := hid (IB3.out.below t4)
    have YQ4 := hid (YQ3.out.on t4)
    have IQ4 := hid (IQ3.out.below t4)
    have YR4 := hid (YR3.out.on t4)
    have IR4 := hid (IR3.out.below t4)
    have HBw4 := hid (Bt HBw3.out t4)
    clear im v4 u4 t4 HBw3 YA3 IA3 YB3 IB3 YQ3 IQ3 YR3 IR3
    obtain ⟨c0, c1⟩ := YQ4.out.c
    obtain ⟨c2, c3⟩ := YB4.out.c
    go_wp2_with fail
    clear c0 c1 c2 c3
    obtain ⟨gm, hgm⟩ : ∃ g, g = V4.heap.size := ⟨_, rfl⟩
    rw [← hgm] at YM4 ⊢
    generalize V4.alloc (.cells #[.bool sm, .slice am nm km] 24) = W4 at *
    clear hgm
    (with_reducible refine (CP.out _ _ W4 IQ4.out IB4.out).mono ?_)
    rintro e V5 ⟨sp, ap, np, kp, rfl, ip, v5⟩
    have u5 := Ba V5 (.cells #[.bool sp, .slice ap np kp] 24)
    have YP5 := hid (Box.new 24 V5 sp ap np kp)
    have IP5 := hid (ip.below u5)
    have t5 := Bt v5 u5
    have YA5 := hid (YA4.out.on t5)
    have IA5 := hid (IA4.out.below t5)
    have YB5 := hid (YB4.out.on t5)
    have IB5 := hid (IB4.out.below t5)
    have YQ5 := hid (YQ4.out.on t5)
    have IQ5 := hid (IQ4.out.below t5)
    have YR5 := hid (YR4.out.on t5)
    have IR5 := hid (IR4.out.below t5)
    have YM5 := hid (YM4.out.on t5)
    have IM5 := hid (IM4.out.below t5)
    have HBw5 := hid (Bt HBw4.out t5)
    clear ip v5 u5 t5 HBw4 YA4 IA4 YB4 IB4 YQ4 IQ4 YR4 IR4 YM4 IM4
    obtain ⟨c0, c1⟩ := YP5.out.c
    obtain ⟨c2, c3⟩ := YR5.out.c
    go_wp2_with fail
    clear c0 c1 c2 c3
    obtain ⟨gp, hgp⟩ : ∃ g, g = V5.heap.size := ⟨_, rfl⟩
    rw [← hgp] at YP5 ⊢
    generalize V5.alloc (.cells #[.bool sp, .slice ap np kp] 24) = W5 at *
    clear hgp
    (with_reducible refine (CS.out _ _ W5 IP5.out IR5.out).mono ?_)
    rintro e V6 ⟨sv, av, nv, kv, rfl, iv, v6⟩
    have u6 := Ba V6 (.cells #[.bool sv, .slice av nv kv] 24)
    have YS6 := hid (Box.new 24 V6 sv av nv kv)
    have IS6 := hid (iv.below u6)
    have t6 := Bt v6 u6
    have YA6 := hid (YA5.out.on t6)
    have IA6 := hid (IA5.out.below t6)
    have YB6 := hid (YB5.out.on t6)
    have IB6 := hid (IB5.out.below t6)
    have YQ6 := hid (YQ5.out.on t6)
    have IQ6 := hid (IQ5.out.below t6)
    have YR6 := hid (YR5.out.on t6)
    have IR6 := hid (IR5.out.below t6)
    have YM6 := hid (YM5.out.on t6)
    have IM6 := hid (IM5.out.below t6)
    have YP6 := hid (YP5.out.on t6)
    have IP6 := hid (IP5.out.below t6)
    have HBw6 := hid (Bt HBw5.out t6)
    clear iv v6 u6 t6 HBw5 YA5 IA5 YB5 IB5 YQ5 IQ5 YR5 IR5 YM5 IM5 YP5 IP5
    obtain ⟨c0, c1⟩ := YS6.out.c
    obtain ⟨c2, c3⟩ := YA6.out.c
    go_wp2_with fail
    clear c0 c1 c2 c3
    obtain ⟨gv, hgv⟩ : ∃ g, g = V6.heap.size := ⟨_, rfl⟩
    rw [← hgv] at YS6 ⊢
    generalize V6.alloc (.cells #[.bool sv, .slice av nv kv] 24) = W6 at *
    clear hgv
    (with_reducible refine (zsame_true _ _ a W6 IS6.out IA6.out).mono ?_)
    rintro e W7 ⟨rfl, t7⟩
    have YB7 := hid (YB6.out.on t7)
    have IB7 := hid (IB6.out.below t7)
    have YR7 := hid (YR6.out.on t7)
    have IR7 := hid (IR6.out.below t7)
    have YM7 := hid (YM6.out.on t7)
    have IM7 := hid (IM6.out.below t7)
    have HBw7 := hid (Bt HBw6.out t7)
    clear t7 HBw6 YA6 IA6 YB6 IB6 YQ6 IQ6 YR6 IR6 YM6 IM6 YP6 IP6 YS6 IS6
    have um := Ba W7 (.cells #[.bool sm, .slice am nm km] 24)
    have CGM := hid (one_good (blk_new W7 #[.bool sm, .slice am nm km] 24) (IM7.out.below um))
    obtain ⟨c0, c1⟩ := YM7.out.c
    go_wp2_with fail
    clear c0 c1
    (with_reducible refine CGM.out.mono ?_)
    rintro e W8 ⟨rfl, tt⟩
    have t8 := Bt um tt
    have YB8 := hid (YB7.out.on t8)
    have IB8 := hid (IB7.out.below t8)
    have YR8 := hid (YR7.out.on t8)
    have IR8 := hid (IR7.out.below t8)
    have YM8 := hid (YM7.out.on t8)
    have IM8 := hid (IM7.out.below t8)
    have HBw8 := hid (Bt HBw7.out t8)
    clear t8 tt um CGM HBw7 YB7 IB7 YR7 IR7 YM7 IM7
    obtain ⟨c0, c1⟩ := YR8.out.c
    obtain ⟨c2, c3⟩ := YM8.out.c
    go_wp2_with fail
    clear c0 c1 c2 c3
    (with_reducible refine (CD.out _ _ W8 IR8.out IM8.out).mono ?_)
    rintro e V9 ⟨se, ae, ne, ke, rfl, ie, v9⟩
    have u9 := Ba V9 (.cells #[.bool se, .slice ae ne ke] 24)
    have YD9 := hid (Box.new 24 V9 se ae ne ke)
    have ID9 := hid (ie.below u9)
    have t9 := Bt v9 u9
    have YB9 := hid (YB8.out.on t9)
    have IB9 := hid (IB8.out.below t9)
    have YR9 := hid (YR8.out.on t9)
    have IR9 := hid (IR8.out.below t9)
    have YM9 := hid (YM8.out.on t9)
    have IM9 := hid (IM8.out.below t9)
    have HBw9 := hid (Bt HBw8.out t9)
    clear ie v9 u9 t9 HBw8 YB8 IB8 YR8 IR8 YM8 IM8
    obtain ⟨c0, c1⟩ := YD9.out.c
    obtain ⟨c2, c3⟩ := YB9.out.c
    go_wp2_with fail
    clear c0 c1 c2 c3
    obtain ⟨ge, hge⟩ : ∃ g, g = V9.heap.size := ⟨_, rfl⟩
    rw [← hge] at YD9 ⊢
    generalize V9.alloc (.cells #[.bool se, .slice ae ne ke] 24) = W9 at *
    clear hge
    (with_reducible refine (CZ.out _ _ W9 ID9.out IB9.out).mono ?_)
    rintro e V10 ⟨sz, az, nz, kz, rfl, iz, v10⟩
    have u10 := Ba V10 (.cells #[.bool sz, .slice az nz kz] 24)
    have YZ10 := hid (Box.new 24 V10 sz az nz kz)
    have IZ10 := hid (iz.below u10)
    have t10 := Bt v10 u10
    have YB10 := hid (YB9.out.on t10)
    have IB10 := hid (IB9.out.below t10)
    have YR10 := hid (YR9.out.on t10)
    have IR10 := hid (IR9.out.below t10)
    have YM10 := hid (YM9.out.on t10)
    have IM10 := hid (IM9.out.below t10)
    have YD10 := hid (YD9.out.on t10)
    have ID10 := hid (ID9.out.below t10)
    have HBw10 := hid (Bt HBw9.out t10)
    clear iz v10 u10 t10 HBw9 YB9 IB9 YR9 IR9 YM9 IM9 YD9 ID9
    obtain ⟨pz1, pz2, pz3, pz4, pz5, pz6, pz7⟩ := IZ10.out.parts
    have hnz : nz = 0 := pz1.2 rfl
    obtain ⟨pm1, pm2, pm3, pm4, pm5, pm6, pm7⟩ := IM10.out.parts
    have HM0 : Hid (nm = 0 ∨ sm = neg') := by
      rcases HMS.out with h | h
      · exact .inl (pm1.2 h)
      · exact .inr (by rw [pm2]; exact h)
    clear pz1 pz2 pz3 pz4 pz7 pm1 pm2 pm3 pm7
    subst hnz
    obtain ⟨c0, c1⟩ := YZ10.out.c
    obtain ⟨c2, c3⟩ := YM10.out.c
    obtain ⟨c4, c5⟩ := YB10.out.c
    by_cases hnm : nm = 0
    · subst hnm
      go_wp2_with (go_at_call 8; (with_reducible refine (CA.out _).mono ?_); rintro e We ⟨rfl, ve⟩; have HBe := hid (Bt HBw10.out ve); clear ve)
      go_ret
      exact ⟨rfl, HBe.out⟩
    · have e5 : ((nm : Int) == 0) = false := by simp; omega
      obtain rfl : sm = neg' := by
        rcases HM0.out with h | h
        · exact absurd h hnm
        · exact h
      go_wp2_with (go_at_call 8; (with_reducible refine (CA.out _).mono ?_); rintro e We ⟨rfl, ve⟩; have HBe := hid (Bt HBw10.out ve); clear ve)
      go_ret
      exact ⟨by simp, HBe.out⟩
  · have hg' : (g1 && g2) = false := by simpa using hg
    rw [hg'] at CG
    clear hg hg' HA HB
    go_enter Try.func5, Try.ntmps5
    go_wp2_with (first
      | (go_at_call 7; (with_reducible refine CG.out.mono ?_); rintro e W1 ⟨rfl, v1⟩; rw [← HW0.out] at v1; have HB2 := hid (Bt HB1.out v1); clear v1)
      | (go_at_call 8; (with_reducible refine (CA.out _).mono ?_); rintro e W2 ⟨rfl, v2⟩; have HB3 := hid (Bt HB2.out v2); clear v2))
    go_ret
    exact ⟨rfl, HB3.out⟩
end Go.Proofs.Ytdekkieajffblaa
