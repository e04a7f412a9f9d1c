import Derived.Test.YtdekkieajffblaaGreatDoorAR2
import Derived.Test.YtdekkieajffblaaGreatDoorAB2
import Derived.Test.YtdekkieajffblaaGreatDoorAB5
set_option linter.unusedVariables false
set_option linter.unusedSimpArgs false
set_option maxRecDepth 100000
namespace Go.Proofs.YtdekkieajffblaaGreatDoor
open Go.RowKit
theorem IsInt.parts {w : World} {s : Bool} {ao : Option Addr} {n cap : Nat} {z : Int} (h : IsInt w (.agg #[.bool s, .slice ao n cap]) z) : (n = 0 ↔ z = 0) /\ s = decide (z < 0) /\ ¬ Big z.natAbs /\ n <= 40 /\ n <= cap /\ cap <= 9223372036854775807 /\ n = (mg z.natAbs).length := by
 obtain ⟨s', ao', n', cap', l, e, R, g, rfl⟩ := h.open_
 cases e
 have hl := R.len
 have hm := R.most
 unfold maxLen at hm
 have hg := mg_of R.dg g
 refine ⟨?_, neg_good g, ?_, by rw [<- hl]; exact goodB_len g, R.fits, hm, by rw [<- hg, hl]⟩
 ·rw [sgn_zero g]
  constructor
  ·intro e; exact List.length_eq_zero_iff.1 (by omega)
  ·intro e; rw [e] at hl; simpa using hl.symm
 ·rw [natAbs_sgn]; exact good_small R g
theorem tmod_abs {a b : Int} (h : b ≠ 0) : (a.tmod b).natAbs < b.natAbs := by
 rw [Int.natAbs_tmod]
 exact Nat.mod_lt _ (by omega)
theorem mod_small {a b : Int} (h0 : b ≠ 0) (hb : ¬ Big b.natAbs) (h : decide (a.tmod b < 0) ≠ decide (b < 0)) : ¬ Big (a.tmod b + b).natAbs := by
 have h1 := tmod_abs (a := a) h0
 generalize a.tmod b = r at *
 refine not_big_le (v := b.natAbs) ?_ hb
 by_cases h2 : r < 0 <;> by_cases h3 : b < 0 <;> simp [h2, h3] at h <;> omega
theorem bigZ_small {z : Int} (h : ¬ Big z.natAbs) : bigZ z = (z, 0) := by unfold bigZ; rw [if_neg (fun e => h ((tooB_iff z).1 e))]
set_option maxHeartbeats 4000000 in
theorem modulo_any (neg neg' : Bool) (ao ao' : Option Addr) (n cap n' cap' : Nat) (a b : Int) (w : World) (ha : IsInt w (.agg #[.bool neg, .slice ao n cap]) a) (hb : IsInt w (.agg #[.bool neg', .slice ao' n' cap']) b) :
  Calls Tryz.prog 31 #[.agg #[.bool neg, .slice ao n cap], .agg #[.bool neg', .slice ao' n' cap']] w (RkPost w (if b = 0 then (0, 11) else (modZ a b, 0))) := by
 have HB := hid hb
 have CC : Hid (∀ W, Below w.heap.size w W -> Calls Tryz.prog 30 #[.agg #[.bool neg, .slice ao n cap], .agg #[.bool neg', .slice ao' n' cap']] W (DvP W a b)) := fun W h => div_p _ _ a b W (ha.below h) (hb.below h)
 unfold DvP at CC
 have CA : Hid (∀ W (s : Bool) (a' : Option Addr) (m c : Nat) (rz : Int), Below w.heap.size w W -> IsInt W (.agg #[.bool s, .slice a' m c]) rz -> Calls Tryz.prog 27 #[.agg #[.bool s, .slice a' m c], .agg #[.bool neg', .slice ao' n' cap']] W (RkPost W (bigZ (rz + b)))) := fun W s a' m c rz h hi => add_rk _ _ rz b W hi (hb.below h)
 obtain ⟨pb1, pb2, pb3, pb4, pb5, pb6, pb7⟩ := hb.parts
 obtain ⟨er, her⟩ : ∃ r : Int, r = if b = 0 then 11 else 0 := ⟨_, rfl⟩
 obtain ⟨qz, hqz⟩ : ∃ r : Int, r = if b = 0 then 0 else a.tdiv b := ⟨_, rfl⟩
 obtain ⟨rz, hrz⟩ : ∃ r : Int, r = if b = 0 then 0 else a.tmod b := ⟨_, rfl⟩
 rw [<- her, <- hqz, <- hrz] at CC
 obtain ⟨res, hres⟩ : ∃ r : Int × Int, r = if b = 0 then (0, 11) else (modZ a b, 0) := ⟨_, rfl⟩
 rw [<- hres]
 have HL : Hid (rz = 0 \/ decide (rz < 0) = neg' -> res = (rz, er)) := fun h => by
  by_cases h0 : b = 0
  ·rw [hres, hrz, her, if_pos h0, if_pos h0, if_pos h0]
  ·rw [hres, hrz, her, if_neg h0, if_neg h0, if_neg h0]
   rw [hrz, if_neg h0, pb2] at h
   unfold modZ
   rw [if_neg (fun e => by rcases h with h | h; exact e.1 h; exact e.2 h)]
 have HM : Hid (rz ≠ 0 -> decide (rz < 0) ≠ neg' -> res = bigZ (rz + b)) := fun h1 h2 => by
  have h0 : b ≠ 0 := fun e => h1 (by rw [hrz, if_pos e])
  rw [hrz, if_neg h0] at h1 h2 ⊢
  rw [pb2] at h2
  rw [hres, if_neg h0, bigZ_small (mod_small h0 pb3 h2)]
  unfold modZ
  rw [if_pos ⟨h1, h2⟩]
 clear ha hb hres her hqz hrz pb1 pb2 pb3 pb4 pb5 pb6 pb7
 go_enter Tryz.func31, Tryz.ntmps31
 go_wp2_with fail
 obtain ⟨x1, x2, x3, hb0⟩ := three_boxes 24 w neg neg' false ao ao' none n cap n' cap' 0 0 _ rfl
 generalize hW0 : (((w.alloc (.cells #[.bool neg, .slice ao n cap] 24)).alloc (.cells #[.bool neg', .slice ao' n' cap'] 24)).alloc (.cells #[.bool false, .slice none 0 0] 24)) = W0 at *
 clear hW0
 have HB0 := hid hb0
 have HX2 := hid x2
 have HX3 := hid x3
 obtain ⟨c0, c1⟩ := x1.c
 obtain ⟨c2, c3⟩ := x2.c
 go_wp2_with fail
 (with_reducible refine (CC.out W0 hb0).mono ?_)
 rintro e W1 ⟨sq, aq, nq, cq, sr, ar, nr, cr, rfl, hQ, hR, b1⟩
 obtain ⟨pr1, pr2, pr3, pr4, pr5, pr6, pr7⟩ := hR.parts
 clear pr7
 have v1 := Baa W1 (.cells #[.bool sq, .slice aq nq cq] 24) (.cells #[.bool sr, .slice ar nr cr] 24)
 have y1 := (Box.new 24 W1 sq aq nq cq).alloc (.cells #[.bool sr, .slice ar nr cr] 24)
 have y2 := Box.new 24 (W1.alloc (.cells #[.bool sq, .slice aq nq cq] 24)) sr ar nr cr
 rw [size_alloc] at y2
 have HB1 := hid (Bt b1 v1)
 have HY2 := hid y2
 have HI := hid (hR.below v1)
 have HX2' := hid ((HX2.out.on b1).on v1)
 have HX3' := hid ((HX3.out.on b1).on v1)
 obtain ⟨d0, d1⟩ := HX2'.out.c
 obtain ⟨y3, y4⟩ := y2.c
 obtain ⟨r0, r1⟩ := HX3'.out.c
 obtain ⟨f0, f1⟩ := HX3'.out.f
 clear x1 x2 x3 hb0 b1 v1 y1 y2 hQ hR c0 c1 c2 c3
 by_cases h1 : nr = 0
 ·have hl := HL.out (.inl (pr1.1 h1))
  have HLR := hid hl
  have q1 := HX3'.out.set2 sr ar nr cr
  obtain ⟨t0, t1⟩ := q1.c
  clear hl q1 pr1 pr2 pr3
  subst h1
  go_wp2_with fail
  (try simp only [Exit.inBlock, Exit.then]); refine bodyPost_ret (v := .tuple #[.agg #[.bool sr, .slice ar 0 cr], .int .i64 er]) (by simp [results, Tryz.results31, go_sem, t0, t1]) rfl ?_
  rw [HLR.out]
  exact ⟨_, _, _, _, rfl, HI.out.setBox HX3'.out _ _, store2_below (Bt HB0.out HB1.out) (by omega)⟩
 ·have e1 : 0 < nr := by omega
  by_cases h2 : sr = neg'
  ·have hl := HL.out (.inr (by rw [<- pr2]; exact h2))
   have HLR := hid hl
   have q1 := HX3'.out.set2 sr ar nr cr
   obtain ⟨t0, t1⟩ := q1.c
   have e2 : (!sr == neg') = false := by rw [h2]; simp
   clear hl q1 pr1 pr2 pr3 h1 h2
   go_wp2_with fail
   (try simp only [Exit.inBlock, Exit.then]); refine bodyPost_ret (v := .tuple #[.agg #[.bool sr, .slice ar nr cr], .int .i64 er]) (by simp [results, Tryz.results31, go_sem, t0, t1]) rfl ?_
   rw [HLR.out]
   exact ⟨_, _, _, _, rfl, HI.out.setBox HX3'.out _ _, store2_below (Bt HB0.out HB1.out) (by omega)⟩
  ·have hl := HM.out (fun e => h1 (pr1.2 e)) (by rw [<- pr2]; exact h2)
   have e2 : (!sr == neg') = true := by simpa using h2
   have C2 := hid (CA.out _ sr ar nr cr rz (Bt HB0.out HB1.out) HI.out)
   rw [<- hl] at C2
   unfold RkPost at C2
   clear hl pr1 pr2 pr3 h1 h2
   go_wp2_with (go_at_call 27; (with_reducible refine C2.out.mono ?_); rintro e W3 ⟨s3, a3, n3, k3, rfl, hI3, b3⟩; have q0 := HX3'.out.on b3; have q1 := q0.set2 s3 a3 n3 k3; clear r0 r1 f0 f1; obtain ⟨r0, r1⟩ := q0.c; obtain ⟨f0, f1⟩ := q0.f; obtain ⟨t0, t1⟩ := q1.c; have HQ := hid q0; have HI3 := hid hI3; have HB3 := hid (Bt (Bt HB0.out HB1.out) b3); clear b3 q0 q1 hI3)
   (try simp only [Exit.inBlock, Exit.then]); refine bodyPost_ret (v := .tuple #[.agg #[.bool s3, .slice a3 n3 k3], .int .i64 res.2]) (by simp [results, Tryz.results31, go_sem, t0, t1]) rfl ?_
   exact ⟨_, _, _, _, rfl, HI3.out.setBox HQ.out _ _, store2_below HB3.out (by omega)⟩
set_option maxHeartbeats 4000000 in
theorem reck_mod (neg neg' : Bool) (ao ao' : Option Addr) (n cap n' cap' : Nat) (a b : Int) (w : World) (ha : IsInt w (.agg #[.bool neg, .slice ao n cap]) a) (hb : IsInt w (.agg #[.bool neg', .slice ao' n' cap']) b) :
  Calls Tryz.prog 16 #[.int .i64 6, .agg #[.bool neg, .slice ao n cap], .agg #[.bool neg', .slice ao' n' cap']] w (RkPost w (if b = 0 then (0, 11) else (modZ a b, 0))) := by
 have HA := hid ha
 have HB := hid hb
 have CC : Hid (∀ W, Below w.heap.size w W -> Calls Tryz.prog 31 #[.agg #[.bool neg, .slice ao n cap], .agg #[.bool neg', .slice ao' n' cap']] W (RkPost W (if b = 0 then (0, 11) else (modZ a b, 0)))) := fun W h => modulo_any _ _ _ _ _ _ _ _ a b W (ha.below h) (hb.below h)
 obtain ⟨r, hr⟩ : ∃ r : Int × Int, r = (if b = 0 then (0, 11) else (modZ a b, 0)) := ⟨_, rfl⟩
 rw [<- hr] at CC ⊢
 unfold RkPost at CC
 clear hr
 clear ha hb
 go_enter Tryz.func16, Tryz.ntmps16
 go_wp2_with fail
 obtain ⟨x1, x2, x3, hb0⟩ := three_boxes 24 w neg neg' false ao ao' none n cap n' cap' 0 0 _ rfl
 generalize hW0 : (((w.alloc (.cells #[.bool neg, .slice ao n cap] 24)).alloc (.cells #[.bool neg', .slice ao' n' cap'] 24)).alloc (.cells #[.bool false, .slice none 0 0] 24)) = W0 at *
 clear hW0
 have HB0 := hid hb0
 have HX3 := hid x3
 obtain ⟨c0, c1⟩ := x1.c
 obtain ⟨c2, c3⟩ := x2.c
 have C := hid (CC.out W0 hb0)
 clear x1 x2 x3 hb0
 go_wp2_with (go_at_call 31; (with_reducible refine C.out.mono ?_); rintro e W1 ⟨s, ar, nr, cr, rfl, hI, b1⟩; have q0 := HX3.out.on b1; have q1 := q0.set2 s ar nr cr; obtain ⟨r0, r1⟩ := q0.c; obtain ⟨f0, f1⟩ := q0.f; obtain ⟨t0, t1⟩ := q1.c; have HQ := hid q0; have HI := hid hI; have HB1 := hid (Bt HB0.out b1); clear b1 q0 q1 hI c0 c1 c2 c3)
 (try simp only [Exit.inBlock, Exit.then]); refine bodyPost_ret (v := .tuple #[.agg #[.bool s, .slice ar nr cr], .int .i64 r.2]) (by simp [results, Tryz.results16, go_sem, t0, t1]) rfl ?_
 exact ⟨_, _, _, _, rfl, HI.out.setBox HQ.out _ _, store2_below HB1.out (by omega)⟩
set_option maxHeartbeats 4000000 in
theorem reck_none (neg neg' : Bool) (ao ao' : Option Addr) (n cap n' cap' : Nat) (op : Int) (ho : op < 1 \/ 6 < op) (w : World) :
  Calls Tryz.prog 16 #[.int .i64 op, .agg #[.bool neg, .slice ao n cap], .agg #[.bool neg', .slice ao' n' cap']] w (RkPost w (0, 1)) := by
 have e1 : (op == 1) = false := by simp; omega
 have e2 : (op == 2) = false := by simp; omega
 have e3 : (op == 3) = false := by simp; omega
 have e4 : (op == 4) = false := by simp; omega
 have e5 : (op == 5) = false := by simp; omega
 have e6 : (op == 6) = false := by simp; omega
 have HZ := hid (fun W : World => zero_is W)
 clear ho
 obtain ⟨x1, x2, x3, hb0⟩ := three_boxes 24 w neg neg' false ao ao' none n cap n' cap' 0 0 _ rfl
 obtain ⟨r0, r1⟩ := x3.c
 obtain ⟨f0, f1⟩ := x3.f
 have q1 := x3.set2 false none 0 0
 obtain ⟨t0, t1⟩ := q1.c
 have HB0 := hid hb0
 clear x1 x2 x3 hb0 q1
 go_enter Tryz.func16, Tryz.ntmps16
 go_wp2_with fail
 (try simp only [Exit.inBlock, Exit.then]); refine bodyPost_ret (v := .tuple #[.agg #[.bool false, .slice none 0 0], .int .i64 1]) (by simp [results, Tryz.results16, go_sem, t0, t1]) rfl ?_
 exact ⟨_, _, _, _, rfl, HZ.out _, by first | exact HB0.out | exact store2_below HB0.out (by omega)⟩
theorem reckon_any (op : Int) (x y : Value) (a b : Int) (w : World) (hx : IsInt w x a) (hy : IsInt w y b) : Calls Tryz.prog 16 #[.int .i64 op, x, y] w (RkPost w (reckM op a b)) := by
 have ha := hx
 have hb := hy
 obtain ⟨s, ao, n, cap, l, rfl, _⟩ := hx.open_
 obtain ⟨s', ao', n', cap', l', rfl, _⟩ := hy.open_
 by_cases h1 : op = 1
 ·subst h1; exact reck_plus s s' ao ao' n cap n' cap' a b w ha hb
 by_cases h2 : op = 2
 ·subst h2; exact reck_minus s s' ao ao' n cap n' cap' a b w ha hb
 by_cases h3 : op = 3
 ·subst h3; exact reck_times s s' ao ao' n cap n' cap' a b w ha hb
 by_cases h4 : op = 4
 ·subst h4; exact reck_quot s s' ao ao' n cap n' cap' a b w ha hb
 by_cases h5 : op = 5
 ·subst h5; exact reck_rest s s' ao ao' n cap n' cap' a b w ha hb
 by_cases h6 : op = 6
 ·subst h6; exact reck_mod s s' ao ao' n cap n' cap' a b w ha hb
 have := reck_none s s' ao ao' n cap n' cap' op (by omega) w
 unfold reckM
 rw [if_neg h1, if_neg h2, if_neg h3, if_neg h4, if_neg h5, if_neg h6]
 exact this
section
variable {B : Nat} {v : Value} {N : Int} {os : List Ob} {ws : List Int} {F : Nat -> Prop} {w w1 w' : World}
theorem numM_objZ (os : List Ob) (p : Int) : numM os p = if isR 1 p = true then some (hasR 1 p) else objZ os p := rfl
set_option maxHeartbeats 4000000 in
theorem anumber_any (ho : OsOk os) (ha : AllBig os) (p : Int) (hp : U64 p) (w : World) (h : PH B v N (wordsL os) F w) :
  Calls Tryz.prog 36 #[v, .int .u64 p] w fun e w' => ∃ s ao n cap, e = .returned (.tuple #[.agg #[.bool s, .slice ao n cap], .bool (numM os p).isSome]) /\ IsInt w' (.agg #[.bool s, .slice ao n cap]) ((numM os p).getD 0) /\ Below w.heap.size w w' := by
 have b0 := Ba w (.cells #[.bool false, .slice none 0 0] 24)
 have hx0 := Box.new 24 w false none 0 0
 have CI : Hid (∀ W, Calls Tryz.prog 60 #[.int .u64 p] W fun e w' => e = .returned (.tuple #[.int .i64 (hasR 1 p), .bool (isR 1 p)]) /\ w' = W) := fun W => int_any p hp W
 have CR : Hid (∀ W, Below w.heap.size w W -> Calls Tryz.prog 62 #[v, .int .u64 p] W fun e w' => ∃ s ao n cap, e = .returned (.tuple #[.agg #[.bool s, .slice ao n cap], .bool (objZ os p).isSome]) /\ IsInt w' (.agg #[.bool s, .slice ao n cap]) ((objZ os p).getD 0) /\ Below W.heap.size W w') := fun W b => by
  refine (bread_any ho ha p hp W (h.onb b)).mono ?_
  rintro e w' ⟨x, rfl, h1, h2⟩
  have k := h1
  obtain ⟨s, ao, n, cap, l, rfl, _⟩ := h1.open_
  exact ⟨s, ao, n, cap, rfl, k, h2⟩
 have hr : Z64 (hasR 1 p) := by
  unfold hasR
  split
  ·rename_i h1
   rcases ofR_right (w := p) with h | h
   ·rw [h] at h1; cases h1
   ·rw [h1] at h
    have h2 : fixB (ofR p).2.1 = true := h
    unfold fixB at h2
    simp only [Bool.and_eq_true, decide_eq_true_eq] at h2
    unfold Z64; omega
  ·unfold Z64; omega
 have CM : Hid (∀ W, Calls Tryz.prog 61 #[.int .i64 (hasR 1 p)] W fun e w' => ∃ s ao n cap, e = .returned (.agg #[.bool s, .slice ao n cap]) /\ IsInt w' (.agg #[.bool s, .slice ao n cap]) (hasR 1 p) /\ Below W.heap.size W w') := fun W => by
  refine (from_is (hasR 1 p) W hr.1 hr.2).mono ?_
  rintro e w' ⟨x, rfl, h1, h2⟩
  have k := h1
  obtain ⟨s, ao, n, cap, l, rfl, _⟩ := h1.open_
  exact ⟨s, ao, n, cap, rfl, k, h2⟩
 have hn := numM_objZ os p
 obtain ⟨gh, rfl⟩ := h.ptr
 obtain ⟨m, hm⟩ : ∃ m, m = hasR 1 p := ⟨_, rfl⟩
 obtain ⟨r, hr2⟩ : ∃ r, r = isR 1 p := ⟨_, rfl⟩
 obtain ⟨oz, hoz⟩ : ∃ r, r = objZ os p := ⟨_, rfl⟩
 obtain ⟨nm, hnm⟩ : ∃ r, r = numM os p := ⟨_, rfl⟩
 rw [<- hm, <- hr2] at CI
 rw [<- hm] at CM
 rw [<- hoz] at CR
 rw [<- hm, <- hr2, <- hoz, <- hnm] at hn
 rw [<- hnm]
 have HX0 := hid hx0
 have HB0 := hid b0
 obtain ⟨W0, hW0⟩ : ∃ W, W = w.alloc (.cells #[.bool false, .slice none 0 0] 24) := ⟨_, rfl⟩
 rw [<- hW0] at HX0 HB0
 have C1 := hid (CI.out W0)
 rw [hW0] at C1
 clear ho ha h hp hr hm hr2 hoz hnm hx0 b0
 cases r
 ·have e : nm = oz := hn
  subst e
  have C2 := hid (CR.out W0 HB0.out)
  rw [hW0] at C2
  clear hn
  go_enter Tryz.func36, Tryz.ntmps36
  go_wp2_with (first
   | (go_at_call 60; (with_reducible refine C1.out.mono ?_); rintro e W1 ⟨rfl, hw1⟩; rw [hw1]; clear hw1)
   | (go_at_call 62; (with_reducible refine C2.out.mono ?_); rintro e W2 ⟨s, ar, nr, cr, rfl, hI, b1⟩; rw [<- hW0] at b1; have q0 := HX0.out.on b1; have q1 := q0.set2 s ar nr cr; obtain ⟨r0, r1⟩ := q0.c; obtain ⟨f0, f1⟩ := q0.f; obtain ⟨t0, t1⟩ := q1.c; have HQ := hid q0; have HI := hid hI; have HB1 := hid (Bt HB0.out b1); clear b1 q0 q1 hI))
  (try simp only [Exit.inBlock, Exit.then]); refine bodyPost_ret (v := .tuple #[.agg #[.bool s, .slice ar nr cr], .bool nm.isSome]) (by simp [results, Tryz.results36, go_sem, t0, t1]) rfl ?_
  exact ⟨_, _, _, _, rfl, HI.out.setBox HQ.out _ _, store2_below HB1.out (by omega)⟩
 ·have e : nm = some m := hn
  subst e
  have C2 := hid (CM.out W0)
  rw [hW0] at C2
  clear hn
  go_enter Tryz.func36, Tryz.ntmps36
  go_wp2_with (first
   | (go_at_call 60; (with_reducible refine C1.out.mono ?_); rintro e W1 ⟨rfl, hw1⟩; rw [hw1]; clear hw1)
   | (go_at_call 61; (with_reducible refine C2.out.mono ?_); rintro e W2 ⟨s, ar, nr, cr, rfl, hI, b1⟩; rw [<- hW0] at b1; have q0 := HX0.out.on b1; have q1 := q0.set2 s ar nr cr; obtain ⟨r0, r1⟩ := q0.c; obtain ⟨f0, f1⟩ := q0.f; obtain ⟨t0, t1⟩ := q1.c; have HQ := hid q0; have HI := hid hI; have HB1 := hid (Bt HB0.out b1); clear b1 q0 q1 hI))
  (try simp only [Exit.inBlock, Exit.then]); refine bodyPost_ret (v := .tuple #[.agg #[.bool s, .slice ar nr cr], .bool true]) (by simp [results, Tryz.results36, go_sem, t0, t1]) rfl ?_
  exact ⟨_, _, _, _, rfl, HI.out.setBox HQ.out _ _, store2_below HB1.out (by omega)⟩
theorem alay_any (ho : OsOk os) (x : Value) (z : Int) (w : World) (h : PH B v N (wordsL os) F w) (hx : IsInt w x z) (hB : B <= w.heap.size) :
  Calls Tryz.prog 7 #[v, x] w fun e w' => e = .returned (.tuple #[.int .u64 (layM os N z).1, .int .i64 (layM os N z).2]) /\ PPost B v N F w (wordsL (layO os N z)) w' := by
 have hi := hx
 obtain ⟨neg, ao, n, cap, l, rfl, R, g, hz⟩ := hx.open_
 have b0 := Ba w (.cells #[.bool neg, .slice ao n cap] 24)
 have hb := Box.new 24 w neg ao n cap
 obtain ⟨c0, c1⟩ := hb.c
 have C := hid (blay_any ho _ z _ (h.onb b0) (hi.below b0) (by rw [size_alloc]; omega))
 have HF : Hid (∀ w' ws', PPost B v N F (w.alloc (.cells #[.bool neg, .slice ao n cap] 24)) ws' w' -> PPost B v N F w ws' w') := fun w' ws' hp => PPost.front b0 hp
 obtain ⟨gh, rfl⟩ := h.ptr
 clear hb b0 R g hi h hB ho hz hx
 go_enter Tryz.func7, Tryz.ntmps7
 go_wp2_with (go_at_call 18; (with_reducible refine C.out.mono ?_); rintro e W1 ⟨rfl, hp⟩; have HP := hid (HF.out _ _ hp); clear hp)
 go_ret2
 exact ⟨rfl, HP.out⟩
theorem aisop_any (op : Int) (w : World) : Calls Tryz.prog 45 #[.int .i64 op] w fun e w' => e = .returned (.bool (decide (1 <= op) && decide (op <= 6))) /\ w' = w := by
 by_cases h1 : 1 <= op
 ·go_enter Tryz.func45, Tryz.ntmps45
  go_wp2
  go_ret
  exact ⟨by simp [h1], rfl⟩
 ·go_enter Tryz.func45, Tryz.ntmps45
  go_wp2
  go_ret
  exact ⟨by simp; omega, rfl⟩
end
section
variable {B : Nat} {v : Value} {N : Int} {os : List Ob} {ws : List Int} {F : Nat -> Prop} {w w1 w' : World}
def bothZ (os : List Ob) (p q : Int) : Int × Int × Int := if ((numM os p).isSome && (numM os q).isSome) = true then ((numM os p).getD 0, (numM os q).getD 0, 0) else (0, 0, 70)
def BoPost (w : World) (r : Int × Int × Int) (e : Ending) (w' : World) : Prop := ∃ s ao n cap s' ao' n' cap', e = .returned (.tuple #[.agg #[.bool s, .slice ao n cap], .agg #[.bool s', .slice ao' n' cap'], .int .i64 r.2.2]) /\ IsInt w' (.agg #[.bool s, .slice ao n cap]) r.1 /\ IsInt w' (.agg #[.bool s', .slice ao' n' cap']) r.2.1 /\ Below w.heap.size w w'
set_option maxHeartbeats 4000000 in
theorem aboth_any (ho : OsOk os) (ha : AllBig os) (p q : Int) (hp : U64 p) (hq : U64 q) (w : World) (h : PH B v N (wordsL os) F w) :
  Calls Tryz.prog 19 #[v, .int .u64 p, .int .u64 q] w (BoPost w (bothZ os p q)) := by
 have CP : Hid (∀ W, Below w.heap.size w W -> Calls Tryz.prog 36 #[v, .int .u64 p] W fun e w' => ∃ s ao n cap, e = .returned (.tuple #[.agg #[.bool s, .slice ao n cap], .bool (numM os p).isSome]) /\ IsInt w' (.agg #[.bool s, .slice ao n cap]) ((numM os p).getD 0) /\ Below W.heap.size W w') := fun W b => anumber_any ho ha p hp W (h.onb b)
 have CQ : Hid (∀ W, Below w.heap.size w W -> Calls Tryz.prog 36 #[v, .int .u64 q] W fun e w' => ∃ s ao n cap, e = .returned (.tuple #[.agg #[.bool s, .slice ao n cap], .bool (numM os q).isSome]) /\ IsInt w' (.agg #[.bool s, .slice ao n cap]) ((numM os q).getD 0) /\ Below W.heap.size W w') := fun W b => anumber_any ho ha q hq W (h.onb b)
 have hz : bothZ os p q = if ((numM os p).isSome && (numM os q).isSome) = true then ((numM os p).getD 0, (numM os q).getD 0, 0) else (0, 0, 70) := rfl
 obtain ⟨gh, rfl⟩ := h.ptr
 obtain ⟨zp, hzp⟩ : ∃ z, z = (numM os p).getD 0 := ⟨_, rfl⟩
 obtain ⟨zq, hzq⟩ : ∃ z, z = (numM os q).getD 0 := ⟨_, rfl⟩
 obtain ⟨bp, hbp⟩ : ∃ z, z = (numM os p).isSome := ⟨_, rfl⟩
 obtain ⟨bq, hbq⟩ : ∃ z, z = (numM os q).isSome := ⟨_, rfl⟩
 rw [<- hzp, <- hbp] at CP
 rw [<- hzq, <- hbq] at CQ
 rw [<- hzp, <- hbp, <- hzq, <- hbq] at hz
 obtain ⟨r, hr⟩ : ∃ r, r = bothZ os p q := ⟨_, rfl⟩
 rw [<- hr] at hz ⊢
 have HZ0 := hid hz
 clear hz
 have b0 := Baa w (.cells #[.bool false, .slice none 0 0] 24) (.cells #[.bool false, .slice none 0 0] 24)
 have x1 := (Box.new 24 w false none 0 0).alloc (.cells #[.bool false, .slice none 0 0] 24)
 have x2 := Box.new 24 (w.alloc (.cells #[.bool false, .slice none 0 0] 24)) false none 0 0
 rw [size_alloc] at x2
 obtain ⟨W0, hW0⟩ : ∃ W, W = (w.alloc (.cells #[.bool false, .slice none 0 0] 24)).alloc (.cells #[.bool false, .slice none 0 0] 24) := ⟨_, rfl⟩
 rw [<- hW0] at b0 x1 x2
 have C1 := hid (CP.out W0 b0)
 rw [hW0] at C1
 have HB0 := hid b0
 have HX1 := hid x1
 have HX2 := hid x2
 have HZ := hid (fun W : World => zero_is W)
 have FIN : Hid (∀ W (s : Bool) (a : Option Addr) (m c : Nat) (s' : Bool) (a' : Option Addr) (m' c' : Nat), Below W0.heap.size W0 W -> Box 24 W w.heap.size false none 0 0 /\ Box 24 ((W.setCell ⟨w.heap.size, 0, none⟩ (.bool s)).setCell ⟨w.heap.size, 1, none⟩ (.slice a m c)) (w.heap.size + 1) false none 0 0 /\ Box 24 ((((W.setCell ⟨w.heap.size, 0, none⟩ (.bool s)).setCell ⟨w.heap.size, 1, none⟩ (.slice a m c)).setCell ⟨w.heap.size + 1, 0, none⟩ (.bool s')).setCell ⟨w.heap.size + 1, 1, none⟩ (.slice a' m' c')) w.heap.size s a m c /\ Box 24 ((((W.setCell ⟨w.heap.size, 0, none⟩ (.bool s)).setCell ⟨w.heap.size, 1, none⟩ (.slice a m c)).setCell ⟨w.heap.size + 1, 0, none⟩ (.bool s')).setCell ⟨w.heap.size + 1, 1, none⟩ (.slice a' m' c')) (w.heap.size + 1) s' a' m' c' /\ Below w.heap.size w ((((W.setCell ⟨w.heap.size, 0, none⟩ (.bool s)).setCell ⟨w.heap.size, 1, none⟩ (.slice a m c)).setCell ⟨w.heap.size + 1, 0, none⟩ (.bool s')).setCell ⟨w.heap.size + 1, 1, none⟩ (.slice a' m' c')) /\ (∀ {x z}, IsInt W x z -> IsInt ((((W.setCell ⟨w.heap.size, 0, none⟩ (.bool s)).setCell ⟨w.heap.size, 1, none⟩ (.slice a m c)).setCell ⟨w.heap.size + 1, 0, none⟩ (.bool s')).setCell ⟨w.heap.size + 1, 1, none⟩ (.slice a' m' c')) x z)) := fun W s a m c s' a' m' c' hb => by
  have y1 := HX1.out.on hb
  have y2 := (HX2.out.on hb).far2 (q := w.heap.size) (by omega) (.bool s) (.slice a m c)
  exact ⟨y1, y2, (y1.set2 s a m c).far2 (q := w.heap.size + 1) (by omega) _ _, y2.set2 s' a' m' c', store2_below (store2_below (Bt HB0.out hb) (Nat.le_refl _)) (by omega), fun hi => (hi.setBox y1 _ _).setBox y2 _ _⟩
 clear ho ha h hp hq hzp hzq hbp hbq hr b0 x1 x2
 go_enter Tryz.func19, Tryz.ntmps19
 go_wp2_with fail
 (with_reducible refine C1.out.mono ?_)
 rintro e W1 ⟨s1, a1, n1, c1, rfl, hI1, b1⟩
 rw [<- hW0] at b1
 have v1 := Ba W1 (.cells #[.bool s1, .slice a1 n1 c1] 24)
 have y1 := Box.new 24 W1 s1 a1 n1 c1
 have HB1 := hid (Bt b1 v1)
 have HI1 := hid (hI1.below v1)
 have HY1 := hid y1
 have C2 := hid (CQ.out _ (Bt HB0.out HB1.out))
 clear b1 v1 y1 hI1
 go_wp2_with fail
 (with_reducible refine C2.out.mono ?_)
 rintro e W2 ⟨s2, a2, n2, c2, rfl, hI2, b2⟩
 have v2 := Ba W2 (.cells #[.bool s2, .slice a2 n2 c2] 24)
 have y2 := Box.new 24 W2 s2 a2 n2 c2
 have HB2 := hid (Bt HB1.out (Bt b2 v2))
 have HI1' := hid ((HI1.out.below b2).below v2)
 have HI2 := hid (hI2.below v2)
 have hy1 := (HY1.out.on b2).on v2
 obtain ⟨d0, d1⟩ := hy1.c
 obtain ⟨d2, d3⟩ := y2.c
 have hne : W2.heap.size ≠ w.heap.size := by have := HB1.out.size; have := b2.size; have := HX1.out.lt; rw [size_alloc] at *; omega
 have HY2 := hid (fun (u1 u2 : Value) => (y2.far2 (q := w.heap.size) hne u1 u2).c)
 clear b2 v2 y2 hy1 hI2
 by_cases hb : (bp && bq) = true
 ·have hz := HZ0.out
  rw [if_pos hb] at hz
  rw [Bool.and_eq_true] at hb
  obtain ⟨rfl, rfl⟩ := hb
  obtain ⟨o1, o2, o3, o4, o5, o6⟩ := FIN.out _ s1 a1 n1 c1 s2 a2 n2 c2 HB2.out
  obtain ⟨g0, g1⟩ := o1.c
  obtain ⟨g2, g3⟩ := o1.f
  obtain ⟨g4, g5⟩ := o2.c
  obtain ⟨g6, g7⟩ := o2.f
  obtain ⟨t0, t1⟩ := o3.c
  obtain ⟨t2, t3⟩ := o4.c
  obtain ⟨k0, k1⟩ := HY2.out (.bool s1) (.slice a1 n1 c1)
  have H5 := hid o5
  have H6 := hid (o6 HI1'.out)
  have H7 := hid (o6 HI2.out)
  have HZZ := hid hz
  clear o1 o2 o3 o4 o5 o6 hz
  go_wp2_with fail
  go_region
  all_goals
   go_wp2_with fail
   (try simp only [Exit.inBlock, Exit.then]); refine bodyPost_ret (v := .tuple #[.agg #[.bool s1, .slice a1 n1 c1], .agg #[.bool s2, .slice a2 n2 c2], .int .i64 0]) (by simp [results, Tryz.results19, go_sem, t0, t1, t2, t3]) rfl ?_
   rw [HZZ.out]
   exact ⟨_, _, _, _, _, _, _, _, rfl, H6.out.below (Bd _ 1), H7.out.below (Bd _ 1), Bt H5.out (Bd _ 1)⟩
 ·have hz := HZ0.out
  rw [if_neg hb] at hz
  obtain ⟨o1, o2, o3, o4, o5, o6⟩ := FIN.out _ false none 0 0 false none 0 0 HB2.out
  obtain ⟨g0, g1⟩ := o1.c
  obtain ⟨g2, g3⟩ := o1.f
  obtain ⟨g4, g5⟩ := o2.c
  obtain ⟨g6, g7⟩ := o2.f
  obtain ⟨t0, t1⟩ := o3.c
  obtain ⟨t2, t3⟩ := o4.c
  have H5 := hid o5
  have HZZ := hid hz
  clear o1 o2 o3 o4 o5 o6 hz
  cases bp
  ·go_wp2_with fail
   (try simp only [Exit.inBlock, Exit.then]); refine bodyPost_ret (v := .tuple #[.agg #[.bool false, .slice none 0 0], .agg #[.bool false, .slice none 0 0], .int .i64 70]) (by simp [results, Tryz.results19, go_sem, t0, t1, t2, t3]) rfl ?_
   rw [HZZ.out]
   exact ⟨_, _, _, _, _, _, _, _, rfl, HZ.out _, HZ.out _, H5.out⟩
  ·obtain rfl : bq = false := by cases bq <;> simp at hb ⊢
   go_wp2_with fail
   (try simp only [Exit.inBlock, Exit.then]); refine bodyPost_ret (v := .tuple #[.agg #[.bool false, .slice none 0 0], .agg #[.bool false, .slice none 0 0], .int .i64 70]) (by simp [results, Tryz.results19, go_sem, t0, t1, t2, t3]) rfl ?_
   rw [HZZ.out]
   exact ⟨_, _, _, _, _, _, _, _, rfl, HZ.out _, HZ.out _, H5.out⟩
end
end Go.Proofs.YtdekkieajffblaaGreatDoor
