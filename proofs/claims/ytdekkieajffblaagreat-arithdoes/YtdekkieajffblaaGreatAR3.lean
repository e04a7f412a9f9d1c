/-
  Walks: arith.modulo; arith.Reckon, whole.
-/
import Derived.Test.YtdekkieajffblaaGreatAR2
import Derived.Test.YtdekkieajffblaaGreatAB3
set_option linter.unusedVariables false
set_option linter.unusedSimpArgs false
set_option maxRecDepth 100000
namespace Go.Proofs.YtdekkieajffblaaGreat
open Go.RowKit

theorem IsInt.parts {w : World} {s : Bool} {ao : Option Addr} {n cap : Nat} {z : Int} (h : IsInt w (.agg #[.bool s, .slice ao n cap]) z) : (n = 0 ↔ z = 0) ∧ s = decide (z < 0) ∧ ¬ Big z.natAbs ∧ n ≤ 40 ∧ n ≤ cap ∧ cap ≤ 9223372036854775807 ∧ n = (mg z.natAbs).length := by
  obtain ⟨s', ao', n', cap', l, e, R, g, rfl⟩ := h.open_
  cases e
  have hl := R.len
  have hm := R.most
  unfold maxLen at hm
  have hg := mg_of R.dg g
  refine ⟨?_, neg_good g, ?_, by rw [← hl]; exact goodB_len g, R.fits, hm, by rw [← hg, hl]⟩
  · rw [sgn_zero g]
    constructor
    · intro e; exact List.length_eq_zero_iff.1 (by omega)
    · intro e; rw [e] at hl; simpa using hl.symm
  · rw [natAbs_sgn]; exact good_small R g
theorem tmod_abs {a b : Int} (h : b ≠ 0) : (a.tmod b).natAbs < b.natAbs := by
  rw [Int.natAbs_tmod]
  exact Nat.mod_lt _ (by omega)
theorem mod_small {a b : Int} (h0 : b ≠ 0) (hb : ¬ Big b.natAbs) (h : decide (a.tmod b < 0) ≠ decide (b < 0)) : ¬ Big (a.tmod b + b).natAbs := by
  have h1 := tmod_abs (a := a) h0
  generalize a.tmod b = r at *
  refine not_big_le (v := b.natAbs) ?_ hb
  by_cases h2 : r < 0 <;> by_cases h3 : b < 0 <;> simp [h2, h3] at h <;> omega
theorem bigZ_small {z : Int} (h : ¬ Big z.natAbs) : bigZ z = (z, 0) := by unfold bigZ; rw [if_neg (fun e => h ((tooB_iff z).1 e))]
set_option maxHeartbeats 4000000 in
theorem modulo_any (neg neg' : Bool) (ao ao' : Option Addr) (n cap n' cap' : Nat) (a b : Int) (w : World) (ha : IsInt w (.agg #[.bool neg, .slice ao n cap]) a) (hb : IsInt w (.agg #[.bool neg', .slice ao' n' cap']) b) :
    Calls Tryz.prog 55 #[.agg #[.bool neg, .slice ao n cap], .agg #[.bool neg', .slice ao' n' cap']] w (RkPost w (if b = 0 then (0, 11) else (modZ a b, 0))) := by
  have HB := hid hb
  have CC : Hid (∀ W, Below w.heap.size w W → Calls Tryz.prog 54 #[.agg #[.bool neg, .slice ao n cap], .agg #[.bool neg', .slice ao' n' cap']] W (DvP W a b)) := fun W h => div_p _ _ a b W (ha.below h) (hb.below h)
  unfold DvP at CC
  have CA : Hid (∀ W (s : Bool) (a' : Option Addr) (m c : Nat) (rz : Int), Below w.heap.size w W → IsInt W (.agg #[.bool s, .slice a' m c]) rz → Calls Tryz.prog 51 #[.agg #[.bool s, .slice a' m c], .agg #[.bool neg', .slice ao' n' cap']] W (RkPost W (bigZ (rz + b)))) := fun W s a' m c rz h hi => add_rk _ _ rz b W hi (hb.below h)
  obtain ⟨pb1, pb2, pb3, pb4, pb5, pb6, pb7⟩ := hb.parts
  obtain ⟨er, her⟩ : ∃ r : Int, r = if b = 0 then 11 else 0 := ⟨_, rfl⟩
  obtain ⟨qz, hqz⟩ : ∃ r : Int, r = if b = 0 then 0 else a.tdiv b := ⟨_, rfl⟩
  obtain ⟨rz, hrz⟩ : ∃ r : Int, r = if b = 0 then 0 else a.tmod b := ⟨_, rfl⟩
  rw [← her, ← hqz, ← hrz] at CC
  obtain ⟨res, hres⟩ : ∃ r : Int × Int, r = if b = 0 then (0, 11) else (modZ a b, 0) := ⟨_, rfl⟩
  rw [← hres]
  have HL : Hid (rz = 0 ∨ decide (rz < 0) = neg' → res = (rz, er)) := fun h => by
    by_cases h0 : b = 0
    · rw [hres, hrz, her, if_pos h0, if_pos h0, if_pos h0]
    · rw [hres, hrz, her, if_neg h0, if_neg h0, if_neg h0]
      rw [hrz, if_neg h0, pb2] at h
      unfold modZ
      rw [if_neg (fun e => by rcases h with h | h; exact e.1 h; exact e.2 h)]
  have HM : Hid (rz ≠ 0 → decide (rz < 0) ≠ neg' → res = bigZ (rz + b)) := fun h1 h2 => by
    have h0 : b ≠ 0 := fun e => h1 (by rw [hrz, if_pos e])
    rw [hrz, if_neg h0] at h1 h2 ⊢
    rw [pb2] at h2
    rw [hres, if_neg h0, bigZ_small (mod_small h0 pb3 h2)]
    unfold modZ
    rw [if_pos ⟨h1, h2⟩]
  clear ha hb hres her hqz hrz pb1 pb2 pb3 pb4 pb5 pb6 pb7
  go_enter Tryz.func55, Tryz.ntmps55
  go_wp2_with fail
  obtain ⟨x1, x2, x3, hb0⟩ := three_boxes 40 w neg neg' false ao ao' none n cap n' cap' 0 0 _ rfl
  generalize hW0 : (((w.alloc (.cells #[.bool neg, .slice ao n cap] 40)).alloc (.cells #[.bool neg', .slice ao' n' cap'] 40)).alloc (.cells #[.bool false, .slice none 0 0] 40)) = W0 at *
  clear hW0
  have HB0 := hid hb0
  have HX2 := hid x2
  have HX3 := hid x3
  obtain ⟨c0, c1⟩ := x1.c
  obtain ⟨c2, c3⟩ := x2.c
  go_wp2_with fail
  (with_reducible refine (CC.out W0 hb0).mono ?_)
  rintro e W1 ⟨sq, aq, nq, cq, sr, ar, nr, cr, rfl, hQ, hR, b1⟩
  obtain ⟨pr1, pr2, pr3, pr4, pr5, pr6, pr7⟩ := hR.parts
  clear pr7
  have v1 := Baa W1 (.cells #[.bool sq, .slice aq nq cq] 40) (.cells #[.bool sr, .slice ar nr cr] 40)
  have y1 := (Box.new 40 W1 sq aq nq cq).alloc (.cells #[.bool sr, .slice ar nr cr] 40)
  have y2 := Box.new 40 (W1.alloc (.cells #[.bool sq, .slice aq nq cq] 40)) sr ar nr cr
  rw [size_alloc] at y2
  have HB1 := hid (Bt b1 v1)
  have HY2 := hid y2
  have HI := hid (hR.below v1)
  have HX2' := hid ((HX2.out.on b1).on v1)
  have HX3' := hid ((HX3.out.on b1).on v1)
  obtain ⟨d0, d1⟩ := HX2'.out.c
  obtain ⟨y3, y4⟩ := y2.c
  obtain ⟨r0, r1⟩ := HX3'.out.c
  obtain ⟨f0, f1⟩ := HX3'.out.f
  clear x1 x2 x3 hb0 b1 v1 y1 y2 hQ hR c0 c1 c2 c3
  by_cases h1 : nr = 0
  · have hl := HL.out (.inl (pr1.1 h1))
    have HLR := hid hl
    have q1 := HX3'.out.set2 sr ar nr cr
    obtain ⟨t0, t1⟩ := q1.c
    clear hl q1 pr1 pr2 pr3
    subst h1
    go_wp2_with fail
    (try simp only [Exit.inBlock, Exit.then]); refine bodyPost_ret (v := .tuple #[.agg #[.bool sr, .slice ar 0 cr], .int .i64 er]) (by simp [results, Tryz.results55, go_sem, t0, t1]) rfl ?_
    rw [HLR.out]
    exact ⟨_, _, _, _, rfl, HI.out.setBox HX3'.out _ _, store2_below (Bt HB0.out HB1.out) (by omega)⟩
  · have e1 : 0 < nr := by omega
    by_cases h2 : sr = neg'
    · have hl := HL.out (.inr (by rw [← pr2]; exact h2))
      have HLR := hid hl
      have q1 := HX3'.out.set2 sr ar nr cr
      obtain ⟨t0, t1⟩ := q1.c
      have e2 : (!sr == neg') = false := by rw [h2]; simp
      clear hl q1 pr1 pr2 pr3 h1 h2
      go_wp2_with fail
      (try simp only [Exit.inBlock, Exit.then]); refine bodyPost_ret (v := .tuple #[.agg #[.bool sr, .slice ar nr cr], .int .i64 er]) (by simp [results, Tryz.results55, go_sem, t0, t1]) rfl ?_
      rw [HLR.out]
      exact ⟨_, _, _, _, rfl, HI.out.setBox HX3'.out _ _, store2_below (Bt HB0.out HB1.out) (by omega)⟩
    · have hl := HM.out (fun e => h1 (pr1.2 e)) (by rw [← pr2]; exact h2)
      have e2 : (!sr == neg') = true := by simpa using h2
      have C2 := hid (CA.out _ sr ar nr cr rz (Bt HB0.out HB1.out) HI.out)
      rw [← hl] at C2
      unfold RkPost at C2
      clear hl pr1 pr2 pr3 h1 h2
      go_wp2_with (go_at_call 51; (with_reducible refine C2.out.mono ?_); rintro e W3 ⟨s3, a3, n3, k3, rfl, hI3, b3⟩; have q0 := HX3'.out.on b3; have q1 := q0.set2 s3 a3 n3 k3; clear r0 r1 f0 f1; obtain ⟨r0, r1⟩ := q0.c; obtain ⟨f0, f1⟩ := q0.f; obtain ⟨t0, t1⟩ := q1.c; have HQ := hid q0; have HI3 := hid hI3; have HB3 := hid (Bt (Bt HB0.out HB1.out) b3); clear b3 q0 q1 hI3)
      (try simp only [Exit.inBlock, Exit.then]); refine bodyPost_ret (v := .tuple #[.agg #[.bool s3, .slice a3 n3 k3], .int .i64 res.2]) (by simp [results, Tryz.results55, go_sem, t0, t1]) rfl ?_
      exact ⟨_, _, _, _, rfl, HI3.out.setBox HQ.out _ _, store2_below HB3.out (by omega)⟩
set_option maxHeartbeats 4000000 in
theorem reck_mod (neg neg' : Bool) (ao ao' : Option Addr) (n cap n' cap' : Nat) (a b : Int) (w : World) (ha : IsInt w (.agg #[.bool neg, .slice ao n cap]) a) (hb : IsInt w (.agg #[.bool neg', .slice ao' n' cap']) b) :
    Calls Tryz.prog 26 #[.int .i64 6, .agg #[.bool neg, .slice ao n cap], .agg #[.bool neg', .slice ao' n' cap']] w (RkPost w (if b = 0 then (0, 11) else (modZ a b, 0))) := by
  have HA := hid ha
  have HB := hid hb
  have CC : Hid (∀ W, Below w.heap.size w W → Calls Tryz.prog 55 #[.agg #[.bool neg, .slice ao n cap], .agg #[.bool neg', .slice ao' n' cap']] W (RkPost W (if b = 0 then (0, 11) else (modZ a b, 0)))) := fun W h => modulo_any _ _ _ _ _ _ _ _ a b W (ha.below h) (hb.below h)
  obtain ⟨r, hr⟩ : ∃ r : Int × Int, r = (if b = 0 then (0, 11) else (modZ a b, 0)) := ⟨_, rfl⟩
  rw [← hr] at CC ⊢
  unfold RkPost at CC
  clear hr
  clear ha hb
  go_enter Tryz.func26, Tryz.ntmps26
  go_wp2_with fail
  obtain ⟨x1, x2, x3, hb0⟩ := three_boxes 40 w neg neg' false ao ao' none n cap n' cap' 0 0 _ rfl
  generalize hW0 : (((w.alloc (.cells #[.bool neg, .slice ao n cap] 40)).alloc (.cells #[.bool neg', .slice ao' n' cap'] 40)).alloc (.cells #[.bool false, .slice none 0 0] 40)) = W0 at *
  clear hW0
  have HB0 := hid hb0
  have HX3 := hid x3
  obtain ⟨c0, c1⟩ := x1.c
  obtain ⟨c2, c3⟩ := x2.c
  have C := hid (CC.out W0 hb0)
  clear x1 x2 x3 hb0
  go_wp2_with (go_at_call 55; (with_reducible refine C.out.mono ?_); rintro e W1 ⟨s, ar, nr, cr, rfl, hI, b1⟩; have q0 := HX3.out.on b1; have q1 := q0.set2 s ar nr cr; obtain ⟨r0, r1⟩ := q0.c; obtain ⟨f0, f1⟩ := q0.f; obtain ⟨t0, t1⟩ := q1.c; have HQ := hid q0; have HI := hid hI; have HB1 := hid (Bt HB0.out b1); clear b1 q0 q1 hI c0 c1 c2 c3)
  (try simp only [Exit.inBlock, Exit.then]); refine bodyPost_ret (v := .tuple #[.agg #[.bool s, .slice ar nr cr], .int .i64 r.2]) (by simp [results, Tryz.results26, go_sem, t0, t1]) rfl ?_
  exact ⟨_, _, _, _, rfl, HI.out.setBox HQ.out _ _, store2_below HB1.out (by omega)⟩
set_option maxHeartbeats 4000000 in
theorem reck_none (neg neg' : Bool) (ao ao' : Option Addr) (n cap n' cap' : Nat) (op : Int) (ho : op < 1 ∨ 6 < op) (w : World) :
    Calls Tryz.prog 26 #[.int .i64 op, .agg #[.bool neg, .slice ao n cap], .agg #[.bool neg', .slice ao' n' cap']] w (RkPost w (0, 1)) := by
  have e1 : (op == 1) = false := by simp; omega
  have e2 : (op == 2) = false := by simp; omega
  have e3 : (op == 3) = false := by simp; omega
  have e4 : (op == 4) = false := by simp; omega
  have e5 : (op == 5) = false := by simp; omega
  have e6 : (op == 6) = false := by simp; omega
  have HZ := hid (fun W : World => zero_is W)
  clear ho
  obtain ⟨x1, x2, x3, hb0⟩ := three_boxes 40 w neg neg' false ao ao' none n cap n' cap' 0 0 _ rfl
  obtain ⟨r0, r1⟩ := x3.c
  obtain ⟨f0, f1⟩ := x3.f
  have q1 := x3.set2 false none 0 0
  obtain ⟨t0, t1⟩ := q1.c
  have HB0 := hid hb0
  clear x1 x2 x3 hb0 q1
  go_enter Tryz.func26, Tryz.ntmps26
  go_wp2_with fail
  (try simp only [Exit.inBlock, Exit.then]); refine bodyPost_ret (v := .tuple #[.agg #[.bool false, .slice none 0 0], .int .i64 1]) (by simp [results, Tryz.results26, go_sem, t0, t1]) rfl ?_
  exact ⟨_, _, _, _, rfl, HZ.out _, by first | exact HB0.out | exact store2_below HB0.out (by omega)⟩
theorem reckon_any (op : Int) (x y : Value) (a b : Int) (w : World) (hx : IsInt w x a) (hy : IsInt w y b) : Calls Tryz.prog 26 #[.int .i64 op, x, y] w (RkPost w (reckM op a b)) := by
  have ha := hx
  have hb := hy
  obtain ⟨s, ao, n, cap, l, rfl, _⟩ := hx.open_
  obtain ⟨s', ao', n', cap', l', rfl, _⟩ := hy.open_
  by_cases h1 : op = 1
  · subst h1; exact reck_plus s s' ao ao' n cap n' cap' a b w ha hb
  by_cases h2 : op = 2
  · subst h2; exact reck_minus s s' ao ao' n cap n' cap' a b w ha hb
  by_cases h3 : op = 3
  · subst h3; exact reck_times s s' ao ao' n cap n' cap' a b w ha hb
  by_cases h4 : op = 4
  · subst h4; exact reck_quot s s' ao ao' n cap n' cap' a b w ha hb
  by_cases h5 : op = 5
  · subst h5; exact reck_rest s s' ao ao' n cap n' cap' a b w ha hb
  by_cases h6 : op = 6
  · subst h6; exact reck_mod s s' ao ao' n cap n' cap' a b w ha hb
  have := reck_none s s' ao ao' n cap n' cap' op (by omega) w
  unfold reckM
  rw [if_neg h1, if_neg h2, if_neg h3, if_neg h4, if_neg h5, if_neg h6]
  exact this
end Go.Proofs.YtdekkieajffblaaGreat
