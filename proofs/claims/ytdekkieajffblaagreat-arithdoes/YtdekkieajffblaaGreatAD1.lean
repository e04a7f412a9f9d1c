/-
  Walks, of the document's answer: Reckon.
-/
import Derived.Test.YtdekkieajffblaaGreatAR3
import Derived.Test.YtdekkieajffblaaGreatW35
import Derived.Test.YtdekkieajffblaaGreatW25
import Derived.Test.YtdekkieajffblaaGreatST4
set_option linter.unusedVariables false
set_option linter.unusedSimpArgs false
set_option maxRecDepth 100000
namespace Go.Proofs.YtdekkieajffblaaGreat
open Go.RowKit

theorem radd_rk (x y : Value) (a b : Int) (w : World) (hx : IsInt w x a) (hy : IsInt w y b) : Calls Tryz.prog 73 #[x, y] w (RkPost w (bigZ (a + b))) := (radd_is x y a b w hx hy).mono fun _ _ h => h.rk
theorem rsub_rk (x y : Value) (a b : Int) (w : World) (hx : IsInt w x a) (hy : IsInt w y b) : Calls Tryz.prog 74 #[x, y] w (RkPost w (bigZ (a + -b))) := by
  obtain ⟨s, ao, n, cap, l, rfl, R, g, rfl⟩ := hx.open_
  obtain ⟨s', ao', n', cap', l', rfl, R', g', rfl⟩ := hy.open_
  exact (rsub_any s s' ao ao' n cap n' cap' l l' w R R' g g').mono fun _ _ h => h.rk
theorem rmul_rk (x y : Value) (a b : Int) (w : World) (hx : IsInt w x a) (hy : IsInt w y b) : Calls Tryz.prog 75 #[x, y] w (RkPost w (bigZ (a * b))) := by
  obtain ⟨s, ao, n, cap, l, rfl, R, g, rfl⟩ := hx.open_
  obtain ⟨s', ao', n', cap', l', rfl, R', g', rfl⟩ := hy.open_
  refine (rmul_any s s' ao ao' n cap n' cap' l l' w R R' (by rw [← R.len]; exact goodB_len g) (by rw [← R'.len]; exact goodB_len g')).mono fun e w' ⟨v, en, h1, h2, h3⟩ => ?_
  subst h1
  rw [← sgn_mul]
  exact AddPost.rk ⟨v, en, rfl, h2.toI, h3⟩
theorem rdiv_p (x y : Value) (a b : Int) (w : World) (hx : IsInt w x a) (hy : IsInt w y b) : Calls Tryz.prog 76 #[x, y] w (DvP w a b) := (rdiv_post x y a b w hx hy).mono fun _ _ h => h.p
set_option maxHeartbeats 4000000 in
theorem rreck_plus (neg neg' : Bool) (ao ao' : Option Addr) (n cap n' cap' : Nat) (a b : Int) (w : World) (ha : IsInt w (.agg #[.bool neg, .slice ao n cap]) a) (hb : IsInt w (.agg #[.bool neg', .slice ao' n' cap']) b) :
    Calls Tryz.prog 46 #[.int .i64 1, .agg #[.bool neg, .slice ao n cap], .agg #[.bool neg', .slice ao' n' cap']] w (RkPost w (bigZ (a + b))) := by
  have HA := hid ha
  have HB := hid hb
  have CC : Hid (∀ W, Below w.heap.size w W → Calls Tryz.prog 73 #[.agg #[.bool neg, .slice ao n cap], .agg #[.bool neg', .slice ao' n' cap']] W (RkPost W (bigZ (a + b)))) := fun W h => radd_rk _ _ a b W (ha.below h) (hb.below h)
  obtain ⟨r, hr⟩ : ∃ r, r = (bigZ (a + b)) := ⟨_, rfl⟩
  rw [← hr] at CC ⊢
  unfold RkPost at CC
  clear hr
  clear ha hb
  go_enter Tryz.func46, Tryz.ntmps46
  go_wp2_with fail
  obtain ⟨x1, x2, x3, hb0⟩ := three_boxes 40 w neg neg' false ao ao' none n cap n' cap' 0 0 _ rfl
  generalize hW0 : (((w.alloc (.cells #[.bool neg, .slice ao n cap] 40)).alloc (.cells #[.bool neg', .slice ao' n' cap'] 40)).alloc (.cells #[.bool false, .slice none 0 0] 40)) = W0 at *
  clear hW0
  have HB0 := hid hb0
  have HX3 := hid x3
  obtain ⟨c0, c1⟩ := x1.c
  obtain ⟨c2, c3⟩ := x2.c
  have C := hid (CC.out W0 hb0)
  clear x1 x2 x3 hb0
  go_wp2_with (go_at_call 73; (with_reducible refine C.out.mono ?_); rintro e W1 ⟨s, ar, nr, cr, rfl, hI, b1⟩; have q0 := HX3.out.on b1; have q1 := q0.set2 s ar nr cr; obtain ⟨r0, r1⟩ := q0.c; obtain ⟨f0, f1⟩ := q0.f; obtain ⟨t0, t1⟩ := q1.c; have HQ := hid q0; have HI := hid hI; have HB1 := hid (Bt HB0.out b1); clear b1 q0 q1 hI c0 c1 c2 c3)
  (try simp only [Exit.inBlock, Exit.then]); refine bodyPost_ret (v := .tuple #[.agg #[.bool s, .slice ar nr cr], .int .i64 r.2]) (by simp [results, Tryz.results46, go_sem, t0, t1]) rfl ?_
  exact ⟨_, _, _, _, rfl, HI.out.setBox HQ.out _ _, store2_below HB1.out (by omega)⟩
set_option maxHeartbeats 4000000 in
theorem rreck_minus (neg neg' : Bool) (ao ao' : Option Addr) (n cap n' cap' : Nat) (a b : Int) (w : World) (ha : IsInt w (.agg #[.bool neg, .slice ao n cap]) a) (hb : IsInt w (.agg #[.bool neg', .slice ao' n' cap']) b) :
    Calls Tryz.prog 46 #[.int .i64 2, .agg #[.bool neg, .slice ao n cap], .agg #[.bool neg', .slice ao' n' cap']] w (RkPost w (bigZ (a + -b))) := by
  have HA := hid ha
  have HB := hid hb
  have CC : Hid (∀ W, Below w.heap.size w W → Calls Tryz.prog 74 #[.agg #[.bool neg, .slice ao n cap], .agg #[.bool neg', .slice ao' n' cap']] W (RkPost W (bigZ (a + -b)))) := fun W h => rsub_rk _ _ a b W (ha.below h) (hb.below h)
  obtain ⟨r, hr⟩ : ∃ r, r = (bigZ (a + -b)) := ⟨_, rfl⟩
  rw [← hr] at CC ⊢
  unfold RkPost at CC
  clear hr
  clear ha hb
  go_enter Tryz.func46, Tryz.ntmps46
  go_wp2_with fail
  obtain ⟨x1, x2, x3, hb0⟩ := three_boxes 40 w neg neg' false ao ao' none n cap n' cap' 0 0 _ rfl
  generalize hW0 : (((w.alloc (.cells #[.bool neg, .slice ao n cap] 40)).alloc (.cells #[.bool neg', .slice ao' n' cap'] 40)).alloc (.cells #[.bool false, .slice none 0 0] 40)) = W0 at *
  clear hW0
  have HB0 := hid hb0
  have HX3 := hid x3
  obtain ⟨c0, c1⟩ := x1.c
  obtain ⟨c2, c3⟩ := x2.c
  have C := hid (CC.out W0 hb0)
  clear x1 x2 x3 hb0
  go_wp2_with (go_at_call 74; (with_reducible refine C.out.mono ?_); rintro e W1 ⟨s, ar, nr, cr, rfl, hI, b1⟩; have q0 := HX3.out.on b1; have q1 := q0.set2 s ar nr cr; obtain ⟨r0, r1⟩ := q0.c; obtain ⟨f0, f1⟩ := q0.f; obtain ⟨t0, t1⟩ := q1.c; have HQ := hid q0; have HI := hid hI; have HB1 := hid (Bt HB0.out b1); clear b1 q0 q1 hI c0 c1 c2 c3)
  (try simp only [Exit.inBlock, Exit.then]); refine bodyPost_ret (v := .tuple #[.agg #[.bool s, .slice ar nr cr], .int .i64 r.2]) (by simp [results, Tryz.results46, go_sem, t0, t1]) rfl ?_
  exact ⟨_, _, _, _, rfl, HI.out.setBox HQ.out _ _, store2_below HB1.out (by omega)⟩
set_option maxHeartbeats 4000000 in
theorem rreck_times (neg neg' : Bool) (ao ao' : Option Addr) (n cap n' cap' : Nat) (a b : Int) (w : World) (ha : IsInt w (.agg #[.bool neg, .slice ao n cap]) a) (hb : IsInt w (.agg #[.bool neg', .slice ao' n' cap']) b) :
    Calls Tryz.prog 46 #[.int .i64 3, .agg #[.bool neg, .slice ao n cap], .agg #[.bool neg', .slice ao' n' cap']] w (RkPost w (bigZ (a * b))) := by
  have HA := hid ha
  have HB := hid hb
  have CC : Hid (∀ W, Below w.heap.size w W → Calls Tryz.prog 75 #[.agg #[.bool neg, .slice ao n cap], .agg #[.bool neg', .slice ao' n' cap']] W (RkPost W (bigZ (a * b)))) := fun W h => rmul_rk _ _ a b W (ha.below h) (hb.below h)
  obtain ⟨r, hr⟩ : ∃ r, r = (bigZ (a * b)) := ⟨_, rfl⟩
  rw [← hr] at CC ⊢
  unfold RkPost at CC
  clear hr
  clear ha hb
  go_enter Tryz.func46, Tryz.ntmps46
  go_wp2_with fail
  obtain ⟨x1, x2, x3, hb0⟩ := three_boxes 40 w neg neg' false ao ao' none n cap n' cap' 0 0 _ rfl
  generalize hW0 : (((w.alloc (.cells #[.bool neg, .slice ao n cap] 40)).alloc (.cells #[.bool neg', .slice ao' n' cap'] 40)).alloc (.cells #[.bool false, .slice none 0 0] 40)) = W0 at *
  clear hW0
  have HB0 := hid hb0
  have HX3 := hid x3
  obtain ⟨c0, c1⟩ := x1.c
  obtain ⟨c2, c3⟩ := x2.c
  have C := hid (CC.out W0 hb0)
  clear x1 x2 x3 hb0
  go_wp2_with (go_at_call 75; (with_reducible refine C.out.mono ?_); rintro e W1 ⟨s, ar, nr, cr, rfl, hI, b1⟩; have q0 := HX3.out.on b1; have q1 := q0.set2 s ar nr cr; obtain ⟨r0, r1⟩ := q0.c; obtain ⟨f0, f1⟩ := q0.f; obtain ⟨t0, t1⟩ := q1.c; have HQ := hid q0; have HI := hid hI; have HB1 := hid (Bt HB0.out b1); clear b1 q0 q1 hI c0 c1 c2 c3)
  (try simp only [Exit.inBlock, Exit.then]); refine bodyPost_ret (v := .tuple #[.agg #[.bool s, .slice ar nr cr], .int .i64 r.2]) (by simp [results, Tryz.results46, go_sem, t0, t1]) rfl ?_
  exact ⟨_, _, _, _, rfl, HI.out.setBox HQ.out _ _, store2_below HB1.out (by omega)⟩
set_option maxHeartbeats 4000000 in
theorem rreck_z4 (neg neg' : Bool) (ao ao' : Option Addr) (n cap n' cap' : Nat) (a b : Int) (w : World) (ha : IsInt w (.agg #[.bool neg, .slice ao n cap]) a) (hb : IsInt w (.agg #[.bool neg', .slice ao' n' cap']) b) (h0 : b = 0) :
    Calls Tryz.prog 46 #[.int .i64 4, .agg #[.bool neg, .slice ao n cap], .agg #[.bool neg', .slice ao' n' cap']] w (RkPost w (0, 11)) := by
  have HA := hid ha
  have HB := hid hb
  have CC : Hid (∀ W, Below w.heap.size w W → Calls Tryz.prog 76 #[.agg #[.bool neg, .slice ao n cap], .agg #[.bool neg', .slice ao' n' cap']] W fun e w' => ∃ s ao n cap s' ao' n' cap', e = .returned (.tuple #[.agg #[.bool s, .slice ao n cap], .agg #[.bool s', .slice ao' n' cap'], .int .i64 11]) ∧ IsInt w' (.agg #[.bool s, .slice ao n cap]) 0 ∧ IsInt w' (.agg #[.bool s', .slice ao' n' cap']) 0 ∧ Below W.heap.size W w') := fun W h => by
    have := rdiv_p _ _ a b W (ha.below h) (hb.below h)
    unfold DvP at this
    refine this.mono ?_
    rintro e w' ⟨s, ao, n, cap, s', ao', n', cap', rfl, h1, h2, h3⟩
    rw [if_pos h0] at h1 h2 ⊢
    exact ⟨s, ao, n, cap, s', ao', n', cap', rfl, h1, h2, h3⟩

  clear ha hb h0
  go_enter Tryz.func46, Tryz.ntmps46
  go_wp2_with fail
  obtain ⟨x1, x2, x3, hb0⟩ := three_boxes 40 w neg neg' false ao ao' none n cap n' cap' 0 0 _ rfl
  generalize hW0 : (((w.alloc (.cells #[.bool neg, .slice ao n cap] 40)).alloc (.cells #[.bool neg', .slice ao' n' cap'] 40)).alloc (.cells #[.bool false, .slice none 0 0] 40)) = W0 at *
  clear hW0
  have HB0 := hid hb0
  have HX2 := hid x2
  have HX3 := hid x3
  obtain ⟨c0, c1⟩ := x1.c
  obtain ⟨c2, c3⟩ := x2.c
  have C := hid (CC.out W0 hb0)
  clear x1 x2 x3 hb0
  go_wp2_with (go_at_call 76; (with_reducible refine C.out.mono ?_); rintro e W1 ⟨sq, aq, nq, cq, sr, ar, nr, cr, rfl, hQ, hR, b1⟩; have v1 := Baa W1 (.cells #[.bool sq, .slice aq nq cq] 40) (.cells #[.bool sr, .slice ar nr cr] 40); have y1 := (Box.new 40 W1 sq aq nq cq).alloc (.cells #[.bool sr, .slice ar nr cr] 40); have y2 := Box.new 40 (W1.alloc (.cells #[.bool sq, .slice aq nq cq] 40)) sr ar nr cr; rw [size_alloc] at y2; have q0 := (HX3.out.on b1).on v1; have q1 := q0.set2 sq aq nq cq; obtain ⟨r0, r1⟩ := q0.c; obtain ⟨f0, f1⟩ := q0.f; obtain ⟨t0, t1⟩ := q1.c; obtain ⟨y3, y4⟩ := y1.c; obtain ⟨y5, y6⟩ := y2.c; have HQ := hid q0; have HI := hid (hQ.below v1); have HB1 := hid (Bt (Bt HB0.out b1) v1); clear b1 q0 q1 hQ hR c0 c1 c2 c3 v1 y1 y2)
  (try simp only [Exit.inBlock, Exit.then]); refine bodyPost_ret (v := .tuple #[.agg #[.bool sq, .slice aq nq cq], .int .i64 11]) (by simp [results, Tryz.results46, go_sem, t0, t1]) rfl ?_
  exact ⟨_, _, _, _, rfl, HI.out.setBox HQ.out _ _, store2_below HB1.out (by omega)⟩
set_option maxHeartbeats 4000000 in
theorem rreck_z5 (neg neg' : Bool) (ao ao' : Option Addr) (n cap n' cap' : Nat) (a b : Int) (w : World) (ha : IsInt w (.agg #[.bool neg, .slice ao n cap]) a) (hb : IsInt w (.agg #[.bool neg', .slice ao' n' cap']) b) (h0 : b = 0) :
    Calls Tryz.prog 46 #[.int .i64 5, .agg #[.bool neg, .slice ao n cap], .agg #[.bool neg', .slice ao' n' cap']] w (RkPost w (0, 11)) := by
  have HA := hid ha
  have HB := hid hb
  have CC : Hid (∀ W, Below w.heap.size w W → Calls Tryz.prog 76 #[.agg #[.bool neg, .slice ao n cap], .agg #[.bool neg', .slice ao' n' cap']] W fun e w' => ∃ s ao n cap s' ao' n' cap', e = .returned (.tuple #[.agg #[.bool s, .slice ao n cap], .agg #[.bool s', .slice ao' n' cap'], .int .i64 11]) ∧ IsInt w' (.agg #[.bool s, .slice ao n cap]) 0 ∧ IsInt w' (.agg #[.bool s', .slice ao' n' cap']) 0 ∧ Below W.heap.size W w') := fun W h => by
    have := rdiv_p _ _ a b W (ha.below h) (hb.below h)
    unfold DvP at this
    refine this.mono ?_
    rintro e w' ⟨s, ao, n, cap, s', ao', n', cap', rfl, h1, h2, h3⟩
    rw [if_pos h0] at h1 h2 ⊢
    exact ⟨s, ao, n, cap, s', ao', n', cap', rfl, h1, h2, h3⟩

  clear ha hb h0
  go_enter Tryz.func46, Tryz.ntmps46
  go_wp2_with fail
  obtain ⟨x1, x2, x3, hb0⟩ := three_boxes 40 w neg neg' false ao ao' none n cap n' cap' 0 0 _ rfl
  generalize hW0 : (((w.alloc (.cells #[.bool neg, .slice ao n cap] 40)).alloc (.cells #[.bool neg', .slice ao' n' cap'] 40)).alloc (.cells #[.bool false, .slice none 0 0] 40)) = W0 at *
  clear hW0
  have HB0 := hid hb0
  have HX2 := hid x2
  have HX3 := hid x3
  obtain ⟨c0, c1⟩ := x1.c
  obtain ⟨c2, c3⟩ := x2.c
  have C := hid (CC.out W0 hb0)
  clear x1 x2 x3 hb0
  go_wp2_with (go_at_call 76; (with_reducible refine C.out.mono ?_); rintro e W1 ⟨sq, aq, nq, cq, sr, ar, nr, cr, rfl, hQ, hR, b1⟩; have v1 := Baa W1 (.cells #[.bool sq, .slice aq nq cq] 40) (.cells #[.bool sr, .slice ar nr cr] 40); have y1 := (Box.new 40 W1 sq aq nq cq).alloc (.cells #[.bool sr, .slice ar nr cr] 40); have y2 := Box.new 40 (W1.alloc (.cells #[.bool sq, .slice aq nq cq] 40)) sr ar nr cr; rw [size_alloc] at y2; have q0 := (HX3.out.on b1).on v1; have q1 := q0.set2 sq aq nq cq; obtain ⟨r0, r1⟩ := q0.c; obtain ⟨f0, f1⟩ := q0.f; obtain ⟨t0, t1⟩ := q1.c; obtain ⟨y3, y4⟩ := y1.c; obtain ⟨y5, y6⟩ := y2.c; have HQ := hid q0; have HI := hid (hQ.below v1); have HB1 := hid (Bt (Bt HB0.out b1) v1); clear b1 q0 q1 hQ hR c0 c1 c2 c3 v1 y1 y2)
  (try simp only [Exit.inBlock, Exit.then]); refine bodyPost_ret (v := .tuple #[.agg #[.bool sq, .slice aq nq cq], .int .i64 11]) (by simp [results, Tryz.results46, go_sem, t0, t1]) rfl ?_
  exact ⟨_, _, _, _, rfl, HI.out.setBox HQ.out _ _, store2_below HB1.out (by omega)⟩
set_option maxHeartbeats 4000000 in
theorem rreck_z6 (neg neg' : Bool) (ao ao' : Option Addr) (n cap n' cap' : Nat) (a b : Int) (w : World) (ha : IsInt w (.agg #[.bool neg, .slice ao n cap]) a) (hb : IsInt w (.agg #[.bool neg', .slice ao' n' cap']) b) (h0 : b = 0) :
    Calls Tryz.prog 46 #[.int .i64 6, .agg #[.bool neg, .slice ao n cap], .agg #[.bool neg', .slice ao' n' cap']] w (RkPost w (0, 11)) := by
  have HA := hid ha
  have HB := hid hb
  have CC : Hid (∀ W, Below w.heap.size w W → Calls Tryz.prog 76 #[.agg #[.bool neg, .slice ao n cap], .agg #[.bool neg', .slice ao' n' cap']] W fun e w' => ∃ s ao n cap s' ao' n' cap', e = .returned (.tuple #[.agg #[.bool s, .slice ao n cap], .agg #[.bool s', .slice ao' n' cap'], .int .i64 11]) ∧ IsInt w' (.agg #[.bool s, .slice ao n cap]) 0 ∧ IsInt w' (.agg #[.bool s', .slice ao' n' cap']) 0 ∧ Below W.heap.size W w') := fun W h => by
    have := rdiv_p _ _ a b W (ha.below h) (hb.below h)
    unfold DvP at this
    refine this.mono ?_
    rintro e w' ⟨s, ao, n, cap, s', ao', n', cap', rfl, h1, h2, h3⟩
    rw [if_pos h0] at h1 h2 ⊢
    exact ⟨s, ao, n, cap, s', ao', n', cap', rfl, h1, h2, h3⟩

  clear ha hb h0
  go_enter Tryz.func46, Tryz.ntmps46
  go_wp2_with fail
  obtain ⟨x1, x2, x3, hb0⟩ := three_boxes 40 w neg neg' false ao ao' none n cap n' cap' 0 0 _ rfl
  generalize hW0 : (((w.alloc (.cells #[.bool neg, .slice ao n cap] 40)).alloc (.cells #[.bool neg', .slice ao' n' cap'] 40)).alloc (.cells #[.bool false, .slice none 0 0] 40)) = W0 at *
  clear hW0
  have HB0 := hid hb0
  have HX2 := hid x2
  have HX3 := hid x3
  obtain ⟨c0, c1⟩ := x1.c
  obtain ⟨c2, c3⟩ := x2.c
  have C := hid (CC.out W0 hb0)
  clear x1 x2 x3 hb0
  go_wp2_with (go_at_call 76; (with_reducible refine C.out.mono ?_); rintro e W1 ⟨sq, aq, nq, cq, sr, ar, nr, cr, rfl, hQ, hR, b1⟩; have v1 := Baa W1 (.cells #[.bool sq, .slice aq nq cq] 40) (.cells #[.bool sr, .slice ar nr cr] 40); have y1 := (Box.new 40 W1 sq aq nq cq).alloc (.cells #[.bool sr, .slice ar nr cr] 40); have y2 := Box.new 40 (W1.alloc (.cells #[.bool sq, .slice aq nq cq] 40)) sr ar nr cr; rw [size_alloc] at y2; have q0 := (HX3.out.on b1).on v1; have q1 := q0.set2 sq aq nq cq; obtain ⟨r0, r1⟩ := q0.c; obtain ⟨f0, f1⟩ := q0.f; obtain ⟨t0, t1⟩ := q1.c; obtain ⟨y3, y4⟩ := y1.c; obtain ⟨y5, y6⟩ := y2.c; have HQ := hid q0; have HI := hid (hQ.below v1); have HB1 := hid (Bt (Bt HB0.out b1) v1); clear b1 q0 q1 hQ hR c0 c1 c2 c3 v1 y1 y2)
  (try simp only [Exit.inBlock, Exit.then]); refine bodyPost_ret (v := .tuple #[.agg #[.bool sq, .slice aq nq cq], .int .i64 11]) (by simp [results, Tryz.results46, go_sem, t0, t1]) rfl ?_
  exact ⟨_, _, _, _, rfl, HI.out.setBox HQ.out _ _, store2_below HB1.out (by omega)⟩
set_option maxHeartbeats 4000000 in
theorem rreck_quot (neg neg' : Bool) (ao ao' : Option Addr) (n cap n' cap' : Nat) (a b : Int) (w : World) (ha : IsInt w (.agg #[.bool neg, .slice ao n cap]) a) (hb : IsInt w (.agg #[.bool neg', .slice ao' n' cap']) b) (h0 : b ≠ 0) :
    Calls Tryz.prog 46 #[.int .i64 4, .agg #[.bool neg, .slice ao n cap], .agg #[.bool neg', .slice ao' n' cap']] w (RkPost w (a.tdiv b, 0)) := by
  have HA := hid ha
  have HB := hid hb
  have CC : Hid (∀ W, Below w.heap.size w W → Calls Tryz.prog 76 #[.agg #[.bool neg, .slice ao n cap], .agg #[.bool neg', .slice ao' n' cap']] W fun e w' => ∃ s ao n cap s' ao' n' cap', e = .returned (.tuple #[.agg #[.bool s, .slice ao n cap], .agg #[.bool s', .slice ao' n' cap'], .int .i64 0]) ∧ IsInt w' (.agg #[.bool s, .slice ao n cap]) (a.tdiv b) ∧ IsInt w' (.agg #[.bool s', .slice ao' n' cap']) (a.tmod b) ∧ Below W.heap.size W w') := fun W h => by
    have := rdiv_p _ _ a b W (ha.below h) (hb.below h)
    unfold DvP at this
    refine this.mono ?_
    rintro e w' ⟨s, ao, n, cap, s', ao', n', cap', rfl, h1, h2, h3⟩
    rw [if_neg h0] at h1 h2 ⊢
    exact ⟨s, ao, n, cap, s', ao', n', cap', rfl, h1, h2, h3⟩

  clear ha hb h0
  go_enter Tryz.func46, Tryz.ntmps46
  go_wp2_with fail
  obtain ⟨x1, x2, x3, hb0⟩ := three_boxes 40 w neg neg' false ao ao' none n cap n' cap' 0 0 _ rfl
  generalize hW0 : (((w.alloc (.cells #[.bool neg, .slice ao n cap] 40)).alloc (.cells #[.bool neg', .slice ao' n' cap'] 40)).alloc (.cells #[.bool false, .slice none 0 0] 40)) = W0 at *
  clear hW0
  have HB0 := hid hb0
  have HX2 := hid x2
  have HX3 := hid x3
  obtain ⟨c0, c1⟩ := x1.c
  obtain ⟨c2, c3⟩ := x2.c
  have C := hid (CC.out W0 hb0)
  clear x1 x2 x3 hb0
  go_wp2_with (go_at_call 76; (with_reducible refine C.out.mono ?_); rintro e W1 ⟨sq, aq, nq, cq, sr, ar, nr, cr, rfl, hQ, hR, b1⟩; have v1 := Baa W1 (.cells #[.bool sq, .slice aq nq cq] 40) (.cells #[.bool sr, .slice ar nr cr] 40); have y1 := (Box.new 40 W1 sq aq nq cq).alloc (.cells #[.bool sr, .slice ar nr cr] 40); have y2 := Box.new 40 (W1.alloc (.cells #[.bool sq, .slice aq nq cq] 40)) sr ar nr cr; rw [size_alloc] at y2; have q0 := (HX3.out.on b1).on v1; have q1 := q0.set2 sq aq nq cq; obtain ⟨r0, r1⟩ := q0.c; obtain ⟨f0, f1⟩ := q0.f; obtain ⟨t0, t1⟩ := q1.c; obtain ⟨y3, y4⟩ := y1.c; obtain ⟨y5, y6⟩ := y2.c; have HQ := hid q0; have HI := hid (hQ.below v1); have HB1 := hid (Bt (Bt HB0.out b1) v1); clear b1 q0 q1 hQ hR c0 c1 c2 c3 v1 y1 y2)
  (try simp only [Exit.inBlock, Exit.then]); refine bodyPost_ret (v := .tuple #[.agg #[.bool sq, .slice aq nq cq], .int .i64 0]) (by simp [results, Tryz.results46, go_sem, t0, t1]) rfl ?_
  exact ⟨_, _, _, _, rfl, HI.out.setBox HQ.out _ _, store2_below HB1.out (by omega)⟩
set_option maxHeartbeats 4000000 in
theorem rreck_rest (neg neg' : Bool) (ao ao' : Option Addr) (n cap n' cap' : Nat) (a b : Int) (w : World) (ha : IsInt w (.agg #[.bool neg, .slice ao n cap]) a) (hb : IsInt w (.agg #[.bool neg', .slice ao' n' cap']) b) (h0 : b ≠ 0) :
    Calls Tryz.prog 46 #[.int .i64 5, .agg #[.bool neg, .slice ao n cap], .agg #[.bool neg', .slice ao' n' cap']] w (RkPost w (a.tmod b, 0)) := by
  have HA := hid ha
  have HB := hid hb
  have CC : Hid (∀ W, Below w.heap.size w W → Calls Tryz.prog 76 #[.agg #[.bool neg, .slice ao n cap], .agg #[.bool neg', .slice ao' n' cap']] W fun e w' => ∃ s ao n cap s' ao' n' cap', e = .returned (.tuple #[.agg #[.bool s, .slice ao n cap], .agg #[.bool s', .slice ao' n' cap'], .int .i64 0]) ∧ IsInt w' (.agg #[.bool s, .slice ao n cap]) (a.tdiv b) ∧ IsInt w' (.agg #[.bool s', .slice ao' n' cap']) (a.tmod b) ∧ Below W.heap.size W w') := fun W h => by
    have := rdiv_p _ _ a b W (ha.below h) (hb.below h)
    unfold DvP at this
    refine this.mono ?_
    rintro e w' ⟨s, ao, n, cap, s', ao', n', cap', rfl, h1, h2, h3⟩
    rw [if_neg h0] at h1 h2 ⊢
    exact ⟨s, ao, n, cap, s', ao', n', cap', rfl, h1, h2, h3⟩

  clear ha hb h0
  go_enter Tryz.func46, Tryz.ntmps46
  go_wp2_with fail
  obtain ⟨x1, x2, x3, hb0⟩ := three_boxes 40 w neg neg' false ao ao' none n cap n' cap' 0 0 _ rfl
  generalize hW0 : (((w.alloc (.cells #[.bool neg, .slice ao n cap] 40)).alloc (.cells #[.bool neg', .slice ao' n' cap'] 40)).alloc (.cells #[.bool false, .slice none 0 0] 40)) = W0 at *
  clear hW0
  have HB0 := hid hb0
  have HX2 := hid x2
  have HX3 := hid x3
  obtain ⟨c0, c1⟩ := x1.c
  obtain ⟨c2, c3⟩ := x2.c
  have C := hid (CC.out W0 hb0)
  clear x1 x2 x3 hb0
  go_wp2_with (go_at_call 76; (with_reducible refine C.out.mono ?_); rintro e W1 ⟨sq, aq, nq, cq, sr, ar, nr, cr, rfl, hQ, hR, b1⟩; have v1 := Baa W1 (.cells #[.bool sq, .slice aq nq cq] 40) (.cells #[.bool sr, .slice ar nr cr] 40); have y1 := (Box.new 40 W1 sq aq nq cq).alloc (.cells #[.bool sr, .slice ar nr cr] 40); have y2 := Box.new 40 (W1.alloc (.cells #[.bool sq, .slice aq nq cq] 40)) sr ar nr cr; rw [size_alloc] at y2; have q0 := (HX3.out.on b1).on v1; have q1 := q0.set2 sr ar nr cr; obtain ⟨r0, r1⟩ := q0.c; obtain ⟨f0, f1⟩ := q0.f; obtain ⟨t0, t1⟩ := q1.c; obtain ⟨y3, y4⟩ := y1.c; obtain ⟨y5, y6⟩ := y2.c; have HQ := hid q0; have HI := hid (hR.below v1); have HB1 := hid (Bt (Bt HB0.out b1) v1); clear b1 q0 q1 hQ hR c0 c1 c2 c3 v1 y1 y2)
  (try simp only [Exit.inBlock, Exit.then]); refine bodyPost_ret (v := .tuple #[.agg #[.bool sr, .slice ar nr cr], .int .i64 0]) (by simp [results, Tryz.results46, go_sem, t0, t1]) rfl ?_
  exact ⟨_, _, _, _, rfl, HI.out.setBox HQ.out _ _, store2_below HB1.out (by omega)⟩
set_option maxHeartbeats 4000000 in
theorem rreck_mod (neg neg' : Bool) (ao ao' : Option Addr) (n cap n' cap' : Nat) (a b : Int) (w : World) (ha : IsInt w (.agg #[.bool neg, .slice ao n cap]) a) (hb : IsInt w (.agg #[.bool neg', .slice ao' n' cap']) b) (h0 : b ≠ 0) :
    Calls Tryz.prog 46 #[.int .i64 6, .agg #[.bool neg, .slice ao n cap], .agg #[.bool neg', .slice ao' n' cap']] w (RkPost w (modZ a b, 0)) := by
  have HA := hid ha
  have HB := hid hb
  have CC : Hid (∀ W, Below w.heap.size w W → Calls Tryz.prog 76 #[.agg #[.bool neg, .slice ao n cap], .agg #[.bool neg', .slice ao' n' cap']] W fun e w' => ∃ s ao n cap s' ao' n' cap', e = .returned (.tuple #[.agg #[.bool s, .slice ao n cap], .agg #[.bool s', .slice ao' n' cap'], .int .i64 0]) ∧ IsInt w' (.agg #[.bool s, .slice ao n cap]) (a.tdiv b) ∧ IsInt w' (.agg #[.bool s', .slice ao' n' cap']) (a.tmod b) ∧ Below W.heap.size W w') := fun W h => by
    have := rdiv_p _ _ a b W (ha.below h) (hb.below h)
    unfold DvP at this
    refine this.mono ?_
    rintro e w' ⟨s, ao, n, cap, s', ao', n', cap', rfl, h1, h2, h3⟩
    rw [if_neg h0] at h1 h2 ⊢
    exact ⟨s, ao, n, cap, s', ao', n', cap', rfl, h1, h2, h3⟩
  have CA : Hid (∀ W (s : Bool) (a' : Option Addr) (m c : Nat) (rz : Int), Below w.heap.size w W → IsInt W (.agg #[.bool s, .slice a' m c]) rz → Calls Tryz.prog 73 #[.agg #[.bool s, .slice a' m c], .agg #[.bool neg', .slice ao' n' cap']] W (RkPost W (bigZ (rz + b)))) := fun W s a' m c rz h hi => radd_rk _ _ rz b W hi (hb.below h)
  obtain ⟨pb1, pb2, pb3, pb4, pb5, pb6, pb7⟩ := hb.parts
  obtain ⟨qz, hqz⟩ : ∃ r : Int, r = a.tdiv b := ⟨_, rfl⟩
  obtain ⟨rz, hrz⟩ : ∃ r : Int, r = a.tmod b := ⟨_, rfl⟩
  rw [← hqz, ← hrz] at CC
  obtain ⟨res, hres⟩ : ∃ r : Int × Int, r = (modZ a b, 0) := ⟨_, rfl⟩
  rw [← hres]
  have HL : Hid (rz = 0 ∨ decide (rz < 0) = neg' → res = (rz, 0)) := fun h => by
    rw [hres, hrz]
    rw [hrz, pb2] at h
    unfold modZ
    rw [if_neg (fun e => by rcases h with h | h; exact e.1 h; exact e.2 h)]
  have HM : Hid (rz ≠ 0 → decide (rz < 0) ≠ neg' → res = bigZ (rz + b)) := fun h1 h2 => by
    rw [hrz] at h1 h2 ⊢
    rw [pb2] at h2
    rw [hres, bigZ_small (mod_small h0 pb3 h2)]
    unfold modZ
    rw [if_pos ⟨h1, h2⟩]
  clear ha hb h0 hres hqz hrz pb1 pb2 pb3 pb4 pb5 pb6 pb7
  go_enter Tryz.func46, Tryz.ntmps46
  go_wp2_with fail
  obtain ⟨x1, x2, x3, hb0⟩ := three_boxes 40 w neg neg' false ao ao' none n cap n' cap' 0 0 _ rfl
  generalize hW0 : (((w.alloc (.cells #[.bool neg, .slice ao n cap] 40)).alloc (.cells #[.bool neg', .slice ao' n' cap'] 40)).alloc (.cells #[.bool false, .slice none 0 0] 40)) = W0 at *
  clear hW0
  have HB0 := hid hb0
  have HX2 := hid x2
  have HX3 := hid x3
  obtain ⟨c0, c1⟩ := x1.c
  obtain ⟨c2, c3⟩ := x2.c
  have C := hid (CC.out W0 hb0)
  clear x1 x2 x3 hb0
  go_wp2_with fail
  (with_reducible refine C.out.mono ?_)
  rintro e W1 ⟨sq, aq, nq, cq, sr, ar, nr, cr, rfl, hQ, hR, b1⟩
  obtain ⟨pr1, pr2, pr3, pr4, pr5, pr6, pr7⟩ := hR.parts
  clear pr7
  have v1 := Baa W1 (.cells #[.bool sq, .slice aq nq cq] 40) (.cells #[.bool sr, .slice ar nr cr] 40)
  have y1 := (Box.new 40 W1 sq aq nq cq).alloc (.cells #[.bool sr, .slice ar nr cr] 40)
  have y2 := Box.new 40 (W1.alloc (.cells #[.bool sq, .slice aq nq cq] 40)) sr ar nr cr
  rw [size_alloc] at y2
  have HB1 := hid (Bt b1 v1)
  have HY2 := hid y2
  have HI := hid (hR.below v1)
  have HX2' := hid ((HX2.out.on b1).on v1)
  have HX3' := hid ((HX3.out.on b1).on v1)
  obtain ⟨d0, d1⟩ := HX2'.out.c
  obtain ⟨y3, y4⟩ := y2.c
  obtain ⟨r0, r1⟩ := HX3'.out.c
  obtain ⟨f0, f1⟩ := HX3'.out.f
  clear b1 v1 y1 y2 hQ hR c0 c1 c2 c3
  by_cases h1 : nr = 0
  · have hl := HL.out (.inl (pr1.1 h1))
    have HLR := hid hl
    have q1 := HX3'.out.set2 sr ar nr cr
    obtain ⟨t0, t1⟩ := q1.c
    clear hl q1 pr1 pr2 pr3
    subst h1
    go_wp2_with fail
    (try simp only [Exit.inBlock, Exit.then]); refine bodyPost_ret (v := .tuple #[.agg #[.bool sr, .slice ar 0 cr], .int .i64 0]) (by simp [results, Tryz.results46, go_sem, t0, t1]) rfl ?_
    rw [HLR.out]
    exact ⟨_, _, _, _, rfl, HI.out.setBox HX3'.out _ _, store2_below (Bt HB0.out HB1.out) (by omega)⟩
  · have e1 : 0 < nr := by omega
    by_cases h2 : sr = neg'
    · have hl := HL.out (.inr (by rw [← pr2]; exact h2))
      have HLR := hid hl
      have q1 := HX3'.out.set2 sr ar nr cr
      obtain ⟨t0, t1⟩ := q1.c
      have e2 : (!sr == neg') = false := by rw [h2]; simp
      clear hl q1 pr1 pr2 pr3 h1 h2
      go_wp2_with fail
      (try simp only [Exit.inBlock, Exit.then]); refine bodyPost_ret (v := .tuple #[.agg #[.bool sr, .slice ar nr cr], .int .i64 0]) (by simp [results, Tryz.results46, go_sem, t0, t1]) rfl ?_
      rw [HLR.out]
      exact ⟨_, _, _, _, rfl, HI.out.setBox HX3'.out _ _, store2_below (Bt HB0.out HB1.out) (by omega)⟩
    · have hl := HM.out (fun e => h1 (pr1.2 e)) (by rw [← pr2]; exact h2)
      have e2 : (!sr == neg') = true := by simpa using h2
      have C2 := hid (CA.out _ sr ar nr cr rz (Bt HB0.out HB1.out) HI.out)
      rw [← hl] at C2
      unfold RkPost at C2
      clear hl pr1 pr2 pr3 h1 h2
      go_wp2_with (go_at_call 73; (with_reducible refine C2.out.mono ?_); rintro e W3 ⟨s3, a3, n3, k3, rfl, hI3, b3⟩; have q0 := HX3'.out.on b3; have q1 := q0.set2 s3 a3 n3 k3; clear r0 r1 f0 f1; obtain ⟨r0, r1⟩ := q0.c; obtain ⟨f0, f1⟩ := q0.f; obtain ⟨t0, t1⟩ := q1.c; have HQ := hid q0; have HI3 := hid hI3; have HB3 := hid (Bt (Bt HB0.out HB1.out) b3); clear b3 q0 q1 hI3)
      (try simp only [Exit.inBlock, Exit.then]); refine bodyPost_ret (v := .tuple #[.agg #[.bool s3, .slice a3 n3 k3], .int .i64 res.2]) (by simp [results, Tryz.results46, go_sem, t0, t1]) rfl ?_
      exact ⟨_, _, _, _, rfl, HI3.out.setBox HQ.out _ _, store2_below HB3.out (by omega)⟩
set_option maxHeartbeats 4000000 in
theorem rreck_none (neg neg' : Bool) (ao ao' : Option Addr) (n cap n' cap' : Nat) (op : Int) (ho : op < 1 ∨ 6 < op) (w : World) :
    Calls Tryz.prog 46 #[.int .i64 op, .agg #[.bool neg, .slice ao n cap], .agg #[.bool neg', .slice ao' n' cap']] w (RkPost w (0, 1)) := by
  have e1 : (op == 1) = false := by simp; omega
  have e2 : (op == 2) = false := by simp; omega
  have e3 : (op == 3) = false := by simp; omega
  have e4 : (op == 4) = false := by simp; omega
  have e5 : (op == 5) = false := by simp; omega
  have e6 : (op == 6) = false := by simp; omega
  have HZ := hid (fun W : World => zero_is W)
  clear ho
  obtain ⟨x1, x2, x3, hb0⟩ := three_boxes 40 w neg neg' false ao ao' none n cap n' cap' 0 0 _ rfl
  obtain ⟨r0, r1⟩ := x3.c
  obtain ⟨f0, f1⟩ := x3.f
  have q1 := x3.set2 false none 0 0
  obtain ⟨t0, t1⟩ := q1.c
  have HB0 := hid hb0
  clear x1 x2 x3 hb0 q1
  go_enter Tryz.func46, Tryz.ntmps46
  go_wp2_with fail
  (try simp only [Exit.inBlock, Exit.then]); refine bodyPost_ret (v := .tuple #[.agg #[.bool false, .slice none 0 0], .int .i64 1]) (by simp [results, Tryz.results46, go_sem, t0, t1]) rfl ?_
  exact ⟨_, _, _, _, rfl, HZ.out _, by first | exact HB0.out | exact store2_below HB0.out (by omega)⟩
theorem rreckon_any (op : Int) (x y : Value) (a b : Int) (w : World) (hx : IsInt w x a) (hy : IsInt w y b) : Calls Tryz.prog 46 #[.int .i64 op, x, y] w (RkPost w (reckM op a b)) := by
  have ha := hx
  have hb := hy
  obtain ⟨s, ao, n, cap, l, rfl, _⟩ := hx.open_
  obtain ⟨s', ao', n', cap', l', rfl, _⟩ := hy.open_
  by_cases h1 : op = 1
  · subst h1; exact rreck_plus s s' ao ao' n cap n' cap' a b w ha hb
  by_cases h2 : op = 2
  · subst h2; exact rreck_minus s s' ao ao' n cap n' cap' a b w ha hb
  by_cases h3 : op = 3
  · subst h3; exact rreck_times s s' ao ao' n cap n' cap' a b w ha hb
  by_cases h4 : op = 4
  · subst h4
    show Calls _ _ _ _ (RkPost w (if b = 0 then (0, 11) else (a.tdiv b, 0)))
    by_cases h0 : b = 0
    · rw [if_pos h0]; exact rreck_z4 s s' ao ao' n cap n' cap' a b w ha hb h0
    · rw [if_neg h0]; exact rreck_quot s s' ao ao' n cap n' cap' a b w ha hb h0
  by_cases h5 : op = 5
  · subst h5
    show Calls _ _ _ _ (RkPost w (if b = 0 then (0, 11) else (a.tmod b, 0)))
    by_cases h0 : b = 0
    · rw [if_pos h0]; exact rreck_z5 s s' ao ao' n cap n' cap' a b w ha hb h0
    · rw [if_neg h0]; exact rreck_rest s s' ao ao' n cap n' cap' a b w ha hb h0
  by_cases h6 : op = 6
  · subst h6
    show Calls _ _ _ _ (RkPost w (if b = 0 then (0, 11) else (modZ a b, 0)))
    by_cases h0 : b = 0
    · rw [if_pos h0]; exact rreck_z6 s s' ao ao' n cap n' cap' a b w ha hb h0
    · rw [if_neg h0]; exact rreck_mod s s' ao ao' n cap n' cap' a b w ha hb h0
  have := rreck_none s s' ao ao' n cap n' cap' op (by omega) w
  unfold reckM
  rw [if_neg h1, if_neg h2, if_neg h3, if_neg h4, if_neg h5, if_neg h6]
  exact this
set_option maxHeartbeats 4000000 in
theorem rneed_any (x : Value) (z : Int) (w : World) (hx : IsInt w x z) : Calls Tryz.prog 31 #[x] w fun e w' => e = .returned (.int .i64 (needZ z)) ∧ Below w.heap.size w w' := by
  have hi := hx
  obtain ⟨neg, ao, n, cap, l, rfl, R, g, hz⟩ := hx.open_
  obtain ⟨p1, p2, p3, p4, p5, p6, p7⟩ := hi.parts
  have HNZ : Hid (needZ z = if fixB z = true then 0 else 2 + ((n : Nat) : Int)) := by
    unfold Hid needZ; rw [← p7]
  have b0 := Ba w (.cells #[.bool neg, .slice ao n cap] 40)
  have x0 := Box.new 40 w neg ao n cap
  obtain ⟨c0, c1⟩ := x0.c
  have C := hid (fixed_any neg ao n cap l _ (R.below b0) g)
  rw [← hz] at C
  unfold FixPost at C
  have HX := hid x0
  have HB0 := hid b0
  obtain ⟨fb, hfb⟩ : ∃ b, b = fixB z := ⟨_, rfl⟩
  rw [← hfb] at C HNZ
  clear R g hx hi hz p1 p2 p3 p7 b0 x0 hfb
  cases fb
  · go_enter Tryz.func31, Tryz.ntmps31
    go_wp2_with (go_at_call 28; (with_reducible refine C.out.mono ?_); rintro e W1 ⟨v1, rfl, _, b1⟩; obtain ⟨d0, d1⟩ := (HX.out.on b1).c; have HB1 := hid (Bt HB0.out b1); clear b1 c0 c1)
    go_ret
    exact ⟨by rw [HNZ.out]; rfl, HB1.out⟩
  · go_enter Tryz.func31, Tryz.ntmps31
    go_wp2_with (go_at_call 28; (with_reducible refine C.out.mono ?_); rintro e W1 ⟨v1, rfl, _, b1⟩; have HB1 := hid (Bt HB0.out b1); clear b1 c0 c1)
    go_ret
    exact ⟨by rw [HNZ.out]; rfl, HB1.out⟩
end Go.Proofs.YtdekkieajffblaaGreat
