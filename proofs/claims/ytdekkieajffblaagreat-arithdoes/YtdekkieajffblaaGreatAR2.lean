/-
  Walks: arith.modulo, arith.Reckon.
-/
import Derived.Test.YtdekkieajffblaaGreatAR1
set_option linter.unusedVariables false
set_option linter.unusedSimpArgs false
set_option maxRecDepth 100000
namespace Go.Proofs.YtdekkieajffblaaGreat
open Go.RowKit

theorem add_rk (x y : Value) (a b : Int) (w : World) (hx : IsInt w x a) (hy : IsInt w y b) : Calls Tryz.prog 51 #[x, y] w (RkPost w (bigZ (a + b))) := (add_is x y a b w hx hy).mono fun _ _ h => h.rk
theorem sub_rk (x y : Value) (a b : Int) (w : World) (hx : IsInt w x a) (hy : IsInt w y b) : Calls Tryz.prog 52 #[x, y] w (RkPost w (bigZ (a + -b))) := (sub_all x y a b w hx hy).mono fun _ _ h => h.rk
theorem mul_rk (x y : Value) (a b : Int) (w : World) (hx : IsInt w x a) (hy : IsInt w y b) : Calls Tryz.prog 53 #[x, y] w (RkPost w (bigZ (a * b))) := (mul_is x y a b w hx hy).mono fun _ _ h => h.rk
/-- What a division answers, its parts seen. -/
def DvP (w : World) (a b : Int) (e : Ending) (w' : World) : Prop := ∃ s ao n cap s' ao' n' cap', e = .returned (.tuple #[.agg #[.bool s, .slice ao n cap], .agg #[.bool s', .slice ao' n' cap'], .int .i64 (if b = 0 then 11 else 0)]) ∧ IsInt w' (.agg #[.bool s, .slice ao n cap]) (if b = 0 then 0 else a.tdiv b) ∧ IsInt w' (.agg #[.bool s', .slice ao' n' cap']) (if b = 0 then 0 else a.tmod b) ∧ Below w.heap.size w w'
theorem DvPost.p {w w' : World} {a b : Int} {e : Ending} (h : DvPost w a b e w') : DvP w a b e w' := by
  obtain ⟨xq, xr, rfl, h1, h2, h3⟩ := h
  have k1 := h1
  have k2 := h2
  obtain ⟨s, ao, n, cap, l, rfl, _⟩ := h1.open_
  obtain ⟨s', ao', n', cap', l', rfl, _⟩ := h2.open_
  exact ⟨s, ao, n, cap, s', ao', n', cap', rfl, k1, k2, h3⟩
theorem div_p (x y : Value) (a b : Int) (w : World) (hx : IsInt w x a) (hy : IsInt w y b) : Calls Tryz.prog 54 #[x, y] w (DvP w a b) := (div_post x y a b w hx hy).mono fun _ _ h => h.p
set_option maxHeartbeats 4000000 in
theorem reck_plus (neg neg' : Bool) (ao ao' : Option Addr) (n cap n' cap' : Nat) (a b : Int) (w : World) (ha : IsInt w (.agg #[.bool neg, .slice ao n cap]) a) (hb : IsInt w (.agg #[.bool neg', .slice ao' n' cap']) b) :
    Calls Tryz.prog 26 #[.int .i64 1, .agg #[.bool neg, .slice ao n cap], .agg #[.bool neg', .slice ao' n' cap']] w (RkPost w (bigZ (a + b))) := by
  have HA := hid ha
  have HB := hid hb
  have CC : Hid (∀ W, Below w.heap.size w W → Calls Tryz.prog 51 #[.agg #[.bool neg, .slice ao n cap], .agg #[.bool neg', .slice ao' n' cap']] W (RkPost W (bigZ (a + b)))) := fun W h => add_rk _ _ a b W (ha.below h) (hb.below h)
  obtain ⟨r, hr⟩ : ∃ r, r = (bigZ (a + b)) := ⟨_, rfl⟩
  rw [← hr] at CC ⊢
  unfold RkPost at CC
  clear hr
  clear ha hb
  go_enter Tryz.func26, Tryz.ntmps26
  go_wp2_with fail
  obtain ⟨x1, x2, x3, hb0⟩ := three_boxes 40 w neg neg' false ao ao' none n cap n' cap' 0 0 _ rfl
  generalize hW0 : (((w.alloc (.cells #[.bool neg, .slice ao n cap] 40)).alloc (.cells #[.bool neg', .slice ao' n' cap'] 40)).alloc (.cells #[.bool false, .slice none 0 0] 40)) = W0 at *
  clear hW0
  have HB0 := hid hb0
  have HX3 := hid x3
  obtain ⟨c0, c1⟩ := x1.c
  obtain ⟨c2, c3⟩ := x2.c
  have C := hid (CC.out W0 hb0)
  clear x1 x2 x3 hb0
  go_wp2_with (go_at_call 51; (with_reducible refine C.out.mono ?_); rintro e W1 ⟨s, ar, nr, cr, rfl, hI, b1⟩; have q0 := HX3.out.on b1; have q1 := q0.set2 s ar nr cr; obtain ⟨r0, r1⟩ := q0.c; obtain ⟨f0, f1⟩ := q0.f; obtain ⟨t0, t1⟩ := q1.c; have HQ := hid q0; have HI := hid hI; have HB1 := hid (Bt HB0.out b1); clear b1 q0 q1 hI c0 c1 c2 c3)
  (try simp only [Exit.inBlock, Exit.then]); refine bodyPost_ret (v := .tuple #[.agg #[.bool s, .slice ar nr cr], .int .i64 r.2]) (by simp [results, Tryz.results26, go_sem, t0, t1]) rfl ?_
  exact ⟨_, _, _, _, rfl, HI.out.setBox HQ.out _ _, store2_below HB1.out (by omega)⟩
set_option maxHeartbeats 4000000 in
theorem reck_minus (neg neg' : Bool) (ao ao' : Option Addr) (n cap n' cap' : Nat) (a b : Int) (w : World) (ha : IsInt w (.agg #[.bool neg, .slice ao n cap]) a) (hb : IsInt w (.agg #[.bool neg', .slice ao' n' cap']) b) :
    Calls Tryz.prog 26 #[.int .i64 2, .agg #[.bool neg, .slice ao n cap], .agg #[.bool neg', .slice ao' n' cap']] w (RkPost w (bigZ (a + -b))) := by
  have HA := hid ha
  have HB := hid hb
  have CC : Hid (∀ W, Below w.heap.size w W → Calls Tryz.prog 52 #[.agg #[.bool neg, .slice ao n cap], .agg #[.bool neg', .slice ao' n' cap']] W (RkPost W (bigZ (a + -b)))) := fun W h => sub_rk _ _ a b W (ha.below h) (hb.below h)
  obtain ⟨r, hr⟩ : ∃ r, r = (bigZ (a + -b)) := ⟨_, rfl⟩
  rw [← hr] at CC ⊢
  unfold RkPost at CC
  clear hr
  clear ha hb
  go_enter Tryz.func26, Tryz.ntmps26
  go_wp2_with fail
  obtain ⟨x1, x2, x3, hb0⟩ := three_boxes 40 w neg neg' false ao ao' none n cap n' cap' 0 0 _ rfl
  generalize hW0 : (((w.alloc (.cells #[.bool neg, .slice ao n cap] 40)).alloc (.cells #[.bool neg', .slice ao' n' cap'] 40)).alloc (.cells #[.bool false, .slice none 0 0] 40)) = W0 at *
  clear hW0
  have HB0 := hid hb0
  have HX3 := hid x3
  obtain ⟨c0, c1⟩ := x1.c
  obtain ⟨c2, c3⟩ := x2.c
  have C := hid (CC.out W0 hb0)
  clear x1 x2 x3 hb0
  go_wp2_with (go_at_call 52; (with_reducible refine C.out.mono ?_); rintro e W1 ⟨s, ar, nr, cr, rfl, hI, b1⟩; have q0 := HX3.out.on b1; have q1 := q0.set2 s ar nr cr; obtain ⟨r0, r1⟩ := q0.c; obtain ⟨f0, f1⟩ := q0.f; obtain ⟨t0, t1⟩ := q1.c; have HQ := hid q0; have HI := hid hI; have HB1 := hid (Bt HB0.out b1); clear b1 q0 q1 hI c0 c1 c2 c3)
  (try simp only [Exit.inBlock, Exit.then]); refine bodyPost_ret (v := .tuple #[.agg #[.bool s, .slice ar nr cr], .int .i64 r.2]) (by simp [results, Tryz.results26, go_sem, t0, t1]) rfl ?_
  exact ⟨_, _, _, _, rfl, HI.out.setBox HQ.out _ _, store2_below HB1.out (by omega)⟩
set_option maxHeartbeats 4000000 in
theorem reck_times (neg neg' : Bool) (ao ao' : Option Addr) (n cap n' cap' : Nat) (a b : Int) (w : World) (ha : IsInt w (.agg #[.bool neg, .slice ao n cap]) a) (hb : IsInt w (.agg #[.bool neg', .slice ao' n' cap']) b) :
    Calls Tryz.prog 26 #[.int .i64 3, .agg #[.bool neg, .slice ao n cap], .agg #[.bool neg', .slice ao' n' cap']] w (RkPost w (bigZ (a * b))) := by
  have HA := hid ha
  have HB := hid hb
  have CC : Hid (∀ W, Below w.heap.size w W → Calls Tryz.prog 53 #[.agg #[.bool neg, .slice ao n cap], .agg #[.bool neg', .slice ao' n' cap']] W (RkPost W (bigZ (a * b)))) := fun W h => mul_rk _ _ a b W (ha.below h) (hb.below h)
  obtain ⟨r, hr⟩ : ∃ r, r = (bigZ (a * b)) := ⟨_, rfl⟩
  rw [← hr] at CC ⊢
  unfold RkPost at CC
  clear hr
  clear ha hb
  go_enter Tryz.func26, Tryz.ntmps26
  go_wp2_with fail
  obtain ⟨x1, x2, x3, hb0⟩ := three_boxes 40 w neg neg' false ao ao' none n cap n' cap' 0 0 _ rfl
  generalize hW0 : (((w.alloc (.cells #[.bool neg, .slice ao n cap] 40)).alloc (.cells #[.bool neg', .slice ao' n' cap'] 40)).alloc (.cells #[.bool false, .slice none 0 0] 40)) = W0 at *
  clear hW0
  have HB0 := hid hb0
  have HX3 := hid x3
  obtain ⟨c0, c1⟩ := x1.c
  obtain ⟨c2, c3⟩ := x2.c
  have C := hid (CC.out W0 hb0)
  clear x1 x2 x3 hb0
  go_wp2_with (go_at_call 53; (with_reducible refine C.out.mono ?_); rintro e W1 ⟨s, ar, nr, cr, rfl, hI, b1⟩; have q0 := HX3.out.on b1; have q1 := q0.set2 s ar nr cr; obtain ⟨r0, r1⟩ := q0.c; obtain ⟨f0, f1⟩ := q0.f; obtain ⟨t0, t1⟩ := q1.c; have HQ := hid q0; have HI := hid hI; have HB1 := hid (Bt HB0.out b1); clear b1 q0 q1 hI c0 c1 c2 c3)
  (try simp only [Exit.inBlock, Exit.then]); refine bodyPost_ret (v := .tuple #[.agg #[.bool s, .slice ar nr cr], .int .i64 r.2]) (by simp [results, Tryz.results26, go_sem, t0, t1]) rfl ?_
  exact ⟨_, _, _, _, rfl, HI.out.setBox HQ.out _ _, store2_below HB1.out (by omega)⟩
set_option maxHeartbeats 4000000 in
theorem reck_quot (neg neg' : Bool) (ao ao' : Option Addr) (n cap n' cap' : Nat) (a b : Int) (w : World) (ha : IsInt w (.agg #[.bool neg, .slice ao n cap]) a) (hb : IsInt w (.agg #[.bool neg', .slice ao' n' cap']) b) :
    Calls Tryz.prog 26 #[.int .i64 4, .agg #[.bool neg, .slice ao n cap], .agg #[.bool neg', .slice ao' n' cap']] w (RkPost w (if b = 0 then (0, 11) else (a.tdiv b, 0))) := by
  have HA := hid ha
  have HB := hid hb
  have CC : Hid (∀ W, Below w.heap.size w W → Calls Tryz.prog 54 #[.agg #[.bool neg, .slice ao n cap], .agg #[.bool neg', .slice ao' n' cap']] W (DvP W a b)) := fun W h => div_p _ _ a b W (ha.below h) (hb.below h)
  unfold DvP at CC
  obtain ⟨er, her⟩ : ∃ r : Int, r = if b = 0 then 11 else 0 := ⟨_, rfl⟩
  obtain ⟨qz, hqz⟩ : ∃ r : Int, r = if b = 0 then 0 else a.tdiv b := ⟨_, rfl⟩
  obtain ⟨rz, hrz⟩ : ∃ r : Int, r = if b = 0 then 0 else a.tmod b := ⟨_, rfl⟩
  rw [← her, ← hqz, ← hrz] at CC
  have hres : (if b = 0 then (0, 11) else (a.tdiv b, 0)) = (qz, er) := by
    rw [her, hqz]; by_cases h0 : b = 0 <;> simp [h0]
  rw [hres]
  clear hres her hqz hrz
  clear ha hb
  go_enter Tryz.func26, Tryz.ntmps26
  go_wp2_with fail
  obtain ⟨x1, x2, x3, hb0⟩ := three_boxes 40 w neg neg' false ao ao' none n cap n' cap' 0 0 _ rfl
  generalize hW0 : (((w.alloc (.cells #[.bool neg, .slice ao n cap] 40)).alloc (.cells #[.bool neg', .slice ao' n' cap'] 40)).alloc (.cells #[.bool false, .slice none 0 0] 40)) = W0 at *
  clear hW0
  have HB0 := hid hb0
  have HX3 := hid x3
  obtain ⟨c0, c1⟩ := x1.c
  obtain ⟨c2, c3⟩ := x2.c
  have C := hid (CC.out W0 hb0)
  clear x1 x2 x3 hb0
  go_wp2_with (go_at_call 54; (with_reducible refine C.out.mono ?_); rintro e W1 ⟨sq, aq, nq, cq, sr, ar, nr, cr, rfl, hQ, hR, b1⟩; have v1 := Baa W1 (.cells #[.bool sq, .slice aq nq cq] 40) (.cells #[.bool sr, .slice ar nr cr] 40); have y1 := (Box.new 40 W1 sq aq nq cq).alloc (.cells #[.bool sr, .slice ar nr cr] 40); have y2 := Box.new 40 (W1.alloc (.cells #[.bool sq, .slice aq nq cq] 40)) sr ar nr cr; rw [size_alloc] at y2; have q0 := (HX3.out.on b1).on v1; have q1 := q0.set2 sq aq nq cq; obtain ⟨r0, r1⟩ := q0.c; obtain ⟨f0, f1⟩ := q0.f; obtain ⟨t0, t1⟩ := q1.c; obtain ⟨y3, y4⟩ := y1.c; obtain ⟨y5, y6⟩ := y2.c; have HQ := hid q0; have HI := hid (hQ.below v1); have HB1 := hid (Bt (Bt HB0.out b1) v1); clear b1 q0 q1 hQ hR c0 c1 c2 c3 v1 y1 y2)
  (try simp only [Exit.inBlock, Exit.then]); refine bodyPost_ret (v := .tuple #[.agg #[.bool sq, .slice aq nq cq], .int .i64 er]) (by simp [results, Tryz.results26, go_sem, t0, t1]) rfl ?_
  exact ⟨_, _, _, _, rfl, HI.out.setBox HQ.out _ _, store2_below HB1.out (by omega)⟩
set_option maxHeartbeats 4000000 in
theorem reck_rest (neg neg' : Bool) (ao ao' : Option Addr) (n cap n' cap' : Nat) (a b : Int) (w : World) (ha : IsInt w (.agg #[.bool neg, .slice ao n cap]) a) (hb : IsInt w (.agg #[.bool neg', .slice ao' n' cap']) b) :
    Calls Tryz.prog 26 #[.int .i64 5, .agg #[.bool neg, .slice ao n cap], .agg #[.bool neg', .slice ao' n' cap']] w (RkPost w (if b = 0 then (0, 11) else (a.tmod b, 0))) := by
  have HA := hid ha
  have HB := hid hb
  have CC : Hid (∀ W, Below w.heap.size w W → Calls Tryz.prog 54 #[.agg #[.bool neg, .slice ao n cap], .agg #[.bool neg', .slice ao' n' cap']] W (DvP W a b)) := fun W h => div_p _ _ a b W (ha.below h) (hb.below h)
  unfold DvP at CC
  obtain ⟨er, her⟩ : ∃ r : Int, r = if b = 0 then 11 else 0 := ⟨_, rfl⟩
  obtain ⟨qz, hqz⟩ : ∃ r : Int, r = if b = 0 then 0 else a.tdiv b := ⟨_, rfl⟩
  obtain ⟨rz, hrz⟩ : ∃ r : Int, r = if b = 0 then 0 else a.tmod b := ⟨_, rfl⟩
  rw [← her, ← hqz, ← hrz] at CC
  have hres : (if b = 0 then (0, 11) else (a.tmod b, 0)) = (rz, er) := by
    rw [her, hrz]; by_cases h0 : b = 0 <;> simp [h0]
  rw [hres]
  clear hres her hqz hrz
  clear ha hb
  go_enter Tryz.func26, Tryz.ntmps26
  go_wp2_with fail
  obtain ⟨x1, x2, x3, hb0⟩ := three_boxes 40 w neg neg' false ao ao' none n cap n' cap' 0 0 _ rfl
  generalize hW0 : (((w.alloc (.cells #[.bool neg, .slice ao n cap] 40)).alloc (.cells #[.bool neg', .slice ao' n' cap'] 40)).alloc (.cells #[.bool false, .slice none 0 0] 40)) = W0 at *
  clear hW0
  have HB0 := hid hb0
  have HX3 := hid x3
  obtain ⟨c0, c1⟩ := x1.c
  obtain ⟨c2, c3⟩ := x2.c
  have C := hid (CC.out W0 hb0)
  clear x1 x2 x3 hb0
  go_wp2_with (go_at_call 54; (with_reducible refine C.out.mono ?_); rintro e W1 ⟨sq, aq, nq, cq, sr, ar, nr, cr, rfl, hQ, hR, b1⟩; have v1 := Baa W1 (.cells #[.bool sq, .slice aq nq cq] 40) (.cells #[.bool sr, .slice ar nr cr] 40); have y1 := (Box.new 40 W1 sq aq nq cq).alloc (.cells #[.bool sr, .slice ar nr cr] 40); have y2 := Box.new 40 (W1.alloc (.cells #[.bool sq, .slice aq nq cq] 40)) sr ar nr cr; rw [size_alloc] at y2; have q0 := (HX3.out.on b1).on v1; have q1 := q0.set2 sr ar nr cr; obtain ⟨r0, r1⟩ := q0.c; obtain ⟨f0, f1⟩ := q0.f; obtain ⟨t0, t1⟩ := q1.c; obtain ⟨y3, y4⟩ := y1.c; obtain ⟨y5, y6⟩ := y2.c; have HQ := hid q0; have HI := hid (hR.below v1); have HB1 := hid (Bt (Bt HB0.out b1) v1); clear b1 q0 q1 hQ hR c0 c1 c2 c3 v1 y1 y2)
  (try simp only [Exit.inBlock, Exit.then]); refine bodyPost_ret (v := .tuple #[.agg #[.bool sr, .slice ar nr cr], .int .i64 er]) (by simp [results, Tryz.results26, go_sem, t0, t1]) rfl ?_
  exact ⟨_, _, _, _, rfl, HI.out.setBox HQ.out _ _, store2_below HB1.out (by omega)⟩
end Go.Proofs.YtdekkieajffblaaGreat
