import Derived.Test.YtdekkieajffblaaGreatDoorMath3
import Derived.Test.YtdekkieajffblaaGreatDoorW27
import Derived.Test.YtdekkieajffblaaGreatDoorW51
import Derived.Test.YtdekkieajffblaaGreatDoorG5
import Derived.Test.YtdekkieajffblaaGreatDoorV2
import Derived.Test.YtdekkieajffblaaGreatDoorW24
import Derived.Test.YtdekkieajffblaaGreatDoorAM1
set_option linter.unusedVariables false
set_option linter.unusedSimpArgs false
namespace Go.Proofs.YtdekkieajffblaaGreatDoor
open Go.RowKit
set_option maxHeartbeats 1000000 in
theorem divz_any (neg neg' : Bool) (ao ao' : Option Addr) (n cap cap' : Nat) (l : List Nat) (w : World) (R : Row .u32 B32 w ao n cap l) (R' : Row .u32 B32 w ao' 0 cap' []) (g : goodB neg l = true) (g' : goodB neg' [] = true) :
  Calls Tryz.prog 30 #[.agg #[.bool neg, .slice ao n cap], .agg #[.bool neg', .slice ao' 0 cap']] w fun e w' => e = .returned (.tuple #[.agg #[.bool false, .slice none 0 0], .agg #[.bool false, .slice none 0 0], .int .i64 11]) /\ Below w.heap.size w w' := by
 have HR := hid R
 have HR' := hid R'
 have G := hid g
 have G' := hid g'
 have hmx' := R'.most
 unfold maxLen at hmx'
 clear R R' g g'
 go_enter Tryz.func30, Tryz.ntmps30
 go_wp2_with fail
 obtain ⟨x1, x2, x3, x4, hb0⟩ := four_boxes 24 w neg neg' false false ao ao' none none n cap 0 cap' 0 0 0 0 _ rfl
 generalize hW0 : ((((w.alloc (.cells #[.bool neg, .slice ao n cap] 24)).alloc (.cells #[.bool neg', .slice ao' 0 cap'] 24)).alloc (.cells #[.bool false, .slice none 0 0] 24)).alloc (.cells #[.bool false, .slice none 0 0] 24)) = W0 at *
 clear hW0
 refine (good_any neg ao n cap l W0 (HR.out.below hb0)).mono ?_
 rintro e w1 ⟨rfl, hb1⟩
 rw [G.out]
 obtain ⟨c20, c21⟩ := (x2.on hb1).c
 have X2 := hid (x2.on hb1)
 have X3 := hid (x3.on hb1)
 have X4 := hid (x4.on hb1)
 have HB1 := hid (Bt hb0 hb1)
 clear x1 x2 x3 x4 hb0 hb1
 go_wp2_with fail
 refine (good_any neg' ao' 0 cap' [] w1 (HR'.out.below HB1.out)).mono ?_
 rintro e w2 ⟨rfl, hb2⟩
 rw [G'.out]
 clear c20 c21
 obtain ⟨c20, c21⟩ := (X2.out.on hb2).c
 have Y3 := hid (X3.out.on hb2)
 have Y4 := hid (X4.out.on hb2)
 obtain ⟨f0, f1⟩ := Y3.out.f
 obtain ⟨f2, f3⟩ := Y4.out.f
 obtain ⟨z0, z1⟩ := Y3.out.c
 obtain ⟨z2, z3⟩ := Y4.out.c
 have HB2 := hid (Bt HB1.out hb2)
 clear hb2 X2 X3 X4 HB1
 go_wp2
 have q1 := (Y3.out.set2 false none 0 0).far2 (q := w.heap.size + 1 + 1 + 1) (by omega) (.bool false) (.slice none 0 0)
 have q2 := (Y4.out.far2 (q := w.heap.size + 1 + 1) (by omega) (.bool false) (.slice none 0 0)).set2 false none 0 0
 obtain ⟨y0, y1⟩ := q1.c
 obtain ⟨y2, y3⟩ := q2.c
 have bF := ((((HB2.out.setCell (p := ⟨w.heap.size + 1 + 1, 0, none⟩) (by simp; omega) (.bool false)).setCell (p := ⟨w.heap.size + 1 + 1, 1, none⟩) (by simp; omega) (.slice none 0 0)).setCell (p := ⟨w.heap.size + 1 + 1 + 1, 0, none⟩) (by simp; omega) (.bool false)).setCell (p := ⟨w.heap.size + 1 + 1 + 1, 1, none⟩) (by simp; omega) (.slice none 0 0))
 exact bodyPost_ret (v := .tuple #[.agg #[.bool false, .slice none 0 0], .agg #[.bool false, .slice none 0 0], .int .i64 11]) (by simp [results, Tryz.results30, go_sem, y0, y1, y2, y3]) rfl ⟨rfl, bF⟩
def DvPost (w : World) (a b : Int) (e : Ending) (w' : World) : Prop :=
 ∃ xq xr, e = .returned (.tuple #[xq, xr, .int .i64 (if b = 0 then 11 else 0)]) /\ IsInt w' xq (if b = 0 then 0 else a.tdiv b) /\ IsInt w' xr (if b = 0 then 0 else a.tmod b) /\ Below w.heap.size w w'
theorem sgn_zero {s : Bool} {l : List Nat} (g : goodB s l = true) : sgn s (val B32 l) = 0 ↔ l = [] := by
 constructor
 ·intro h
  apply Classical.byContradiction; intro hl
  have := (goodB_tr g).ne_zero (B := B32) (by decide) hl
  unfold sgn at h; split at h <;> omega
 ·rintro rfl; unfold sgn; simp [val]
theorem div_post (x y : Value) (a b : Int) (w : World) (hx : IsInt w x a) (hy : IsInt w y b) : Calls Tryz.prog 30 #[x, y] w (DvPost w a b) := by
 by_cases hb : b = 0
 ·obtain ⟨s, ao, n, cap, l, rfl, R, g, rfl⟩ := hx.open_
  obtain ⟨s', ao', n', cap', l', rfl, R', g', rfl⟩ := hy.open_
  have hl := (sgn_zero g').1 hb
  subst hl
  obtain rfl : n' = 0 := by have := R'.len; simpa using this.symm
  refine (divz_any s s' ao ao' n cap cap' l w R R' g g').mono ?_
  rintro e w' ⟨rfl, hbl⟩
  exact ⟨_, _, by rw [if_pos hb], by rw [if_pos hb]; exact zero_is w', by rw [if_pos hb]; exact zero_is w', hbl⟩
 ·refine (div_is x y a b w hx hy hb long_any).mono ?_
  rintro e w' ⟨xq, xr, rfl, h1, h2, hbl⟩
  exact ⟨xq, xr, by rw [if_neg hb], by rw [if_neg hb]; exact h1, by rw [if_neg hb]; exact h2, hbl⟩
theorem AnsI.form {w : World} {x : Value} {en z : Int} (h : AnsI w x en z) : ∃ s ao n cap l, x = .agg #[.bool s, .slice ao n cap] /\ Row .u32 B32 w ao n cap l /\ (∀ w', Row .u32 B32 w' ao n cap l -> AnsI w' x en z) := by
 rcases h with ⟨h1, h2, h3⟩ | ⟨h1, h2, rfl⟩
 ·obtain ⟨s, ao, n, cap, l, rfl, R, g, rfl⟩ := h3.open_
  exact ⟨s, ao, n, cap, l, rfl, R, fun w' R' => .inl ⟨h1, h2, s, l, ⟨ao, n, cap, rfl, R'⟩, g, rfl⟩⟩
 ·exact ⟨false, none, 0, 0, [], rfl, Row.nil _ _ _ _, fun w' _ => .inr ⟨h1, h2, rfl⟩⟩
theorem add_is (x y : Value) (a b : Int) (w : World) (hx : IsInt w x a) (hy : IsInt w y b) : Calls Tryz.prog 27 #[x, y] w (AddPost w (a + b)) := by
 obtain ⟨s, ao, n, cap, l, rfl, R, g, rfl⟩ := hx.open_
 obtain ⟨s', ao', n', cap', l', rfl, R', g', rfl⟩ := hy.open_
 exact add_any s s' ao ao' n cap n' cap' l l' w R R' g g'
set_option maxHeartbeats 4000000 in
theorem sub_any (neg neg' : Bool) (ao ao' : Option Addr) (n cap n' cap' : Nat) (l l' : List Nat) (w : World) (R : Row .u32 B32 w ao n cap l) (R' : Row .u32 B32 w ao' n' cap' l') (g1 : goodB neg l = true) (g2 : goodB neg' l' = true) :
  Calls Tryz.prog 28 #[.agg #[.bool neg, .slice ao n cap], .agg #[.bool neg', .slice ao' n' cap']] w (AddPost w (sgn neg (val B32 l) + - sgn neg' (val B32 l'))) := by
 have HR := hid R
 have HR' := hid R'
 have G1 := hid g1
 have G2 := hid g2
 have hn40 : n <= 40 := by rw [<- R.len]; exact goodB_len g1
 have hn40' : n' <= 40 := by rw [<- R'.len]; exact goodB_len g2
 clear R R' g1 g2
 go_enter Tryz.func28, Tryz.ntmps28
 go_wp2_with fail
 obtain ⟨x1, x2, x3, hb0⟩ := three_boxes 24 w neg neg' false ao ao' none n cap n' cap' 0 0 _ rfl
 generalize hW0 : (((w.alloc (.cells #[.bool neg, .slice ao n cap] 24)).alloc (.cells #[.bool neg', .slice ao' n' cap'] 24)).alloc (.cells #[.bool false, .slice none 0 0] 24)) = W0 at *
 clear hW0
 refine (good_any neg ao n cap l W0 (HR.out.below hb0)).mono ?_
 rintro e w1 ⟨rfl, hb1⟩
 rw [G1.out]
 obtain ⟨c20, c21⟩ := (x2.on hb1).c
 have X1 := hid (x1.on hb1)
 have X2 := hid (x2.on hb1)
 have X3 := hid (x3.on hb1)
 have HB1 := hid (Bt hb0 hb1)
 clear x1 x2 x3 hb0 hb1
 go_wp2_with fail
 refine (good_any neg' ao' n' cap' l' w1 (HR'.out.below HB1.out)).mono ?_
 rintro e w2 ⟨rfl, hb2⟩
 rw [G2.out]
 clear c20 c21
 have Y3 := hid (X3.out.on hb2)
 have HB2 := hid (Bt HB1.out hb2)
 have hS : w2.cell? ⟨w.heap.size, 0, none⟩ = some (.bool neg) /\ w2.cell? ⟨w.heap.size, 1, none⟩ = some (.slice ao n cap) /\ w2.cell? ⟨w.heap.size + 1, 0, none⟩ = some (.bool neg') /\ w2.cell? ⟨w.heap.size + 1, 1, none⟩ = some (.slice ao' n' cap') := ⟨(X1.out.on hb2).c.1, (X1.out.on hb2).c.2, (X2.out.on hb2).c.1, (X2.out.on hb2).c.2⟩
 have RW := hid (HR.out.below HB2.out)
 have RW' := hid (HR'.out.below HB2.out)
 have HS := hid hS
 clear hb2 X1 X2 X3 HB1 HR HR' hS
 have IA : Hid (IsInt w2 (.agg #[.bool neg, .slice ao n cap]) (sgn neg (val B32 l))) := ⟨neg, l, ⟨ao, n, cap, rfl, RW.out⟩, G1.out, rfl⟩
 go_wp2
 go_region_held3 (fun wx => wx.cell? ⟨w.heap.size, 0, none⟩ = some (.bool neg) /\ wx.cell? ⟨w.heap.size, 1, none⟩ = some (.slice ao n cap) /\ wx.cell? ⟨w.heap.size + 1, 0, none⟩ = some (.bool neg') /\ wx.cell? ⟨w.heap.size + 1, 1, none⟩ = some (.slice ao' n' cap'))
  (first | exact keep4 HS.out (Bd w2 1) | exact keep4 (by assumption) (by assumption) | exact keep4s (by assumption) (by omega) (by omega))
  (first
   | (go_at_call 49; refine (neg_any neg' ao' n' cap' l' _ ?_ G2.out).mono ?_; (exact RW'.out.below (Bd w2 1)); rintro e wa ⟨xb, rfl, ib, ba⟩; have IB := hid ib; clear ib)
   | (go_at_call 27; refine (add_is (.agg #[.bool neg, .slice ao n cap]) xb (sgn neg (val B32 l)) (- sgn neg' (val B32 l')) _ ?_ ?_).mono ?_; (exact (IA.out.below (Bd w2 1)).below ba); (exact IB.out); rintro e wb ⟨x, en, rfl, hA, bb⟩; obtain ⟨sx, ax, nx, cx, lx, rfl, Rx, hAx⟩ := hA.form; have Z3 := ((Y3.out.on (Bd w2 1)).on ba).on bb; obtain ⟨z30, z31⟩ := Z3.c; obtain ⟨f30, f31⟩ := Z3.f; have HZ := hid Z3; have HRx := hid Rx; have HAx := hid hAx; clear hA Rx hAx Z3))
 have hbW : Below w.heap.size w wb := Bt (Bt (Bt HB2.out (Bd w2 1)) ba) bb
 have z := HZ.out.set2 sx ax nx cx
 obtain ⟨y0, y1⟩ := z.c
 have rx := HAx.out _ (HRx.out.setBox2 HZ.out sx (.slice ax nx cx))
 have bF := (hbW.setCell (p := ⟨w.heap.size + 1 + 1, 0, none⟩) (by simp; omega) (.bool sx)).setCell (p := ⟨w.heap.size + 1 + 1, 1, none⟩) (by simp; omega) (.slice ax nx cx)
 rename_i hHeld
 clear hHeld
 go_wp2
 exact bodyPost_ret (v := .tuple #[.agg #[.bool sx, .slice ax nx cx], .int .i64 en]) (by simp [results, Tryz.results28, go_sem, y0, y1]) rfl ⟨_, _, rfl, rx, bF⟩
theorem sgn_mul (s s' : Bool) (v u : Nat) : sgn (s != s') (v * u) = sgn s v * sgn s' u := by
 cases s <;> cases s' <;> simp [sgn, Int.mul_neg, Int.neg_mul]
set_option maxRecDepth 100000
def tooB (z : Int) : Bool := decide (B32 ^ 40 <= z.natAbs)
theorem tooB_iff (z : Int) : tooB z = true ↔ Big z.natAbs := by unfold tooB Big; exact decide_eq_true_iff
def bigZ (z : Int) : Int × Int := if tooB z = true then (0, 10) else (z, 0)
def modZ (a b : Int) : Int := if a.tmod b ≠ 0 /\ decide (a.tmod b < 0) ≠ decide (b < 0) then a.tmod b + b else a.tmod b
def reckM (op a b : Int) : Int × Int :=
 if op = 1 then bigZ (a + b) else if op = 2 then bigZ (a + -b) else if op = 3 then bigZ (a * b)
 else if op = 4 then (if b = 0 then (0, 11) else (a.tdiv b, 0)) else if op = 5 then (if b = 0 then (0, 11) else (a.tmod b, 0))
 else if op = 6 then (if b = 0 then (0, 11) else (modZ a b, 0)) else (0, 1)
def RkPost (w : World) (r : Int × Int) (e : Ending) (w' : World) : Prop := ∃ s ao n cap, e = .returned (.tuple #[.agg #[.bool s, .slice ao n cap], .int .i64 r.2]) /\ IsInt w' (.agg #[.bool s, .slice ao n cap]) r.1 /\ Below w.heap.size w w'
theorem AddPost.rk {w w' : World} {z : Int} {e : Ending} (h : AddPost w z e w') : RkPost w (bigZ z) e w' := by
 obtain ⟨x, en, rfl, h1, h2⟩ := h
 rcases h1 with ⟨a1, rfl, a3⟩ | ⟨a1, rfl, rfl⟩
 ·have e : bigZ z = (z, 0) := by unfold bigZ; rw [if_neg (fun h => a1 ((tooB_iff z).1 h))]
  rw [e]
  have a4 := a3
  obtain ⟨s, ao, n, cap, l, rfl, _⟩ := a3.open_
  exact ⟨s, ao, n, cap, rfl, a4, h2⟩
 ·have e : bigZ z = (0, 10) := by unfold bigZ; rw [if_pos ((tooB_iff z).2 a1)]
  rw [e]
  exact ⟨_, _, _, _, rfl, zero_is w', h2⟩
theorem IsInt.setBox {w : World} {p : Nat} {s : Bool} {a : Option Addr} {m c : Nat} {t : TypeId} (h : Box t w p s a m c) {x : Value} {z : Int} (hi : IsInt w x z) (y : Bool) (v : Value) : IsInt ((w.setCell ⟨p, 0, none⟩ (.bool y)).setCell ⟨p, 1, none⟩ v) x z := by
 obtain ⟨s', l, ⟨ao, n, cap, e, R⟩, g, e2⟩ := hi
 exact ⟨s', l, ⟨ao, n, cap, e, R.setBox2 h y v⟩, g, e2⟩
theorem mul_is (x y : Value) (a b : Int) (w : World) (hx : IsInt w x a) (hy : IsInt w y b) : Calls Tryz.prog 29 #[x, y] w (AddPost w (a * b)) := by
 obtain ⟨s, ao, n, cap, l, rfl, R, g, rfl⟩ := hx.open_
 obtain ⟨s', ao', n', cap', l', rfl, R', g', rfl⟩ := hy.open_
 refine (mul_any s s' ao ao' n cap n' cap' l l' w R R' g g').mono fun e w' ⟨v, en, h1, h2, h3⟩ => ?_
 subst h1
 rw [<- sgn_mul]
 exact ⟨v, en, rfl, h2.toI, h3⟩
theorem sub_all (x y : Value) (a b : Int) (w : World) (hx : IsInt w x a) (hy : IsInt w y b) : Calls Tryz.prog 28 #[x, y] w (AddPost w (a + -b)) := by
 obtain ⟨s, ao, n, cap, l, rfl, R, g, rfl⟩ := hx.open_
 obtain ⟨s', ao', n', cap', l', rfl, R', g', rfl⟩ := hy.open_
 exact sub_any s s' ao ao' n cap n' cap' l l' w R R' g g'
theorem add_rk (x y : Value) (a b : Int) (w : World) (hx : IsInt w x a) (hy : IsInt w y b) : Calls Tryz.prog 27 #[x, y] w (RkPost w (bigZ (a + b))) := (add_is x y a b w hx hy).mono fun _ _ h => h.rk
theorem sub_rk (x y : Value) (a b : Int) (w : World) (hx : IsInt w x a) (hy : IsInt w y b) : Calls Tryz.prog 28 #[x, y] w (RkPost w (bigZ (a + -b))) := (sub_all x y a b w hx hy).mono fun _ _ h => h.rk
theorem mul_rk (x y : Value) (a b : Int) (w : World) (hx : IsInt w x a) (hy : IsInt w y b) : Calls Tryz.prog 29 #[x, y] w (RkPost w (bigZ (a * b))) := (mul_is x y a b w hx hy).mono fun _ _ h => h.rk
def DvP (w : World) (a b : Int) (e : Ending) (w' : World) : Prop := ∃ s ao n cap s' ao' n' cap', e = .returned (.tuple #[.agg #[.bool s, .slice ao n cap], .agg #[.bool s', .slice ao' n' cap'], .int .i64 (if b = 0 then 11 else 0)]) /\ IsInt w' (.agg #[.bool s, .slice ao n cap]) (if b = 0 then 0 else a.tdiv b) /\ IsInt w' (.agg #[.bool s', .slice ao' n' cap']) (if b = 0 then 0 else a.tmod b) /\ Below w.heap.size w w'
theorem DvPost.p {w w' : World} {a b : Int} {e : Ending} (h : DvPost w a b e w') : DvP w a b e w' := by
 obtain ⟨xq, xr, rfl, h1, h2, h3⟩ := h
 have k1 := h1
 have k2 := h2
 obtain ⟨s, ao, n, cap, l, rfl, _⟩ := h1.open_
 obtain ⟨s', ao', n', cap', l', rfl, _⟩ := h2.open_
 exact ⟨s, ao, n, cap, s', ao', n', cap', rfl, k1, k2, h3⟩
theorem div_p (x y : Value) (a b : Int) (w : World) (hx : IsInt w x a) (hy : IsInt w y b) : Calls Tryz.prog 30 #[x, y] w (DvP w a b) := (div_post x y a b w hx hy).mono fun _ _ h => h.p
set_option maxHeartbeats 4000000 in
theorem reck_plus (neg neg' : Bool) (ao ao' : Option Addr) (n cap n' cap' : Nat) (a b : Int) (w : World) (ha : IsInt w (.agg #[.bool neg, .slice ao n cap]) a) (hb : IsInt w (.agg #[.bool neg', .slice ao' n' cap']) b) :
  Calls Tryz.prog 16 #[.int .i64 1, .agg #[.bool neg, .slice ao n cap], .agg #[.bool neg', .slice ao' n' cap']] w (RkPost w (bigZ (a + b))) := by
 have HA := hid ha
 have HB := hid hb
 have CC : Hid (∀ W, Below w.heap.size w W -> Calls Tryz.prog 27 #[.agg #[.bool neg, .slice ao n cap], .agg #[.bool neg', .slice ao' n' cap']] W (RkPost W (bigZ (a + b)))) := fun W h => add_rk _ _ a b W (ha.below h) (hb.below h)
 obtain ⟨r, hr⟩ : ∃ r, r = (bigZ (a + b)) := ⟨_, rfl⟩
 rw [<- hr] at CC ⊢
 unfold RkPost at CC
 clear hr
 clear ha hb
 go_enter Tryz.func16, Tryz.ntmps16
 go_wp2_with fail
 obtain ⟨x1, x2, x3, hb0⟩ := three_boxes 24 w neg neg' false ao ao' none n cap n' cap' 0 0 _ rfl
 generalize hW0 : (((w.alloc (.cells #[.bool neg, .slice ao n cap] 24)).alloc (.cells #[.bool neg', .slice ao' n' cap'] 24)).alloc (.cells #[.bool false, .slice none 0 0] 24)) = W0 at *
 clear hW0
 have HB0 := hid hb0
 have HX3 := hid x3
 obtain ⟨c0, c1⟩ := x1.c
 obtain ⟨c2, c3⟩ := x2.c
 have C := hid (CC.out W0 hb0)
 clear x1 x2 x3 hb0
 go_wp2_with (go_at_call 27; (with_reducible refine C.out.mono ?_); rintro e W1 ⟨s, ar, nr, cr, rfl, hI, b1⟩; have q0 := HX3.out.on b1; have q1 := q0.set2 s ar nr cr; obtain ⟨r0, r1⟩ := q0.c; obtain ⟨f0, f1⟩ := q0.f; obtain ⟨t0, t1⟩ := q1.c; have HQ := hid q0; have HI := hid hI; have HB1 := hid (Bt HB0.out b1); clear b1 q0 q1 hI c0 c1 c2 c3)
 (try simp only [Exit.inBlock, Exit.then]); refine bodyPost_ret (v := .tuple #[.agg #[.bool s, .slice ar nr cr], .int .i64 r.2]) (by simp [results, Tryz.results16, go_sem, t0, t1]) rfl ?_
 exact ⟨_, _, _, _, rfl, HI.out.setBox HQ.out _ _, store2_below HB1.out (by omega)⟩
set_option maxHeartbeats 4000000 in
theorem reck_minus (neg neg' : Bool) (ao ao' : Option Addr) (n cap n' cap' : Nat) (a b : Int) (w : World) (ha : IsInt w (.agg #[.bool neg, .slice ao n cap]) a) (hb : IsInt w (.agg #[.bool neg', .slice ao' n' cap']) b) :
  Calls Tryz.prog 16 #[.int .i64 2, .agg #[.bool neg, .slice ao n cap], .agg #[.bool neg', .slice ao' n' cap']] w (RkPost w (bigZ (a + -b))) := by
 have HA := hid ha
 have HB := hid hb
 have CC : Hid (∀ W, Below w.heap.size w W -> Calls Tryz.prog 28 #[.agg #[.bool neg, .slice ao n cap], .agg #[.bool neg', .slice ao' n' cap']] W (RkPost W (bigZ (a + -b)))) := fun W h => sub_rk _ _ a b W (ha.below h) (hb.below h)
 obtain ⟨r, hr⟩ : ∃ r, r = (bigZ (a + -b)) := ⟨_, rfl⟩
 rw [<- hr] at CC ⊢
 unfold RkPost at CC
 clear hr
 clear ha hb
 go_enter Tryz.func16, Tryz.ntmps16
 go_wp2_with fail
 obtain ⟨x1, x2, x3, hb0⟩ := three_boxes 24 w neg neg' false ao ao' none n cap n' cap' 0 0 _ rfl
 generalize hW0 : (((w.alloc (.cells #[.bool neg, .slice ao n cap] 24)).alloc (.cells #[.bool neg', .slice ao' n' cap'] 24)).alloc (.cells #[.bool false, .slice none 0 0] 24)) = W0 at *
 clear hW0
 have HB0 := hid hb0
 have HX3 := hid x3
 obtain ⟨c0, c1⟩ := x1.c
 obtain ⟨c2, c3⟩ := x2.c
 have C := hid (CC.out W0 hb0)
 clear x1 x2 x3 hb0
 go_wp2_with (go_at_call 28; (with_reducible refine C.out.mono ?_); rintro e W1 ⟨s, ar, nr, cr, rfl, hI, b1⟩; have q0 := HX3.out.on b1; have q1 := q0.set2 s ar nr cr; obtain ⟨r0, r1⟩ := q0.c; obtain ⟨f0, f1⟩ := q0.f; obtain ⟨t0, t1⟩ := q1.c; have HQ := hid q0; have HI := hid hI; have HB1 := hid (Bt HB0.out b1); clear b1 q0 q1 hI c0 c1 c2 c3)
 (try simp only [Exit.inBlock, Exit.then]); refine bodyPost_ret (v := .tuple #[.agg #[.bool s, .slice ar nr cr], .int .i64 r.2]) (by simp [results, Tryz.results16, go_sem, t0, t1]) rfl ?_
 exact ⟨_, _, _, _, rfl, HI.out.setBox HQ.out _ _, store2_below HB1.out (by omega)⟩
set_option maxHeartbeats 4000000 in
theorem reck_times (neg neg' : Bool) (ao ao' : Option Addr) (n cap n' cap' : Nat) (a b : Int) (w : World) (ha : IsInt w (.agg #[.bool neg, .slice ao n cap]) a) (hb : IsInt w (.agg #[.bool neg', .slice ao' n' cap']) b) :
  Calls Tryz.prog 16 #[.int .i64 3, .agg #[.bool neg, .slice ao n cap], .agg #[.bool neg', .slice ao' n' cap']] w (RkPost w (bigZ (a * b))) := by
 have HA := hid ha
 have HB := hid hb
 have CC : Hid (∀ W, Below w.heap.size w W -> Calls Tryz.prog 29 #[.agg #[.bool neg, .slice ao n cap], .agg #[.bool neg', .slice ao' n' cap']] W (RkPost W (bigZ (a * b)))) := fun W h => mul_rk _ _ a b W (ha.below h) (hb.below h)
 obtain ⟨r, hr⟩ : ∃ r, r = (bigZ (a * b)) := ⟨_, rfl⟩
 rw [<- hr] at CC ⊢
 unfold RkPost at CC
 clear hr
 clear ha hb
 go_enter Tryz.func16, Tryz.ntmps16
 go_wp2_with fail
 obtain ⟨x1, x2, x3, hb0⟩ := three_boxes 24 w neg neg' false ao ao' none n cap n' cap' 0 0 _ rfl
 generalize hW0 : (((w.alloc (.cells #[.bool neg, .slice ao n cap] 24)).alloc (.cells #[.bool neg', .slice ao' n' cap'] 24)).alloc (.cells #[.bool false, .slice none 0 0] 24)) = W0 at *
 clear hW0
 have HB0 := hid hb0
 have HX3 := hid x3
 obtain ⟨c0, c1⟩ := x1.c
 obtain ⟨c2, c3⟩ := x2.c
 have C := hid (CC.out W0 hb0)
 clear x1 x2 x3 hb0
 go_wp2_with (go_at_call 29; (with_reducible refine C.out.mono ?_); rintro e W1 ⟨s, ar, nr, cr, rfl, hI, b1⟩; have q0 := HX3.out.on b1; have q1 := q0.set2 s ar nr cr; obtain ⟨r0, r1⟩ := q0.c; obtain ⟨f0, f1⟩ := q0.f; obtain ⟨t0, t1⟩ := q1.c; have HQ := hid q0; have HI := hid hI; have HB1 := hid (Bt HB0.out b1); clear b1 q0 q1 hI c0 c1 c2 c3)
 (try simp only [Exit.inBlock, Exit.then]); refine bodyPost_ret (v := .tuple #[.agg #[.bool s, .slice ar nr cr], .int .i64 r.2]) (by simp [results, Tryz.results16, go_sem, t0, t1]) rfl ?_
 exact ⟨_, _, _, _, rfl, HI.out.setBox HQ.out _ _, store2_below HB1.out (by omega)⟩
set_option maxHeartbeats 4000000 in
theorem reck_quot (neg neg' : Bool) (ao ao' : Option Addr) (n cap n' cap' : Nat) (a b : Int) (w : World) (ha : IsInt w (.agg #[.bool neg, .slice ao n cap]) a) (hb : IsInt w (.agg #[.bool neg', .slice ao' n' cap']) b) :
  Calls Tryz.prog 16 #[.int .i64 4, .agg #[.bool neg, .slice ao n cap], .agg #[.bool neg', .slice ao' n' cap']] w (RkPost w (if b = 0 then (0, 11) else (a.tdiv b, 0))) := by
 have HA := hid ha
 have HB := hid hb
 have CC : Hid (∀ W, Below w.heap.size w W -> Calls Tryz.prog 30 #[.agg #[.bool neg, .slice ao n cap], .agg #[.bool neg', .slice ao' n' cap']] W (DvP W a b)) := fun W h => div_p _ _ a b W (ha.below h) (hb.below h)
 unfold DvP at CC
 obtain ⟨er, her⟩ : ∃ r : Int, r = if b = 0 then 11 else 0 := ⟨_, rfl⟩
 obtain ⟨qz, hqz⟩ : ∃ r : Int, r = if b = 0 then 0 else a.tdiv b := ⟨_, rfl⟩
 obtain ⟨rz, hrz⟩ : ∃ r : Int, r = if b = 0 then 0 else a.tmod b := ⟨_, rfl⟩
 rw [<- her, <- hqz, <- hrz] at CC
 have hres : (if b = 0 then (0, 11) else (a.tdiv b, 0)) = (qz, er) := by
  rw [her, hqz]; by_cases h0 : b = 0 <;> simp [h0]
 rw [hres]
 clear hres her hqz hrz
 clear ha hb
 go_enter Tryz.func16, Tryz.ntmps16
 go_wp2_with fail
 obtain ⟨x1, x2, x3, hb0⟩ := three_boxes 24 w neg neg' false ao ao' none n cap n' cap' 0 0 _ rfl
 generalize hW0 : (((w.alloc (.cells #[.bool neg, .slice ao n cap] 24)).alloc (.cells #[.bool neg', .slice ao' n' cap'] 24)).alloc (.cells #[.bool false, .slice none 0 0] 24)) = W0 at *
 clear hW0
 have HB0 := hid hb0
 have HX3 := hid x3
 obtain ⟨c0, c1⟩ := x1.c
 obtain ⟨c2, c3⟩ := x2.c
 have C := hid (CC.out W0 hb0)
 clear x1 x2 x3 hb0
 go_wp2_with (go_at_call 30; (with_reducible refine C.out.mono ?_); rintro e W1 ⟨sq, aq, nq, cq, sr, ar, nr, cr, rfl, hQ, hR, b1⟩; have v1 := Baa W1 (.cells #[.bool sq, .slice aq nq cq] 24) (.cells #[.bool sr, .slice ar nr cr] 24); have y1 := (Box.new 24 W1 sq aq nq cq).alloc (.cells #[.bool sr, .slice ar nr cr] 24); have y2 := Box.new 24 (W1.alloc (.cells #[.bool sq, .slice aq nq cq] 24)) sr ar nr cr; rw [size_alloc] at y2; have q0 := (HX3.out.on b1).on v1; have q1 := q0.set2 sq aq nq cq; obtain ⟨r0, r1⟩ := q0.c; obtain ⟨f0, f1⟩ := q0.f; obtain ⟨t0, t1⟩ := q1.c; obtain ⟨y3, y4⟩ := y1.c; obtain ⟨y5, y6⟩ := y2.c; have HQ := hid q0; have HI := hid (hQ.below v1); have HB1 := hid (Bt (Bt HB0.out b1) v1); clear b1 q0 q1 hQ hR c0 c1 c2 c3 v1 y1 y2)
 (try simp only [Exit.inBlock, Exit.then]); refine bodyPost_ret (v := .tuple #[.agg #[.bool sq, .slice aq nq cq], .int .i64 er]) (by simp [results, Tryz.results16, go_sem, t0, t1]) rfl ?_
 exact ⟨_, _, _, _, rfl, HI.out.setBox HQ.out _ _, store2_below HB1.out (by omega)⟩
set_option maxHeartbeats 4000000 in
theorem reck_rest (neg neg' : Bool) (ao ao' : Option Addr) (n cap n' cap' : Nat) (a b : Int) (w : World) (ha : IsInt w (.agg #[.bool neg, .slice ao n cap]) a) (hb : IsInt w (.agg #[.bool neg', .slice ao' n' cap']) b) :
  Calls Tryz.prog 16 #[.int .i64 5, .agg #[.bool neg, .slice ao n cap], .agg #[.bool neg', .slice ao' n' cap']] w (RkPost w (if b = 0 then (0, 11) else (a.tmod b, 0))) := by
 have HA := hid ha
 have HB := hid hb
 have CC : Hid (∀ W, Below w.heap.size w W -> Calls Tryz.prog 30 #[.agg #[.bool neg, .slice ao n cap], .agg #[.bool neg', .slice ao' n' cap']] W (DvP W a b)) := fun W h => div_p _ _ a b W (ha.below h) (hb.below h)
 unfold DvP at CC
 obtain ⟨er, her⟩ : ∃ r : Int, r = if b = 0 then 11 else 0 := ⟨_, rfl⟩
 obtain ⟨qz, hqz⟩ : ∃ r : Int, r = if b = 0 then 0 else a.tdiv b := ⟨_, rfl⟩
 obtain ⟨rz, hrz⟩ : ∃ r : Int, r = if b = 0 then 0 else a.tmod b := ⟨_, rfl⟩
 rw [<- her, <- hqz, <- hrz] at CC
 have hres : (if b = 0 then (0, 11) else (a.tmod b, 0)) = (rz, er) := by
  rw [her, hrz]; by_cases h0 : b = 0 <;> simp [h0]
 rw [hres]
 clear hres her hqz hrz
 clear ha hb
 go_enter Tryz.func16, Tryz.ntmps16
 go_wp2_with fail
 obtain ⟨x1, x2, x3, hb0⟩ := three_boxes 24 w neg neg' false ao ao' none n cap n' cap' 0 0 _ rfl
 generalize hW0 : (((w.alloc (.cells #[.bool neg, .slice ao n cap] 24)).alloc (.cells #[.bool neg', .slice ao' n' cap'] 24)).alloc (.cells #[.bool false, .slice none 0 0] 24)) = W0 at *
 clear hW0
 have HB0 := hid hb0
 have HX3 := hid x3
 obtain ⟨c0, c1⟩ := x1.c
 obtain ⟨c2, c3⟩ := x2.c
 have C := hid (CC.out W0 hb0)
 clear x1 x2 x3 hb0
 go_wp2_with (go_at_call 30; (with_reducible refine C.out.mono ?_); rintro e W1 ⟨sq, aq, nq, cq, sr, ar, nr, cr, rfl, hQ, hR, b1⟩; have v1 := Baa W1 (.cells #[.bool sq, .slice aq nq cq] 24) (.cells #[.bool sr, .slice ar nr cr] 24); have y1 := (Box.new 24 W1 sq aq nq cq).alloc (.cells #[.bool sr, .slice ar nr cr] 24); have y2 := Box.new 24 (W1.alloc (.cells #[.bool sq, .slice aq nq cq] 24)) sr ar nr cr; rw [size_alloc] at y2; have q0 := (HX3.out.on b1).on v1; have q1 := q0.set2 sr ar nr cr; obtain ⟨r0, r1⟩ := q0.c; obtain ⟨f0, f1⟩ := q0.f; obtain ⟨t0, t1⟩ := q1.c; obtain ⟨y3, y4⟩ := y1.c; obtain ⟨y5, y6⟩ := y2.c; have HQ := hid q0; have HI := hid (hR.below v1); have HB1 := hid (Bt (Bt HB0.out b1) v1); clear b1 q0 q1 hQ hR c0 c1 c2 c3 v1 y1 y2)
 (try simp only [Exit.inBlock, Exit.then]); refine bodyPost_ret (v := .tuple #[.agg #[.bool sr, .slice ar nr cr], .int .i64 er]) (by simp [results, Tryz.results16, go_sem, t0, t1]) rfl ?_
 exact ⟨_, _, _, _, rfl, HI.out.setBox HQ.out _ _, store2_below HB1.out (by omega)⟩
end Go.Proofs.YtdekkieajffblaaGreatDoor
