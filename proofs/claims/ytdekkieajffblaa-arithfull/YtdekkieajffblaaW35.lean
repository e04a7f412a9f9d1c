/-
  Walks, of the document's answer: Sub.
-/
import Derived.Test.YtdekkieajffblaaAW1
import Derived.Test.YtdekkieajffblaaAB3
import Derived.Test.YtdekkieajffblaaG0
import Derived.Test.YtdekkieajffblaaMath3
import Derived.Test.YtdekkieajffblaaW34
import Derived.Test.YtdekkieajffblaaW22
set_option linter.unusedVariables false
set_option linter.unusedSimpArgs false
set_option maxRecDepth 100000
namespace Go.Proofs.Ytdekkieajffblaa
open Go.RowKit

def aw59 : Int := wordR 1 576460752303423488 0
theorem fix59 : fixB 576460752303423488 = true := by decide
theorem big60 : fixB 1152921504606846976 = false := by decide
theorem lay59 (N : Int) : layM [] N 576460752303423488 = (aw59, 0) := by unfold layM; rw [fix59]; rfl
theorem layo59 (N : Int) : layO [] N 576460752303423488 = [] := by unfold layO; rw [fix59]; rfl
theorem num59 : numM [] aw59 = some 576460752303423488 := by
  have h := numM_lay (os := []) (N := 20) (z := 576460752303423488) (by omega) (by rw [lay59])
  rw [lay59, layo59] at h
  exact h
theorem u59 : U64 aw59 := wordR_rng _ _ _
theorem mg60 : mg 1152921504606846976 = [0, 268435456] := by
  refine (mg_is (l := [0, 268435456]) ?_ ?_ ?_).symm
  · intro x hx
    simp only [List.mem_cons, List.not_mem_nil, or_false] at hx
    rcases hx with rfl | rfl <;> decide
  · exact .inr (by simp)
  · decide
theorem need60 : needZ 1152921504606846976 = 4 := by
  unfold needZ
  rw [big60, show (1152921504606846976 : Int).natAbs = 1152921504606846976 from rfl, mg60]; rfl
theorem res59 : resZ [] 1 aw59 aw59 = (1152921504606846976, 0) := by
  have hb : bothZ [] aw59 aw59 = (576460752303423488, 576460752303423488, 0) := by unfold bothZ; rw [num59]; rfl
  unfold resZ
  rw [hb, if_neg (by omega), if_pos rfl]
  unfold reckM
  rw [if_pos rfl, bigZ_small (not_big_64 _ (by decide))]; rfl
theorem do59 : doM [] 20 1 aw59 aw59 = (1, 0) := by
  unfold doM
  rw [res59, if_pos rfl, layM_is, big60, need60]; rfl
theorem doo59 : doO [] 20 1 aw59 aw59 = [bigO 1152921504606846976] := by
  unfold doO
  rw [res59, if_pos rfl, layO_is, big60, need60]; rfl
theorem used59 : (wordsL [bigO 1152921504606846976]).length = 4 := by
  rw [wordsL_length]
  show 1 + (bigL _ _).length + 0 = 4
  rw [bigL_len, show (1152921504606846976 : Int).natAbs = 1152921504606846976 from rfl, mg60]; rfl
theorem all_nil : AllBig [] := fun x h => by cases h
theorem reck6 : reckM 6 (-7) 2 = (1, 0) := by decide
theorem reck5 : reckM 5 (-7) 2 = (-1, 0) := by decide
theorem reck4 : reckM 4 1 0 = (0, 11) := by decide
end Go.Proofs.Ytdekkieajffblaa

set_option linter.unusedVariables false
set_option linter.unusedSimpArgs false
set_option maxRecDepth 100000
namespace Go.Proofs.Ytdekkieajffblaa
open Go.RowKit

theorem zsame_true (x y : Value) (a : Int) (w : World) (hx : IsInt w x a) (hy : IsInt w y a) :
    Calls Try.prog 11 #[x, y] w fun e w' => e = .returned (.bool true) ∧ Below w.heap.size w w' :=
  (zsame_any x y a a w hx hy).mono fun e w' ⟨h1, h2⟩ => ⟨by rw [h1]; simp, h2⟩
theorem pnew_ok (n : Int) (h1 : 1 ≤ n) (h2 : n ≤ 4194304) (w : World) : Calls Try.prog 14 #[.int .i64 n] w fun e w' => ∃ v F, e = .returned (.tuple #[v, .int .i64 0]) ∧ PH w.heap.size v n [] F w' ∧ Below w.heap.size w w' := by
  refine (pnew_any n (by unfold Z64; omega) w).mono ?_
  intro e w' h
  rw [if_neg (by omega)] at h
  exact h
set_option maxHeartbeats 8000000 in
theorem arawake_any (w : World) : Calls Try.prog 8 #[] w fun e w' => e = .returned (.bool true) ∧ Below w.heap.size w w' := by
  have CN := hid (pnew_ok 20 (by omega) (by omega) w)
  have CL : Hid (∀ (v x : Value) (F : Nat → Prop) (W : World), PH w.heap.size v 20 [] F W → w.heap.size ≤ W.heap.size → IsInt W x 576460752303423488 → Calls Try.prog 16 #[v, x] W fun e w' => e = .returned (.tuple #[.int .u64 aw59, .int .i64 0]) ∧ PPost w.heap.size v 20 F W [] w') := fun v x F W h hB hi => by
    have := alay_any (os := []) os_nil x 576460752303423488 W h hi hB
    rw [lay59, layo59] at this
    exact this
  have CD : Hid (∀ (v : Value) (F : Nat → Prop) (W : World), PH w.heap.size v 20 [] F W → w.heap.size ≤ W.heap.size → Calls Try.prog 20 #[v, .int .i64 1, .int .u64 aw59, .int .u64 aw59] W fun e w' => e = .returned (.tuple #[.int .u64 1, .int .i64 0]) ∧ PPost w.heap.size v 20 F W (wordsL [bigO 1152921504606846976]) w') := fun v F W h hB => by
    have := ado_any (os := []) os_nil all_nil 1 aw59 aw59 u59 u59 W h hB
    rw [do59, doo59] at this
    exact this
  have CU : Hid (∀ (v : Value) (F : Nat → Prop) (W : World), PH w.heap.size v 20 (wordsL [bigO 1152921504606846976]) F W → Calls Try.prog 15 #[v] W fun e w' => e = .returned (.int .i64 4) ∧ Below W.heap.size W w') := fun v F W h => by
    have := pused_any W h
    rw [used59] at this
    exact this
  have CR6 : Hid (∀ (x y : Value) (W : World), IsInt W x (-7) → IsInt W y 2 → Calls Try.prog 9 #[.int .i64 6, x, y] W (RkPost W (1, 0))) := fun x y W hx hy => by
    have := reckon_any 6 x y (-7) 2 W hx hy
    rw [reck6] at this; exact this
  have CR5 : Hid (∀ (x y : Value) (W : World), IsInt W x (-7) → IsInt W y 2 → Calls Try.prog 9 #[.int .i64 5, x, y] W (RkPost W (-1, 0))) := fun x y W hx hy => by
    have := reckon_any 5 x y (-7) 2 W hx hy
    rw [reck5] at this; exact this
  have CR4 : Hid (∀ (x y : Value) (W : World), IsInt W x 1 → IsInt W y 0 → Calls Try.prog 9 #[.int .i64 4, x, y] W (RkPost W (0, 11))) := fun x y W hx hy => by
    have := reckon_any 4 x y 1 0 W hx hy
    rw [reck4] at this; exact this
  unfold RkPost at CR6 CR5 CR4
  obtain ⟨aw, haw⟩ : ∃ a, a = aw59 := ⟨_, rfl⟩
  rw [← haw] at CL CD
  clear haw
  go_enter Try.func8, Try.ntmps8
  go_wp2_with fail
  (with_reducible refine CN.out.mono ?_)
  rintro e W1 ⟨v, F, rfl, hP, b1⟩
  have HP1 := hid hP
  have HB1 := hid b1
  obtain ⟨gh, rfl⟩ := hP.ptr
  clear hP b1 CN
  go_wp2_with fail
  (with_reducible refine (rfrom_is 576460752303423488 _ (by decide) (by decide)).mono ?_)
  rintro e W2 ⟨x, rfl, hx, b2⟩
  have HX := hid hx
  have HP2 := hid (HP1.out.onb b2)
  have HB2 := hid (Bt HB1.out b2)
  clear hx b2 HP1 HB1
  go_wp2_with fail
  (with_reducible refine (CL.out _ x F W2 HP2.out HB2.out.size HX.out).mono ?_)
  rintro e W3 ⟨rfl, hp⟩
  have HB3 := hid (HB2.out.trans (PPost.below HP2.out hp HB2.out.size))
  obtain ⟨F3, hp3, _, _⟩ := hp
  have HP3 := hid hp3
  clear hp3 HX HP2 HB2 CL
  go_wp2_with fail
  (with_reducible refine (CD.out _ F3 W3 HP3.out HB3.out.size).mono ?_)
  rintro e W4 ⟨rfl, hp⟩
  have HB4 := hid (HB3.out.trans (PPost.below HP3.out hp HB3.out.size))
  obtain ⟨F4, hp4, _, _⟩ := hp
  have HP4 := hid hp4
  clear hp4 HP3 HB3 CD
  go_wp2_with fail
  (with_reducible refine (rfrom_is (-7) _ (by decide) (by decide)).mono ?_)
  rintro e W5 ⟨x7, rfl, i7, b5⟩
  have I7 := hid i7
  have HP5 := hid (HP4.out.onb b5)
  have HB5 := hid (Bt HB4.out b5)
  clear i7 b5 HP4 HB4
  go_wp2_with fail
  (with_reducible refine (rfrom_is 2 _ (by decide) (by decide)).mono ?_)
  rintro e W6 ⟨x2, rfl, i2, b6⟩
  have I7' := hid (I7.out.below b6)
  have I2 := hid i2
  have HP6 := hid (HP5.out.onb b6)
  have HB6 := hid (Bt HB5.out b6)
  clear i2 b6 HP5 HB5 I7
  go_wp2_with fail
  (with_reducible refine (CR6.out x7 x2 W6 I7'.out I2.out).mono ?_)
  rintro e W7 ⟨sm, am, nm, cm, rfl, im, b7⟩
  have v7 := Ba W7 (.cells #[.bool sm, .slice am nm cm] 24)
  have YM := hid (Box.new 24 W7 sm am nm cm)
  have IM := hid (im.below v7)
  have b7' := Bt b7 v7
  have HP7 := hid (HP6.out.onb b7')
  have HB7 := hid (Bt HB6.out b7')
  clear im b7 v7 b7' HP6 HB6 I7' I2 CR6
  go_wp2_with fail
  obtain ⟨gm, hgm⟩ : ∃ g, g = W7.heap.size := ⟨_, rfl⟩
  rw [← hgm] at YM ⊢
  generalize W7.alloc (.cells #[.bool sm, .slice am nm cm] 24) = W7' at *
  clear hgm
  (with_reducible refine (rfrom_is (-7) _ (by decide) (by decide)).mono ?_)
  rintro e W8 ⟨x7, rfl, i7, b8⟩
  have I7 := hid i7
  have YM8 := hid (YM.out.on b8)
  have IM8 := hid (IM.out.below b8)
  have HP8 := hid (HP7.out.onb b8)
  have HB8 := hid (Bt HB7.out b8)
  clear i7 b8 HP7 HB7 YM IM
  go_wp2_with fail
  (with_reducible refine (rfrom_is 2 _ (by decide) (by decide)).mono ?_)
  rintro e W9 ⟨x2, rfl, i2, b9⟩
  have I7' := hid (I7.out.below b9)
  have I2 := hid i2
  have YM9 := hid (YM8.out.on b9)
  have IM9 := hid (IM8.out.below b9)
  have HP9 := hid (HP8.out.onb b9)
  have HB9 := hid (Bt HB8.out b9)
  clear i2 b9 HP8 HB8 I7 YM8 IM8
  go_wp2_with fail
  (with_reducible refine (CR5.out x7 x2 W9 I7'.out I2.out).mono ?_)
  rintro e W10 ⟨sr, ar, nr, cr, rfl, ir, b10⟩
  have v10 := Ba W10 (.cells #[.bool sr, .slice ar nr cr] 24)
  have YR := hid (Box.new 24 W10 sr ar nr cr)
  have IR := hid (ir.below v10)
  have b10' := Bt b10 v10
  have YM10 := hid (YM9.out.on b10')
  have IM10 := hid (IM9.out.below b10')
  have HP10 := hid (HP9.out.onb b10')
  have HB10 := hid (Bt HB9.out b10')
  clear ir b10 v10 b10' HP9 HB9 I7' I2 CR5 YM9 IM9
  go_wp2_with fail
  obtain ⟨gr, hgr⟩ : ∃ g, g = W10.heap.size := ⟨_, rfl⟩
  rw [← hgr] at YR ⊢
  generalize W10.alloc (.cells #[.bool sr, .slice ar nr cr] 24) = W10' at *
  clear hgr
  (with_reducible refine (rfrom_is 1 _ (by decide) (by decide)).mono ?_)
  rintro e W11 ⟨x1, rfl, i1, b11⟩
  have I1 := hid i1
  have YM11 := hid (YM10.out.on b11)
  have IM11 := hid (IM10.out.below b11)
  have YR11 := hid (YR.out.on b11)
  have IR11 := hid (IR.out.below b11)
  have HP11 := hid (HP10.out.onb b11)
  have HB11 := hid (Bt HB10.out b11)
  clear i1 b11 HP10 HB10 YM10 IM10 YR IR
  go_wp2_with fail
  (with_reducible refine (CR4.out x1 _ W11 I1.out (zero_is _)).mono ?_)
  rintro e W12 ⟨sz, az, nz, cz, rfl, izz, b12⟩
  have v12 := Ba W12 (.cells #[.bool sz, .slice az nz cz] 24)
  have yz := Box.new 24 W12 sz az nz cz
  have b12' := Bt b12 v12
  have ym := (YM11.out.on b12').c
  have yr := (YR11.out.on b12').c
  have yzc := yz.c
  have IMW := hid (IM11.out.below b12')
  have IRW := hid (IR11.out.below b12')
  have HPW := hid (HP11.out.onb b12')
  have HBW := hid (Bt HB11.out b12')
  clear izz b12 v12 b12' HP11 HB11 CR4 YM11 IM11 YR11 IR11 I1 yz
  go_wp2_with fail
  obtain ⟨gz, hgz⟩ : ∃ g, g = W12.heap.size := ⟨_, rfl⟩
  rw [← hgz] at yzc ⊢
  generalize W12.alloc (.cells #[.bool sz, .slice az nz cz] 24) = W at *
  clear hgz
  have hS0 : W.cell? ⟨gm, 0, none⟩ = some (.bool sm) ∧ W.cell? ⟨gm, 1, none⟩ = some (.slice am nm cm) ∧ W.cell? ⟨gr, 0, none⟩ = some (.bool sr) ∧ W.cell? ⟨gr, 1, none⟩ = some (.slice ar nr cr) ∧ W.cell? ⟨gz, 0, none⟩ = some (.bool sz) ∧ W.cell? ⟨gz, 1, none⟩ = some (.slice az nz cz) ∧ Below W.heap.size W W := ⟨ym.1, ym.2, yr.1, yr.2, yzc.1, yzc.2, Below.refl _ _⟩
  have HS0 := hid hS0
  clear ym yr yzc hS0
  go_region_held3 (fun wx => wx.cell? ⟨gm, 0, none⟩ = some (.bool sm) ∧ wx.cell? ⟨gm, 1, none⟩ = some (.slice am nm cm) ∧ wx.cell? ⟨gr, 0, none⟩ = some (.bool sr) ∧ wx.cell? ⟨gr, 1, none⟩ = some (.slice ar nr cr) ∧ wx.cell? ⟨gz, 0, none⟩ = some (.bool sz) ∧ wx.cell? ⟨gz, 1, none⟩ = some (.slice az nz cz) ∧ Below W.heap.size W wx)
    (first | exact six_on HS0.out (Bd W 1) | exact six_on (by assumption) (by assumption))
    (first
      | (go_at_call 15; (with_reducible refine (CU.out _ F4 _ (HPW.out.onb ?_)).mono ?_); (exact six_bel (p := gm) (q := gr) (r := gz) (a0 := .bool sm) (a1 := .slice am nm cm) (b0 := .bool sr) (b1 := .slice ar nr cr) (c0 := .bool sz) (c1 := .slice az nz cz) (by assumption)); rintro e wu ⟨rfl, bu⟩)
      | (go_at_call_of 22 (Value.int .i64 1); (with_reducible refine (rfrom_is 1 _ (by decide) (by decide)).mono ?_); rintro e wa ⟨y1, rfl, j1, ba⟩; have J1 := hid j1; clear j1)
      | (go_at_call 22; (with_reducible refine (rfrom_is (-1) _ (by decide) (by decide)).mono ?_); rintro e wc ⟨ym1, rfl, jm1, bc⟩; have JM1 := hid jm1; clear jm1)
      | (go_at_call_of 11 y1; (with_reducible refine (zsame_true _ y1 1 _ ?_ J1.out).mono ?_); (exact IMW.out.below (six_bel (p := gm) (q := gr) (r := gz) (a0 := .bool sm) (a1 := .slice am nm cm) (b0 := .bool sr) (b1 := .slice ar nr cr) (c0 := .bool sz) (c1 := .slice az nz cz) (by assumption))); rintro e wb ⟨rfl, bb⟩)
      | (go_at_call_of 11 ym1; (with_reducible refine (zsame_true _ ym1 (-1) _ ?_ JM1.out).mono ?_); (exact IRW.out.below (six_bel (p := gm) (q := gr) (r := gz) (a0 := .bool sm) (a1 := .slice am nm cm) (b0 := .bool sr) (b1 := .slice ar nr cr) (c0 := .bool sz) (c1 := .slice az nz cz) (by assumption))); rintro e wd ⟨rfl, bd⟩))
  have HBE : Hid (Below w.heap.size w wd) := Bt HBW.out (six_bel (p := gm) (q := gr) (r := gz) (a0 := .bool sm) (a1 := .slice am nm cm) (b0 := .bool sr) (b1 := .slice ar nr cr) (c0 := .bool sz) (c1 := .slice az nz cz) (by assumption))
  rename_i hHeld
  clear hHeld
  go_wp2
  go_ret
  exact ⟨rfl, HBE.out⟩
end Go.Proofs.Ytdekkieajffblaa

set_option linter.unusedVariables false
set_option linter.unusedSimpArgs false
namespace Go.Proofs.Ytdekkieajffblaa
open Go.RowKit

theorem radd_is (x y : Value) (a b : Int) (w : World) (hx : IsInt w x a) (hy : IsInt w y b) : Calls Try.prog 28 #[x, y] w (AddPost w (a + b)) := by
  obtain ⟨s, ao, n, cap, l, rfl, R, g, rfl⟩ := hx.open_
  obtain ⟨s', ao', n', cap', l', rfl, R', g', rfl⟩ := hy.open_
  exact radd_any s s' ao ao' n cap n' cap' l l' w R R' (by rw [← R.len]; exact goodB_len g) (by rw [← R'.len]; exact goodB_len g')

set_option maxHeartbeats 4000000 in
theorem rsub_any (neg neg' : Bool) (ao ao' : Option Addr) (n cap n' cap' : Nat) (l l' : List Nat) (w : World) (R : Row .u32 B32 w ao n cap l) (R' : Row .u32 B32 w ao' n' cap' l') (g1 : goodB neg l = true) (g2 : goodB neg' l' = true) :
    Calls Try.prog 29 #[.agg #[.bool neg, .slice ao n cap], .agg #[.bool neg', .slice ao' n' cap']] w (AddPost w (sgn neg (val B32 l) + - sgn neg' (val B32 l'))) := by
  have HR := hid R
  have HR' := hid R'
  have G1 := hid g1
  have G2 := hid g2
  clear R R' g1 g2
  go_enter Try.func29, Try.ntmps29
  go_wp2_with fail
  obtain ⟨x1, x2, x3, hb0⟩ := three_boxes 24 w neg neg' false ao ao' none n cap n' cap' 0 0 _ rfl
  generalize hW0 : (((w.alloc (.cells #[.bool neg, .slice ao n cap] 24)).alloc (.cells #[.bool neg', .slice ao' n' cap'] 24)).alloc (.cells #[.bool false, .slice none 0 0] 24)) = W0 at *
  clear hW0
  have HS : Hid (W0.cell? ⟨w.heap.size, 0, none⟩ = some (.bool neg) ∧ W0.cell? ⟨w.heap.size, 1, none⟩ = some (.slice ao n cap) ∧ W0.cell? ⟨w.heap.size + 1, 0, none⟩ = some (.bool neg') ∧ W0.cell? ⟨w.heap.size + 1, 1, none⟩ = some (.slice ao' n' cap')) := ⟨x1.c.1, x1.c.2, x2.c.1, x2.c.2⟩
  have IA : Hid (IsInt W0 (.agg #[.bool neg, .slice ao n cap]) (sgn neg (val B32 l))) := ⟨neg, l, ⟨ao, n, cap, rfl, HR.out.below hb0⟩, G1.out, rfl⟩
  have RW' := hid (HR'.out.below hb0)
  have Y3 := hid x3
  have HB0 := hid hb0
  clear x1 x2 x3 hb0 HR HR'
  go_region_held3 (fun wx => wx.cell? ⟨w.heap.size, 0, none⟩ = some (.bool neg) ∧ wx.cell? ⟨w.heap.size, 1, none⟩ = some (.slice ao n cap) ∧ wx.cell? ⟨w.heap.size + 1, 0, none⟩ = some (.bool neg') ∧ wx.cell? ⟨w.heap.size + 1, 1, none⟩ = some (.slice ao' n' cap'))
    (first | exact keep4 HS.out (Bd W0 1) | exact keep4 (by assumption) (by assumption) | exact keep4s (by assumption) (by omega) (by omega))
    (first
      | (go_at_call 54; refine (rneg_any neg' ao' n' cap' l' _ ?_ G2.out).mono ?_; (exact RW'.out.below (Bd W0 1)); rintro e wa ⟨xb, rfl, ib, ba⟩; have IB := hid ib; clear ib)
      | (go_at_call 28; refine (radd_is (.agg #[.bool neg, .slice ao n cap]) xb (sgn neg (val B32 l)) (- sgn neg' (val B32 l')) _ ?_ ?_).mono ?_; (exact (IA.out.below (Bd W0 1)).below ba); (exact IB.out); rintro e wb ⟨x, en, rfl, hA, bb⟩; obtain ⟨sx, ax, nx, cx, lx, rfl, Rx, hAx⟩ := hA.form; have Z3 := ((Y3.out.on (Bd W0 1)).on ba).on bb; obtain ⟨z30, z31⟩ := Z3.c; obtain ⟨f30, f31⟩ := Z3.f; have HZ := hid Z3; have HRx := hid Rx; have HAx := hid hAx; clear hA Rx hAx Z3))
  have hbW : Below w.heap.size w wb := Bt (Bt (Bt HB0.out (Bd W0 1)) ba) bb
  have z := HZ.out.set2 sx ax nx cx
  obtain ⟨y0, y1⟩ := z.c
  have rx := HAx.out _ (HRx.out.setBox2 HZ.out sx (.slice ax nx cx))
  have bF := (hbW.setCell (p := ⟨w.heap.size + 1 + 1, 0, none⟩) (by simp; omega) (.bool sx)).setCell (p := ⟨w.heap.size + 1 + 1, 1, none⟩) (by simp; omega) (.slice ax nx cx)
  rename_i hHeld
  clear hHeld
  go_wp2
  exact bodyPost_ret (v := .tuple #[.agg #[.bool sx, .slice ax nx cx], .int .i64 en]) (by simp [results, Try.results29, go_sem, y0, y1]) rfl ⟨_, _, rfl, rx, bF⟩

end Go.Proofs.Ytdekkieajffblaa
