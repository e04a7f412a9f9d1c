import Derived.Test.YtdekkieajffblaaGreatDoorAW2
import Derived.Test.YtdekkieajffblaaGreatDoorX3
import Derived.Test.YtdekkieajffblaaGreatDoorSL29
import Derived.Test.YtdekkieajffblaaGreatDoorG5
import Derived.Test.YtdekkieajffblaaGreatDoorV2
import Derived.Test.YtdekkieajffblaaGreatDoorW6
set_option linter.unusedVariables false
set_option linter.unusedSimpArgs false
set_option maxRecDepth 100000
namespace Go.Proofs.YtdekkieajffblaaGreatDoor
open Go.RowKit
theorem one2_on {W wx wy : World} {p b i j : Nat} {a0 a1 b0 b1 : Value}
  (h : wx.cell? ⟨p, 0, none⟩ = some a0 /\ wx.cell? ⟨p, 1, none⟩ = some a1 /\ wx.cell? ⟨b, i, none⟩ = some b0 /\ wx.cell? ⟨b, j, none⟩ = some b1 /\ Below W.heap.size W wx) (hb : Below wx.heap.size wx wy) :
  wy.cell? ⟨p, 0, none⟩ = some a0 /\ wy.cell? ⟨p, 1, none⟩ = some a1 /\ wy.cell? ⟨b, i, none⟩ = some b0 /\ wy.cell? ⟨b, j, none⟩ = some b1 /\ Below W.heap.size W wy := by
 obtain ⟨h1, h2, h3, h4, h7⟩ := h
 exact ⟨(hb.cell (p := ⟨p, 0, none⟩) (cell_lt h1)).trans h1, (hb.cell (p := ⟨p, 1, none⟩) (cell_lt h1)).trans h2, (hb.cell (p := ⟨b, i, none⟩) (cell_lt h3)).trans h3, (hb.cell (p := ⟨b, j, none⟩) (cell_lt h4)).trans h4, Bt h7 hb⟩
theorem one2_bel {W wx : World} {p b i j : Nat} {a0 a1 b0 b1 : Value}
  (h : wx.cell? ⟨p, 0, none⟩ = some a0 /\ wx.cell? ⟨p, 1, none⟩ = some a1 /\ wx.cell? ⟨b, i, none⟩ = some b0 /\ wx.cell? ⟨b, j, none⟩ = some b1 /\ Below W.heap.size W wx) : Below W.heap.size W wx := h.2.2.2.2
theorem oneneed_le {z : Int} (hb : ¬ Big z.natAbs) : needZ z <= 42 := by
 unfold needZ
 split
 ·omega
 ·have := mg_len40 hb; omega
theorem onelay_fits {os : List Ob} {N z : Int} (h : needZ z <= N - (usedL os : Nat)) : (layM os N z).2 = 0 := by
 rw [layM_is]
 split
 ·rfl
 ·rw [if_neg (by omega)]
theorem onelayM_u (os : List Ob) (N z : Int) : U64 (layM os N z).1 := by
 rw [layM_is]
 split
 ·exact wordR_rng _ _ _
 ·split
  ·unfold U64; omega
  ·exact wordR_rng _ _ _
theorem say_ptr {n : Nat} (h : n <= 1099511627776) : ofR (wordR 2 (n : Int) 0) = (2, (n : Int), 0) := by
 have := word_back (k := 2) (n := (n : Int)) (t := 0) (by unfold rightB; simp; omega)
 rw [this]; rfl
theorem one_first {a b N : Int} (hN : N <= 4194304) (h1 : (layM [] N a).2 = 0) (h2 : (layM (layO [] N a) N b).2 = 0) : numM (layO (layO [] N a) N b) (layM [] N a).1 = some a := by
 have hn := numM_lay (os := []) hN h1
 have hu := lay_used (layO [] N a) N b h2
 have hu0 := lay_used [] N a h1
 rw [layO_is (layO [] N a)]
 cases hb : fixB b
 ·rw [layM_is, hb] at h2
  simp only [Bool.false_eq_true, if_false] at h2 ⊢
  by_cases hr : N - (usedL (layO [] N a) : Nat) < needZ b
  ·rw [if_pos hr] at h2; cases h2
  ·rw [if_neg hr]
   unfold numM at hn ⊢
   by_cases hi : isR 1 (layM [] N a).1 = true
   ·rw [if_pos hi] at hn ⊢; exact hn
   ·rw [if_neg hi] at hn ⊢
    cases hf : findM (layO [] N a) (layM [] N a).1 with
    | none => rw [hf] at hn; cases hn
    | some k =>
     rw [hf] at hn
     have hle : usedL (layO [] N a ++ [bigO b]) <= 1099511627776 := by
      have e : layO (layO [] N a) N b = layO [] N a ++ [bigO b] := by
       rw [layO_is, hb]
       simp only [Bool.false_eq_true, if_false]
       rw [if_neg hr]
      rw [e] at hu
      omega
     obtain ⟨e1, e2⟩ := find_app hf hle
     rw [e1]
     show some (intL ((layO [] N a ++ [bigO b]).getD k default).f) = _
     rw [e2]
     exact hn
 ·exact hn
theorem numM_find {os : List Ob} {p z : Int} (h : numM os p = some z) (hp : isR 1 p = false) : ∃ k, findM os p = some k /\ intL (os.getD k default).f = z := by
 unfold numM at h
 rw [hp] at h
 simp only [Bool.false_eq_true, if_false] at h
 cases hf : findM os p with
 | none => rw [hf] at h; cases h
 | some k =>
  rw [hf] at h
  exact ⟨k, rfl, Option.some.inj h⟩
theorem lay_kind {os : List Ob} {N z : Int} (hu : ((usedL os : Nat) : Int) <= 1099511627776) (h : (layM os N z).2 = 0) : (ofR (layM os N z).1).1 = if fixB z = true then 1 else 2 := by
 rw [layM_is] at h ⊢
 cases hf : fixB z
 ·rw [hf] at h
  simp only [Bool.false_eq_true, if_false] at h ⊢
  by_cases hr : N - (usedL os : Nat) < needZ z
  ·rw [if_pos hr] at h; cases h
  ·rw [if_neg hr]
   show (ofR (wordR 2 ((usedL os : Nat) : Int) 0)).1 = 2
   rw [say_ptr (by omega)]
 ·rw [if_pos rfl, if_pos rfl]
  show (ofR (wordR 1 z 0)).1 = 1
  rw [say_fix hf]
theorem one_eqv {a b N : Int} (hN : 0 <= N /\ N <= 4194304) (ha : ¬ Big a.natAbs) (hb : ¬ Big b.natAbs) (h1 : (layM [] N a).2 = 0) (h2 : (layM (layO [] N a) N b).2 = 0) :
  eqvB (layO (layO [] N a) N b) (layM [] N a).1 (layM (layO [] N a) N b).1 = decide (a = b) := by
 have hall := layO_all (layO_all all_nil N ha) N hb
 have hna := one_first hN.2 h1 h2
 have hnb := numM_lay hN.2 h2
 have hu0 := lay_used [] N a h1
 have hn0 := need_nn a
 have hna42 := oneneed_le ha
 have e00 : ((usedL ([] : List Ob) : Nat) : Int) = 0 := rfl
 have hka := lay_kind (by rw [e00]; omega) h1
 have hkb := lay_kind (by omega) h2
 generalize hos : layO (layO [] N a) N b = os at *
 have key : eqvB os (layM [] N a).1 (layM (layO [] N a) N b).1 = true ↔ a = b := by
  constructor
  ·intro h
   unfold eqvB at h
   rw [Bool.or_eq_true] at h
   rcases h with h | h
   ·have e := of_decide_eq_true h
    rw [e] at hna
    exact Option.some.inj (hna.symm.trans hnb)
   ·unfold sameIB at h
    cases hi : findM os (layM [] N a).1 with
    | none => rw [hi] at h; cases h
    | some i =>
     cases hk : findM os (layM (layO [] N a) N b).1 with
     | none => rw [hi, hk] at h; cases h
     | some k =>
      rw [hi, hk] at h
      simp only [bigEq, Bool.and_eq_true, decide_eq_true_eq] at h
      have k2 : ∀ p j, findM os p = some j -> isR 1 p = false := fun p j e => by
       unfold findM at e
       split at e
       ·rename_i e2
        unfold isR
        rw [e2]; rfl
       ·cases e
      obtain ⟨i', e1, e2⟩ := numM_find hna (k2 _ _ hi)
      obtain ⟨k', e3, e4⟩ := numM_find hnb (k2 _ _ hk)
      rw [hi] at e1
      rw [hk] at e3
      cases e1; cases e3
      rw [<- e2, <- e4, h.2.2.1]
  ·intro h
   subst h
   cases hf : fixB a
   ·have ka : isR 1 (layM [] N a).1 = false := by unfold isR; rw [hka, hf]; rfl
    have kb : isR 1 (layM (layO [] N a) N a).1 = false := by unfold isR; rw [hkb, hf]; rfl
    obtain ⟨i, e1, e2⟩ := numM_find hna ka
    obtain ⟨k, e3, e4⟩ := numM_find hnb kb
    unfold eqvB sameIB
    rw [e1, e3]
    simp only [Bool.or_eq_true]
    right
    have hmi : os.getD i default ∈ os := by rw [List.getD_eq_getElem?_getD, List.getElem?_eq_getElem (findM_lt e1).1]; exact List.getElem_mem _
    have hmk : os.getD k default ∈ os := by rw [List.getD_eq_getElem?_getD, List.getElem?_eq_getElem (findM_lt e3).1]; exact List.getElem_mem _
    obtain ⟨y, y1, y2, y3⟩ := hall _ hmi
    obtain ⟨u, u1, u2, u3⟩ := hall _ hmk
    have fy : (os.getD i default).f = bigL (decide (y < 0)) (mg y.natAbs) := by rw [y1]; rfl
    have fu : (os.getD k default).f = bigL (decide (u < 0)) (mg u.natAbs) := by rw [u1]; rfl
    rw [fy, big_intL] at e2
    rw [fu, big_intL] at e4
    subst e2
    subst e4
    unfold bigEq
    rw [y1, u1]
    simp only [bigO, Bool.and_eq_true, decide_eq_true_eq]
    exact ⟨trivial, trivial, trivial, big_is y2 y3⟩
   ·have e1 : (layM [] N a).1 = (layM (layO [] N a) N a).1 := by rw [layM_is, layM_is, hf]; rfl
    unfold eqvB
    rw [e1, decide_eq_true rfl]; rfl
 by_cases hab : a = b
 ·rw [key.2 hab, decide_eq_true hab]
 ·rw [decide_eq_false hab]
  cases he : eqvB os (layM [] N a).1 (layM (layO [] N a) N b).1
  ·rfl
  ·exact absurd (key.1 he) hab
theorem zsame_true (x y : Value) (a : Int) (w : World) (hx : IsInt w x a) (hy : IsInt w y a) :
  Calls Tryz.prog 11 #[x, y] w fun e w' => e = .returned (.bool true) /\ Below w.heap.size w w' :=
 (zsame_any x y a a w hx hy).mono fun e w' ⟨h1, h2⟩ => ⟨by rw [h1]; simp, h2⟩
theorem pnew_ok (n : Int) (h1 : 1 <= n) (h2 : n <= 4194304) (w : World) : Calls Tryz.prog 6 #[.int .i64 n] w fun e w' => ∃ v F, e = .returned (.tuple #[v, .int .i64 0]) /\ PH w.heap.size v n [] F w' /\ Below w.heap.size w w' := by
 refine (pnew_any n (by unfold Z64; omega) w).mono ?_
 intro e w' h
 rw [if_neg (by omega)] at h
 exact h
set_option maxHeartbeats 8000000 in
theorem arawake_any (w : World) : Calls Tryz.prog 5 #[] w fun e w' => e = .returned (.bool true) /\ Below w.heap.size w w' := by
 have CN := hid (pnew_ok 20 (by omega) (by omega) w)
 have CL : Hid (∀ (v x : Value) (F : Nat -> Prop) (W : World), PH w.heap.size v 20 [] F W -> w.heap.size <= W.heap.size -> IsInt W x 576460752303423488 -> Calls Tryz.prog 7 #[v, x] W fun e w' => e = .returned (.tuple #[.int .u64 aw59, .int .i64 0]) /\ PPost w.heap.size v 20 F W [] w') := fun v x F W h hB hi => by
  have := alay_any (os := []) os_nil x 576460752303423488 W h hi hB
  rw [lay59, layo59] at this
  exact this
 have CD : Hid (∀ (v : Value) (F : Nat -> Prop) (W : World), PH w.heap.size v 20 [] F W -> w.heap.size <= W.heap.size -> Calls Tryz.prog 15 #[v, .int .i64 1, .int .u64 aw59, .int .u64 aw59] W fun e w' => e = .returned (.tuple #[.int .u64 1, .int .i64 0]) /\ PPost w.heap.size v 20 F W (wordsL [bigO 1152921504606846976]) w') := fun v F W h hB => by
  have := ado_any (os := []) os_nil all_nil 1 aw59 aw59 u59 u59 W h hB
  rw [do59, doo59] at this
  exact this
 have CU : Hid (∀ (v : Value) (F : Nat -> Prop) (W : World), PH w.heap.size v 20 (wordsL [bigO 1152921504606846976]) F W -> Calls Tryz.prog 17 #[v] W fun e w' => e = .returned (.int .i64 4) /\ Below W.heap.size W w') := fun v F W h => by
  have := pused_any W h
  rw [used59] at this
  exact this
 have CR6 : Hid (∀ (x y : Value) (W : World), IsInt W x (-7) -> IsInt W y 2 -> Calls Tryz.prog 16 #[.int .i64 6, x, y] W (RkPost W (1, 0))) := fun x y W hx hy => by
  have := reckon_any 6 x y (-7) 2 W hx hy
  rw [reck6] at this; exact this
 have CR5 : Hid (∀ (x y : Value) (W : World), IsInt W x (-7) -> IsInt W y 2 -> Calls Tryz.prog 16 #[.int .i64 5, x, y] W (RkPost W (-1, 0))) := fun x y W hx hy => by
  have := reckon_any 5 x y (-7) 2 W hx hy
  rw [reck5] at this; exact this
 have CR4 : Hid (∀ (x y : Value) (W : World), IsInt W x 1 -> IsInt W y 0 -> Calls Tryz.prog 16 #[.int .i64 4, x, y] W (RkPost W (0, 11))) := fun x y W hx hy => by
  have := reckon_any 4 x y 1 0 W hx hy
  rw [reck4] at this; exact this
 unfold RkPost at CR6 CR5 CR4
 obtain ⟨aw, haw⟩ : ∃ a, a = aw59 := ⟨_, rfl⟩
 rw [<- haw] at CL CD
 clear haw
 go_enter Tryz.func5, Tryz.ntmps5
 go_wp2_with fail
 (with_reducible refine CN.out.mono ?_)
 rintro e W1 ⟨v, F, rfl, hP, b1⟩
 have HP1 := hid hP
 have HB1 := hid b1
 obtain ⟨gh, rfl⟩ := hP.ptr
 clear hP b1 CN
 go_wp2_with fail
 (with_reducible refine (rfrom_is 576460752303423488 _ (by decide) (by decide)).mono ?_)
 rintro e W2 ⟨x, rfl, hx, b2⟩
 have HX := hid hx
 have HP2 := hid (HP1.out.onb b2)
 have HB2 := hid (Bt HB1.out b2)
 clear hx b2 HP1 HB1
 go_wp2_with fail
 (with_reducible refine (CL.out _ x F W2 HP2.out HB2.out.size HX.out).mono ?_)
 rintro e W3 ⟨rfl, hp⟩
 have HB3 := hid (HB2.out.trans (PPost.below HP2.out hp HB2.out.size))
 obtain ⟨F3, hp3, _, _⟩ := hp
 have HP3 := hid hp3
 clear hp3 HX HP2 HB2 CL
 go_wp2_with fail
 (with_reducible refine (CD.out _ F3 W3 HP3.out HB3.out.size).mono ?_)
 rintro e W4 ⟨rfl, hp⟩
 have HB4 := hid (HB3.out.trans (PPost.below HP3.out hp HB3.out.size))
 obtain ⟨F4, hp4, _, _⟩ := hp
 have HP4 := hid hp4
 clear hp4 HP3 HB3 CD
 go_wp2_with fail
 (with_reducible refine (rfrom_is (-7) _ (by decide) (by decide)).mono ?_)
 rintro e W5 ⟨x7, rfl, i7, b5⟩
 have I7 := hid i7
 have HP5 := hid (HP4.out.onb b5)
 have HB5 := hid (Bt HB4.out b5)
 clear i7 b5 HP4 HB4
 go_wp2_with fail
 (with_reducible refine (rfrom_is 2 _ (by decide) (by decide)).mono ?_)
 rintro e W6 ⟨x2, rfl, i2, b6⟩
 have I7' := hid (I7.out.below b6)
 have I2 := hid i2
 have HP6 := hid (HP5.out.onb b6)
 have HB6 := hid (Bt HB5.out b6)
 clear i2 b6 HP5 HB5 I7
 go_wp2_with fail
 (with_reducible refine (CR6.out x7 x2 W6 I7'.out I2.out).mono ?_)
 rintro e W7 ⟨sm, am, nm, cm, rfl, im, b7⟩
 have v7 := Ba W7 (.cells #[.bool sm, .slice am nm cm] 24)
 have YM := hid (Box.new 24 W7 sm am nm cm)
 have IM := hid (im.below v7)
 have b7' := Bt b7 v7
 have HP7 := hid (HP6.out.onb b7')
 have HB7 := hid (Bt HB6.out b7')
 clear im b7 v7 b7' HP6 HB6 I7' I2 CR6
 go_wp2_with fail
 obtain ⟨gm, hgm⟩ : ∃ g, g = W7.heap.size := ⟨_, rfl⟩
 rw [<- hgm] at YM ⊢
 generalize W7.alloc (.cells #[.bool sm, .slice am nm cm] 24) = W7' at *
 clear hgm
 (with_reducible refine (rfrom_is (-7) _ (by decide) (by decide)).mono ?_)
 rintro e W8 ⟨x7, rfl, i7, b8⟩
 have I7 := hid i7
 have YM8 := hid (YM.out.on b8)
 have IM8 := hid (IM.out.below b8)
 have HP8 := hid (HP7.out.onb b8)
 have HB8 := hid (Bt HB7.out b8)
 clear i7 b8 HP7 HB7 YM IM
 go_wp2_with fail
 (with_reducible refine (rfrom_is 2 _ (by decide) (by decide)).mono ?_)
 rintro e W9 ⟨x2, rfl, i2, b9⟩
 have I7' := hid (I7.out.below b9)
 have I2 := hid i2
 have YM9 := hid (YM8.out.on b9)
 have IM9 := hid (IM8.out.below b9)
 have HP9 := hid (HP8.out.onb b9)
 have HB9 := hid (Bt HB8.out b9)
 clear i2 b9 HP8 HB8 I7 YM8 IM8
 go_wp2_with fail
 (with_reducible refine (CR5.out x7 x2 W9 I7'.out I2.out).mono ?_)
 rintro e W10 ⟨sr, ar, nr, cr, rfl, ir, b10⟩
 have v10 := Ba W10 (.cells #[.bool sr, .slice ar nr cr] 24)
 have YR := hid (Box.new 24 W10 sr ar nr cr)
 have IR := hid (ir.below v10)
 have b10' := Bt b10 v10
 have YM10 := hid (YM9.out.on b10')
 have IM10 := hid (IM9.out.below b10')
 have HP10 := hid (HP9.out.onb b10')
 have HB10 := hid (Bt HB9.out b10')
 clear ir b10 v10 b10' HP9 HB9 I7' I2 CR5 YM9 IM9
 go_wp2_with fail
 obtain ⟨gr, hgr⟩ : ∃ g, g = W10.heap.size := ⟨_, rfl⟩
 rw [<- hgr] at YR ⊢
 generalize W10.alloc (.cells #[.bool sr, .slice ar nr cr] 24) = W10' at *
 clear hgr
 (with_reducible refine (rfrom_is 1 _ (by decide) (by decide)).mono ?_)
 rintro e W11 ⟨x1, rfl, i1, b11⟩
 have I1 := hid i1
 have YM11 := hid (YM10.out.on b11)
 have IM11 := hid (IM10.out.below b11)
 have YR11 := hid (YR.out.on b11)
 have IR11 := hid (IR.out.below b11)
 have HP11 := hid (HP10.out.onb b11)
 have HB11 := hid (Bt HB10.out b11)
 clear i1 b11 HP10 HB10 YM10 IM10 YR IR
 go_wp2_with fail
 (with_reducible refine (CR4.out x1 _ W11 I1.out (zero_is _)).mono ?_)
 rintro e W12 ⟨sz, az, nz, cz, rfl, izz, b12⟩
 have v12 := Ba W12 (.cells #[.bool sz, .slice az nz cz] 24)
 have yz := Box.new 24 W12 sz az nz cz
 have b12' := Bt b12 v12
 have ym := (YM11.out.on b12').c
 have yr := (YR11.out.on b12').c
 have yzc := yz.c
 have IMW := hid (IM11.out.below b12')
 have IRW := hid (IR11.out.below b12')
 have HPW := hid (HP11.out.onb b12')
 have HBW := hid (Bt HB11.out b12')
 clear izz b12 v12 b12' HP11 HB11 CR4 YM11 IM11 YR11 IR11 I1 yz
 go_wp2_with fail
 obtain ⟨gz, hgz⟩ : ∃ g, g = W12.heap.size := ⟨_, rfl⟩
 rw [<- hgz] at yzc ⊢
 generalize W12.alloc (.cells #[.bool sz, .slice az nz cz] 24) = W at *
 clear hgz
 have hS0 : W.cell? ⟨gm, 0, none⟩ = some (.bool sm) /\ W.cell? ⟨gm, 1, none⟩ = some (.slice am nm cm) /\ W.cell? ⟨gr, 0, none⟩ = some (.bool sr) /\ W.cell? ⟨gr, 1, none⟩ = some (.slice ar nr cr) /\ W.cell? ⟨gz, 0, none⟩ = some (.bool sz) /\ W.cell? ⟨gz, 1, none⟩ = some (.slice az nz cz) /\ Below W.heap.size W W := ⟨ym.1, ym.2, yr.1, yr.2, yzc.1, yzc.2, Below.refl _ _⟩
 have HS0 := hid hS0
 clear ym yr yzc hS0
 go_region_held3 (fun wx => wx.cell? ⟨gm, 0, none⟩ = some (.bool sm) /\ wx.cell? ⟨gm, 1, none⟩ = some (.slice am nm cm) /\ wx.cell? ⟨gr, 0, none⟩ = some (.bool sr) /\ wx.cell? ⟨gr, 1, none⟩ = some (.slice ar nr cr) /\ wx.cell? ⟨gz, 0, none⟩ = some (.bool sz) /\ wx.cell? ⟨gz, 1, none⟩ = some (.slice az nz cz) /\ Below W.heap.size W wx)
  (first | exact six_on HS0.out (Bd W 1) | exact six_on (by assumption) (by assumption))
  (first
   | (go_at_call 17; (with_reducible refine (CU.out _ F4 _ (HPW.out.onb ?_)).mono ?_); (exact six_bel (p := gm) (q := gr) (r := gz) (a0 := .bool sm) (a1 := .slice am nm cm) (b0 := .bool sr) (b1 := .slice ar nr cr) (c0 := .bool sz) (c1 := .slice az nz cz) (by assumption)); rintro e wu ⟨rfl, bu⟩)
   | (go_at_call_of 14 (Value.int .i64 1); (with_reducible refine (rfrom_is 1 _ (by decide) (by decide)).mono ?_); rintro e wa ⟨y1, rfl, j1, ba⟩; have J1 := hid j1; clear j1)
   | (go_at_call 14; (with_reducible refine (rfrom_is (-1) _ (by decide) (by decide)).mono ?_); rintro e wc ⟨ym1, rfl, jm1, bc⟩; have JM1 := hid jm1; clear jm1)
   | (go_at_call_of 11 y1; (with_reducible refine (zsame_true _ y1 1 _ ?_ J1.out).mono ?_); (exact IMW.out.below (six_bel (p := gm) (q := gr) (r := gz) (a0 := .bool sm) (a1 := .slice am nm cm) (b0 := .bool sr) (b1 := .slice ar nr cr) (c0 := .bool sz) (c1 := .slice az nz cz) (by assumption))); rintro e wb ⟨rfl, bb⟩)
   | (go_at_call_of 11 ym1; (with_reducible refine (zsame_true _ ym1 (-1) _ ?_ JM1.out).mono ?_); (exact IRW.out.below (six_bel (p := gm) (q := gr) (r := gz) (a0 := .bool sm) (a1 := .slice am nm cm) (b0 := .bool sr) (b1 := .slice ar nr cr) (c0 := .bool sz) (c1 := .slice az nz cz) (by assumption))); rintro e wd ⟨rfl, bd⟩))
 have HBE : Hid (Below w.heap.size w wd) := Bt HBW.out (six_bel (p := gm) (q := gr) (r := gz) (a0 := .bool sm) (a1 := .slice am nm cm) (b0 := .bool sr) (b1 := .slice ar nr cr) (c0 := .bool sz) (c1 := .slice az nz cz) (by assumption))
 rename_i hHeld
 clear hHeld
 go_wp2
 go_ret
 exact ⟨rfl, HBE.out⟩
def cmpZ (a b : Int) : Int := if a < b then -1 else if a = b then 0 else 1
theorem cmpR_is {s s' : Bool} {l l' : List Nat} (g : goodB s l = true) (g' : goodB s' l' = true) : cmpR s s' (val B32 l) (val B32 l') = cmpZ (sgn s (val B32 l)) (sgn s' (val B32 l')) := by
 have h1 : s = true -> val B32 l ≠ 0 := fun hs => (goodB_tr g).ne_zero (by decide) (fun e => by have := goodB_neg g (by simp [e]); rw [hs] at this; cases this)
 have h2 : s' = true -> val B32 l' ≠ 0 := fun hs => (goodB_tr g').ne_zero (by decide) (fun e => by have := goodB_neg g' (by simp [e]); rw [hs] at this; cases this)
 generalize val B32 l = x at *
 generalize val B32 l' = y at *
 by_cases h : s = s'
 ·subst h
  rw [cmpR_eq]
  unfold cmpN cmpZ
  cases s
  ·simp only [sgn, Bool.false_eq_true, if_false]
   by_cases hxy : x < y
   ·rw [if_pos hxy, if_pos (by omega)]
   ·by_cases he : x = y
    ·rw [if_neg hxy, if_pos he, if_neg (by omega), if_pos (by omega)]
    ·rw [if_neg hxy, if_neg he, if_neg (by omega), if_neg (by omega)]
  ·simp only [sgn, if_true]
   by_cases hxy : x < y
   ·rw [if_pos hxy, if_neg (by omega), if_neg (by omega)]; rfl
   ·by_cases he : x = y
    ·rw [if_neg hxy, if_pos he, if_neg (by omega), if_pos (by omega)]; rfl
    ·rw [if_neg hxy, if_neg he, if_pos (by omega)]
 ·rw [cmpR_ne _ _ h]
  unfold cmpZ
  cases s <;> cases s' <;> simp only [sgn, Bool.false_eq_true, if_false, if_true] at h ⊢
  ·exact absurd trivial h
  ·have := h2 rfl
   rw [if_neg (by omega), if_neg (by omega)]
  ·have := h1 rfl
   rw [if_pos (by omega)]
  ·exact absurd trivial h
theorem cmp_is (x y : Value) (a b : Int) (w : World) (hx : IsInt w x a) (hy : IsInt w y b) : Calls Tryz.prog 20 #[x, y] w fun e w' => e = .returned (.int .i64 (cmpZ a b)) /\ Below w.heap.size w w' := by
 obtain ⟨s, ao, n, cap, l, rfl, R, g, rfl⟩ := hx.open_
 obtain ⟨s', ao', n', cap', l', rfl, R', g', rfl⟩ := hy.open_
 rw [<- cmpR_is g g']
 exact cmp_any s s' ao ao' n cap n' cap' l l' w R R' g g'
section
variable {B : Nat} {v : Value} {N : Int} {os : List Ob} {ws : List Int} {F : Nat -> Prop} {w w1 w' : World}
def cmpM (os : List Ob) (p q : Int) : Int := if (bothZ os p q).2.2 = 0 then cmpZ (bothZ os p q).1 (bothZ os p q).2.1 else 0
set_option maxHeartbeats 4000000 in
theorem acmp_any (ho : OsOk os) (ha : AllBig os) (p q : Int) (hp : U64 p) (hq : U64 q) (w : World) (h : PH B v N (wordsL os) F w) :
  Calls Tryz.prog 8 #[v, .int .u64 p, .int .u64 q] w fun e w' => e = .returned (.tuple #[.int .i64 (cmpM os p q), .int .i64 (bothZ os p q).2.2]) /\ Below w.heap.size w w' := by
 have C1 := hid (aboth_any ho ha p q hp hq w h)
 unfold BoPost at C1
 have CC : Hid (∀ (x y : Value) (a b : Int) (W : World), IsInt W x a -> IsInt W y b -> Calls Tryz.prog 20 #[x, y] W fun e w' => e = .returned (.int .i64 (cmpZ a b)) /\ Below W.heap.size W w') := fun x y a b W hx hy => cmp_is x y a b W hx hy
 have hm : cmpM os p q = if (bothZ os p q).2.2 = 0 then cmpZ (bothZ os p q).1 (bothZ os p q).2.1 else 0 := rfl
 rw [hm]
 obtain ⟨gh, rfl⟩ := h.ptr
 obtain ⟨r, hr⟩ : ∃ r, r = bothZ os p q := ⟨_, rfl⟩
 rw [<- hr] at C1 ⊢
 clear hr hm h ho ha hp hq
 by_cases h1 : r.2.2 = 0
 ·rw [if_pos h1, h1]
  rw [h1] at C1
  clear h1
  go_enter Tryz.func8, Tryz.ntmps8
  go_wp2_with (first
   | (go_at_call 19; (with_reducible refine C1.out.mono ?_); rintro e W1 ⟨s1, a1, n1, c1, s2, a2, n2, c2, rfl, hI1, hI2, b2⟩; have v2 := Baa W1 (.cells #[.bool s1, .slice a1 n1 c1] 24) (.cells #[.bool s2, .slice a2 n2 c2] 24); have y1 := (Box.new 24 W1 s1 a1 n1 c1).alloc (.cells #[.bool s2, .slice a2 n2 c2] 24); have y2 := Box.new 24 (W1.alloc (.cells #[.bool s1, .slice a1 n1 c1] 24)) s2 a2 n2 c2; rw [size_alloc] at y2; have HB2 := hid (Bt b2 v2); obtain ⟨d0, d1⟩ := y1.c; obtain ⟨d2, d3⟩ := y2.c; have C3 := hid (CC.out _ _ _ _ _ (hI1.below v2) (hI2.below v2)); clear b2 v2 y1 y2 hI1 hI2)
   | (go_at_call 20; (with_reducible refine C3.out.mono ?_); rintro e W3 ⟨rfl, b3⟩; have HB3 := hid (Bt HB2.out b3); clear b3))
  go_ret2
  exact ⟨rfl, HB3.out⟩
 ·rw [if_neg h1]
  obtain ⟨er, her⟩ : ∃ e, e = r.2.2 := ⟨_, rfl⟩
  rw [<- her] at C1 h1 ⊢
  have e2 : (er == 0) = false := by simpa using h1
  clear her
  go_enter Tryz.func8, Tryz.ntmps8
  go_wp2_with (go_at_call 19; (with_reducible refine C1.out.mono ?_); rintro e W1 ⟨s1, a1, n1, c1, s2, a2, n2, c2, rfl, hI1, hI2, b2⟩; have v2 := Baa W1 (.cells #[.bool s1, .slice a1 n1 c1] 24) (.cells #[.bool s2, .slice a2 n2 c2] 24); have HB2 := hid (Bt b2 v2); clear b2 v2 hI1 hI2)
  go_ret2
  exact ⟨rfl, HB2.out⟩
end
end Go.Proofs.YtdekkieajffblaaGreatDoor
