import Derived.Test.YtdekkieajffblaaGreatDoorEA1
import Derived.Test.YtdekkieajffblaaGreatDoorAR7
import Derived.Test.YtdekkieajffblaaGreatDoorRows
import Derived.Test.YtdekkieajffblaaGreatDoorOnto
import Derived.ProofKit
import Derived.OpenShut
import Derived.ShutString
import Derived.ChangeOld
import Derived.Below
import Derived.Lib.SmallJoins
set_option linter.unusedVariables false
set_option linter.unusedSimpArgs false
set_option maxRecDepth 100000
namespace Go.Proofs.YtdekkieajffblaaGreatDoor
open Go.RowKit
theorem two_good2 (neg neg' : Bool) (ao ao' : Option Addr) (n cap n' cap' : Nat) (l l' : List Nat) (w W : World) (g : Nat) (t : TypeId) (R : Row .u32 B32 w ao n cap l) (R' : Row .u32 B32 w ao' n' cap' l') (hb : Below w.heap.size w W) (hg : W.heap[g]? = some (.cells #[.bool neg, .slice ao n cap, .bool neg', .slice ao' n' cap'] t (0, 0))) :
  Calls Tryz.prog 4 #[.slice (some ⟨g, 0, none⟩) 2 2] W fun e w' => e = .returned (.bool (goodB neg l && goodB neg' l')) /\ Below W.heap.size W w' := by
 have := zgood_any _ 2 2 _ W (zrow_two hg (R.below hb) (R'.below hb)) (by omega)
 have e : [(neg, l), (neg', l')].all goodZ = (goodB neg l && goodB neg' l') := by simp [goodZ]
 rw [e] at this
 exact this
theorem cmpZ_zero (a b : Int) : (cmpZ a b == 0) = decide (a = b) := by
 unfold cmpZ
 by_cases h1 : a < b
 ·rw [if_pos h1, decide_eq_false (by omega)]; rfl
 ·rw [if_neg h1]
  by_cases h2 : a = b
  ·rw [if_pos h2, decide_eq_true h2]; rfl
  ·rw [if_neg h2, decide_eq_false h2]; rfl
set_option maxHeartbeats 8000000 in
theorem arithOne_walk (neg : Bool) (ao : Option Addr) (n cap : Nat) (l : List Nat) (neg' : Bool) (ao' : Option Addr) (n' cap' : Nat) (l' : List Nat) (w : World) (R : Row .u32 B32 w ao n cap l) (R' : Row .u32 B32 w ao' n' cap' l') (hT : TabsS w) :
  Calls Tryz.prog 3 #[.agg #[.bool neg, .slice ao n cap], .agg #[.bool neg', .slice ao' n' cap']] w fun e w' => e = .returned (.bool true) /\ Below w.heap.size w w' := by
 have b0 := Baa w (.cells #[.bool neg, .slice ao n cap] 24) (.cells #[.bool neg', .slice ao' n' cap'] 24)
 have x1 := (Box.new 24 w neg ao n cap).alloc (.cells #[.bool neg', .slice ao' n' cap'] 24)
 have x2 := Box.new 24 (w.alloc (.cells #[.bool neg, .slice ao n cap] 24)) neg' ao' n' cap'
 rw [size_alloc] at x2
 obtain ⟨W0, hW0⟩ : ∃ W, W = (w.alloc (.cells #[.bool neg, .slice ao n cap] 24)).alloc (.cells #[.bool neg', .slice ao' n' cap'] 24) := ⟨_, rfl⟩
 rw [<- hW0] at b0 x1 x2
 have hs0 : W0.heap.size = w.heap.size + 1 + 1 := by rw [hW0, size_alloc, size_alloc]
 have b1 := Ba W0 (.cells #[.bool neg, .slice ao n cap, .bool neg', .slice ao' n' cap'] 24)
 have hblk := blk_new W0 #[.bool neg, .slice ao n cap, .bool neg', .slice ao' n' cap'] 24
 rw [hs0] at hblk
 have CG := hid (two_good2 neg neg' ao ao' n cap n' cap' l l' w _ _ _ R R' (Bt b0 b1) hblk)
 obtain ⟨c0, c1⟩ := x1.c
 obtain ⟨c2, c3⟩ := x2.c
 have CA := hid (fun W : World => arawake_any W)
 have HB1 := hid (Bt b0 b1)
 have HX1 := hid (x1.on b1)
 have HX2 := hid (x2.on b1)
 have HA : Hid (goodB neg l = true -> IsInt w (.agg #[.bool neg, .slice ao n cap]) (sgn neg (val B32 l))) := fun g => ⟨neg, l, ⟨ao, n, cap, rfl, R⟩, g, rfl⟩
 have HB : Hid (goodB neg' l' = true -> IsInt w (.agg #[.bool neg', .slice ao' n' cap']) (sgn neg' (val B32 l'))) := fun g => ⟨neg', l', ⟨ao', n', cap', rfl, R'⟩, g, rfl⟩
 obtain ⟨a, ha⟩ : ∃ a, a = sgn neg (val B32 l) := ⟨_, rfl⟩
 obtain ⟨b, hb⟩ : ∃ a, a = sgn neg' (val B32 l') := ⟨_, rfl⟩
 obtain ⟨g1, hg1⟩ : ∃ g, g = goodB neg l := ⟨_, rfl⟩
 obtain ⟨g2, hg2⟩ : ∃ g, g = goodB neg' l' := ⟨_, rfl⟩
 rw [<- ha, <- hg1] at HA
 rw [<- hb, <- hg2] at HB
 rw [<- hg1, <- hg2] at CG
 rw [hW0] at c0 c1 c2 c3 CG
 have HW0 := hid hW0
 clear R R' b0 b1 x1 x2 hblk hs0 ha hb hg1 hg2 hW0
 have HT := hid hT
 clear hT
 by_cases hg : (g1 && g2) = true
 ·rw [hg] at CG
  rw [Bool.and_eq_true] at hg
  have HA := hid (HA.out hg.1)
  have HB := hid (HB.out hg.2)
  clear hg
  have hsa : ¬ Big a.natAbs := HA.out.parts.2.2.1
  have hsb : ¬ Big b.natAbs := HB.out.parts.2.2.1
  have hna := need_nn a
  have hnb := need_nn b
  have hna2 := oneneed_le hsa
  have hnb2 := oneneed_le hsb
  have e00 : ((usedL ([] : List Ob) : Nat) : Int) = 0 := rfl
  have h1 := onelay_fits (os := []) (N := 500) (z := a) (by rw [e00]; omega)
  have hu1 := lay_used [] 500 a h1
  have h2 := onelay_fits (os := layO [] 500 a) (N := 500) (z := b) (by omega)
  have hev := one_eqv (a := a) (b := b) (N := 500) (by omega) hsa hsb h1 h2
  have hna3 := one_first (N := 500) (by omega) h1 h2
  have hnb3 := numM_lay (N := 500) (by omega) h2
  have hkd := lay_kind (os := []) (N := 500) (by rw [e00]; omega) h1
  have ok1 := layO_ok os_nil 500 a
  have al1 := layO_all all_nil 500 hsa
  have ok2 := layO_ok ok1 500 b
  have al2 := layO_all al1 500 hsb
  have pu1 := onelayM_u [] 500 a
  have pu2 := onelayM_u (layO [] 500 a) 500 b
  have CL1 : Hid (∀ (gh : Nat) (F : Nat -> Prop) (Bx : Nat) (W : World), PH Bx (.pointer (some ⟨gh, 0, none⟩)) 500 [] F W -> Bx <= W.heap.size -> IsInt W (.agg #[.bool neg, .slice ao n cap]) a -> Calls Tryz.prog 7 #[.pointer (some ⟨gh, 0, none⟩), .agg #[.bool neg, .slice ao n cap]] W fun e w' => e = .returned (.tuple #[.int .u64 (layM [] 500 a).1, .int .i64 0]) /\ PPost Bx (.pointer (some ⟨gh, 0, none⟩)) 500 F W (wordsL (layO [] 500 a)) w') := fun gh F Bx W h hB hi => by
   have := alay_any (os := []) os_nil _ a W h hi hB
   rw [h1] at this; exact this
  have CL2 : Hid (∀ (gh : Nat) (F : Nat -> Prop) (Bx : Nat) (W : World), PH Bx (.pointer (some ⟨gh, 0, none⟩)) 500 (wordsL (layO [] 500 a)) F W -> Bx <= W.heap.size -> IsInt W (.agg #[.bool neg', .slice ao' n' cap']) b -> Calls Tryz.prog 7 #[.pointer (some ⟨gh, 0, none⟩), .agg #[.bool neg', .slice ao' n' cap']] W fun e w' => e = .returned (.tuple #[.int .u64 (layM (layO [] 500 a) 500 b).1, .int .i64 0]) /\ PPost Bx (.pointer (some ⟨gh, 0, none⟩)) 500 F W (wordsL (layO (layO [] 500 a) 500 b)) w') := fun gh F Bx W h hB hi => by
   have := alay_any ok1 _ b W h hi hB
   rw [h2] at this; exact this
  obtain ⟨p, hp⟩ : ∃ x, x = (layM [] 500 a).1 := ⟨_, rfl⟩
  obtain ⟨q, hq⟩ : ∃ x, x = (layM (layO [] 500 a) 500 b).1 := ⟨_, rfl⟩
  rw [<- hp] at CL1 hev hna3 hkd pu1
  rw [<- hq] at CL2 hev hnb3 pu2
  obtain ⟨os, hos⟩ : ∃ x, x = layO (layO [] 500 a) 500 b := ⟨_, rfl⟩
  rw [<- hos] at CL2 hev hna3 hnb3 ok2 al2
  have hcm : cmpM os p q = cmpZ a b /\ (bothZ os p q).2.2 = 0 := by
   have e : bothZ os p q = (a, b, 0) := by unfold bothZ; rw [hna3, hnb3]; rfl
   unfold cmpM
   rw [e]
   exact ⟨by rw [if_pos rfl], rfl⟩
  have CC : Hid (∀ (gh : Nat) (F : Nat -> Prop) (Bx : Nat) (W : World), PH Bx (.pointer (some ⟨gh, 0, none⟩)) 500 (wordsL os) F W -> Calls Tryz.prog 8 #[.pointer (some ⟨gh, 0, none⟩), .int .u64 p, .int .u64 q] W fun e w' => e = .returned (.tuple #[.int .i64 (cmpZ a b), .int .i64 0]) /\ Below W.heap.size W w') := fun gh F Bx W h => by
   have := acmp_any ok2 al2 p q pu1 pu2 W h
   rw [hcm.1, hcm.2] at this; exact this
  have CE : Hid (∀ (gh : Nat) (F : Nat -> Prop) (Bx : Nat) (W : World), PH Bx (.pointer (some ⟨gh, 0, none⟩)) 500 (wordsL os) F W -> TabsS W -> Calls Tryz.prog 10 #[.pointer (some ⟨gh, 0, none⟩), .int .u64 p, .int .u64 q] W fun e w' => e = .returned (.bool (decide (a = b))) /\ Below W.heap.size W w') := fun gh F Bx W h hT => by
   have := eeqv2_any p q pu1 pu2 W ⟨h, ok2⟩ al2 hT
   rw [hev] at this; exact this
  have CF : Hid (∀ W, IsInt W (.agg #[.bool neg, .slice ao n cap]) a -> Calls Tryz.prog 9 #[.agg #[.bool neg, .slice ao n cap]] W fun e w' => ∃ v, e = .returned (.tuple #[.int .i64 v, .bool (fixB a)]) /\ Below W.heap.size W w') := fun W hi => by
   obtain ⟨s, a', n1, c1, l1, e, R1, g1, hy⟩ := hi.open_
   cases e
   have := fixed_any neg ao n cap l1 W R1 g1
   rw [<- hy] at this
   refine this.mono ?_
   rintro e w' ⟨v, q1, _, q3⟩
   exact ⟨v, q1, q3⟩
  have CO : Hid (∀ W, Calls Tryz.prog 12 #[.int .u64 p] W fun e w' => ∃ m t, e = .returned (.agg #[.int .i64 (if fixB a = true then 1 else 2), .int .i64 m, .int .i64 t]) /\ Below W.heap.size W w') := fun W => by
   refine (rof_any p pu1 W).mono ?_
   rintro e w' ⟨rfl, hb⟩
   unfold SVal
   rw [hkd]
   exact ⟨_, _, rfl, hb⟩
  have CS : Hid (∀ W, IsInt W (.agg #[.bool neg, .slice ao n cap]) a -> IsInt W (.agg #[.bool neg', .slice ao' n' cap']) b -> Calls Tryz.prog 11 #[.agg #[.bool neg, .slice ao n cap], .agg #[.bool neg', .slice ao' n' cap']] W fun e w' => e = .returned (.bool (decide (a = b))) /\ Below W.heap.size W w') := fun W hx hy => zsame_any _ _ a b W hx hy
  have hc0 := cmpZ_zero a b
  obtain ⟨cm, hcmz⟩ : ∃ x, x = cmpZ a b := ⟨_, rfl⟩
  rw [<- hcmz] at CC hc0
  obtain ⟨ab, hab⟩ : ∃ x, x = decide (a = b) := ⟨_, rfl⟩
  rw [<- hab] at CE CS hc0
  obtain ⟨fx, hfx⟩ : ∃ x, x = fixB a := ⟨_, rfl⟩
  rw [<- hfx] at CF CO
  have HC0 := hid hc0
  obtain ⟨os1, hos1⟩ : ∃ x, x = layO [] 500 a := ⟨_, rfl⟩
  rw [<- hos1] at CL1 CL2
  clear hsa hsb hna hnb hna2 hnb2 e00 h1 hu1 h2 hev hna3 hnb3 hkd ok1 al1 ok2 al2 pu1 pu2 hp hq hos hcm hcmz hab hfx hos1 hc0
  go_enter Tryz.func3, Tryz.ntmps3
  go_wp2_with fail
  (with_reducible refine CG.out.mono ?_)
  rintro e W1 ⟨rfl, v1⟩
  rw [<- HW0.out] at v1
  have HB2 := hid (Bt HB1.out v1)
  have Y1 := hid (HX1.out.on v1)
  have Y2 := hid (HX2.out.on v1)
  clear c0 c1 c2 c3 v1 HX1 HX2 HB1 CG
  go_wp2_with fail
  (with_reducible refine (pnew_ok 500 (by omega) (by omega) W1).mono ?_)
  rintro e W2 ⟨v, F, rfl, hP, b2⟩
  have HP2 := hid hP
  have HV2 := hid b2
  obtain ⟨gh, rfl⟩ := hP.ptr
  have OLD : Hid (∀ X, Below W1.heap.size W1 X -> X.cell? ⟨w.heap.size, 0, none⟩ = some (.bool neg) /\ X.cell? ⟨w.heap.size, 1, none⟩ = some (.slice ao n cap) /\ X.cell? ⟨w.heap.size + 1, 0, none⟩ = some (.bool neg') /\ X.cell? ⟨w.heap.size + 1, 1, none⟩ = some (.slice ao' n' cap') /\ IsInt X (.agg #[.bool neg, .slice ao n cap]) a /\ IsInt X (.agg #[.bool neg', .slice ao' n' cap']) b /\ Below w.heap.size w X /\ TabsS X) := fun X hX =>
   ⟨(Y1.out.on hX).c.1, (Y1.out.on hX).c.2, (Y2.out.on hX).c.1, (Y2.out.on hX).c.2, (HA.out.below HB2.out).below hX, (HB.out.below HB2.out).below hX, Bt HB2.out hX, HT.out.below (Bt HB2.out hX)⟩
  clear hP b2
  obtain ⟨c0, c1, c2, c3, hI1, _, _, _⟩ := OLD.out W2 HV2.out
  have C1 := hid (CL1.out gh F _ W2 HP2.out HV2.out.size hI1)
  clear hI1 CL1
  go_wp2_with fail
  (with_reducible refine C1.out.mono ?_)
  rintro e W3 ⟨rfl, hp3⟩
  have HV3 := hid (HV2.out.trans (PPost.below HP2.out hp3 HV2.out.size))
  obtain ⟨F3, hP3, _, _⟩ := hp3
  have HP3 := hid hP3
  clear hP3 c0 c1 c2 c3 HP2 HV2 C1
  obtain ⟨c0, c1, c2, c3, _, hI2, _, _⟩ := OLD.out W3 HV3.out
  have C2 := hid (CL2.out gh F3 _ W3 HP3.out HV3.out.size hI2)
  clear hI2 CL2
  go_wp2_with fail
  (with_reducible refine C2.out.mono ?_)
  rintro e W4 ⟨rfl, hp4⟩
  have HV4 := hid (HV3.out.trans (PPost.below HP3.out hp4 HV3.out.size))
  obtain ⟨F4, hP4, _, _⟩ := hp4
  have HP4 := hid hP4
  clear hP4 c0 c1 c2 c3 HP3 HV3 C2
  have C3 := hid (CC.out gh F4 _ W4 HP4.out)
  go_wp2_with fail
  (with_reducible refine C3.out.mono ?_)
  rintro e W5 ⟨rfl, v5⟩
  have HP5 := hid (HP4.out.onb v5)
  have HV5 := hid (HV4.out.trans (v5.mono HV4.out.size))
  clear v5 HP4 HV4 C3
  obtain ⟨c0, c1, c2, c3, hI3, _, _, _⟩ := OLD.out W5 HV5.out
  have C4 := hid (CF.out W5 hI3)
  clear hI3
  go_wp2_with fail
  (with_reducible refine C4.out.mono ?_)
  rintro e W6 ⟨fv, rfl, v6⟩
  have HP6 := hid (HP5.out.onb v6)
  have HV6 := hid (HV5.out.trans (v6.mono HV5.out.size))
  clear v6 HP5 HV5 C4 c0 c1 c2 c3
  generalize W6 = W at *
  obtain ⟨k0, k1, k2, k3, hIa, hIb, hBw, hTw⟩ := OLD.out W HV6.out
  have HS0 : Hid (W.cell? ⟨w.heap.size, 0, none⟩ = some (.bool neg) /\ W.cell? ⟨w.heap.size, 1, none⟩ = some (.slice ao n cap) /\ W.cell? ⟨w.heap.size + 1, 0, none⟩ = some (.bool neg') /\ W.cell? ⟨w.heap.size + 1, 1, none⟩ = some (.slice ao' n' cap') /\ Below W.heap.size W W) := ⟨k0, k1, k2, k3, Below.refl _ _⟩
  have HIA := hid hIa
  have HIB := hid hIb
  have HBW := hid hBw
  have HTW := hid hTw
  have C5 : Hid (∀ X, Below W.heap.size W X -> Calls Tryz.prog 10 #[.pointer (some ⟨gh, 0, none⟩), .int .u64 p, .int .u64 q] X fun e w' => e = .returned (.bool ab) /\ Below X.heap.size X w') := fun X h => CE.out gh F4 _ X (HP6.out.onb h) (HTW.out.below h)
  have C6 : Hid (∀ X, Below W.heap.size W X -> Calls Tryz.prog 11 #[.agg #[.bool neg, .slice ao n cap], .agg #[.bool neg', .slice ao' n' cap']] X fun e w' => e = .returned (.bool ab) /\ Below X.heap.size X w') := fun X h => CS.out X (HIA.out.below h) (HIB.out.below h)
  clear k0 k1 k2 k3 hIa hIb hBw hTw CE CS CC CF OLD
  have hc0 := HC0.out
  have hd0 : ∀ m t wx, (Instr.field 42 (.agg #[.int .i64 (if fx = true then 1 else 2), .int .i64 m, .int .i64 t]) 0).run Tryz.prog wx = .ok (.int .i64 (if fx = true then 1 else 2)) wx := fun _ _ _ => rfl
  cases ab
  all_goals
   cases fx
   all_goals
    simp only [if_true, if_false, Bool.false_eq_true] at CO hd0
    go_wp2_with fail
    go_region_held3 (fun wx => wx.cell? ⟨w.heap.size, 0, none⟩ = some (.bool neg) /\ wx.cell? ⟨w.heap.size, 1, none⟩ = some (.slice ao n cap) /\ wx.cell? ⟨w.heap.size + 1, 0, none⟩ = some (.bool neg') /\ wx.cell? ⟨w.heap.size + 1, 1, none⟩ = some (.slice ao' n' cap') /\ Below W.heap.size W wx)
     (first | exact one2_on HS0.out (Bd W 1) | exact one2_on (by assumption) (by assumption))
     (first
      | (go_at_call 10; (with_reducible refine (C5.out _ ?_).mono ?_); (exact one2_bel (p := w.heap.size) (b := w.heap.size + 1) (i := 0) (j := 1) (a0 := .bool neg) (a1 := .slice ao n cap) (b0 := .bool neg') (b1 := .slice ao' n' cap') (by assumption)); rintro e wa ⟨rfl, ba⟩)
      | (go_at_call 11; (with_reducible refine (C6.out _ ?_).mono ?_); (exact one2_bel (p := w.heap.size) (b := w.heap.size + 1) (i := 0) (j := 1) (a0 := .bool neg) (a1 := .slice ao n cap) (b0 := .bool neg') (b1 := .slice ao' n' cap') (by assumption)); rintro e wb ⟨rfl, bb⟩)
      | (go_at_call 12; (with_reducible refine (CO.out _).mono ?_); rintro e wc ⟨om, ot, rfl, bc⟩)
      | (go_at_call 5; (with_reducible refine (CA.out _).mono ?_); rintro e wd ⟨rfl, bd⟩))
    have HBE := hid (Bt HBW.out (one2_bel (p := w.heap.size) (b := w.heap.size + 1) (i := 0) (j := 1) (a0 := .bool neg) (a1 := .slice ao n cap) (b0 := .bool neg') (b1 := .slice ao' n' cap') (wx := wd) (by assumption)))
    rename_i hHeld
    clear hHeld
    go_wp2
    go_ret
    exact ⟨by simp, HBE.out⟩
 ·have hg' : (g1 && g2) = false := by simpa using hg
  rw [hg'] at CG
  clear hg hg' HA HB
  go_enter Tryz.func3, Tryz.ntmps3
  go_wp2_with (first
   | (go_at_call 4; (with_reducible refine CG.out.mono ?_); rintro e W1 ⟨rfl, v1⟩; rw [<- HW0.out] at v1; have HB2 := hid (Bt HB1.out v1); clear v1)
   | (go_at_call 5; (with_reducible refine (CA.out _).mono ?_); rintro e W2 ⟨rfl, v2⟩; have HB3 := hid (Bt HB2.out v2); clear v2))
  go_ret
  exact ⟨rfl, HB3.out⟩
end Go.Proofs.YtdekkieajffblaaGreatDoor
namespace Go.Proofs.YtdekkieajffblaaGreatDoor
open Go.ChangeShapes Go.WideShapes Go.ChangeAt Go.RowKit Go.Joins
theorem own : ownKnob Tryz.prog.godebug = none := by kernel_rfl
theorem laidOut : laidOutB Tryz.prog = true := by kernel_rfl
theorem cellsInt : Tryz.prog.cellsOf 24 = 2 := by kernel_rfl
theorem wf_u32 {z : Int} (h : (Lit.int .u32 z).wf = true) : 0 <= z /\ z < 4294967296 := by
 have := bounds_u32 h
 omega
theorem int_arg {H : Type} {enc : TypeId × Value -> H} {W : World} {r : Reach} {b0 : Nat} {v : Value} {d : DataW H} {p : List MemPlace} {base : Nat} {spare : TypeId -> Bool} {held : Bool}
  (hv : Value.okWide Tryz.prog W r b0 24 v) (h : DataW.Trod enc Tryz.prog W base spare held 24 v d p) :
  ∃ neg ao n cap l, v = .agg #[.bool neg, .slice ao n cap] /\ Row .u32 B32 W ao n cap l := by
 obtain ⟨c0, c1, y0, y1, m, rfl, rfl, rfl, hy0, hy1⟩ := open_agg2 Tryz.underlying24 (by kernel_rfl) cellsInt hv h
 obtain ⟨b, e0, _⟩ := DataW.trod_bool Tryz.underlying4 hy0
 cases e0
 rcases open_ints Tryz.underlying22 Tryz.underlying58 (by kernel_rfl) hy1 with ⟨hcs, _⟩ | ⟨a, len, cap, zs, hcs, _, hl, hm, hz, _, hcell, hwz⟩
 ·cases hcs
  exact ⟨b, none, 0, 0, [], rfl, Row.nil _ _ _ _⟩
 ·cases hcs
  have hzl : len <= zs.length := by rw [hz]; split <;> omega
  have hlen : ((zs.take len).map Int.toNat).length = len := by rw [List.length_map, List.length_take, Nat.min_eq_left hzl]
  refine ⟨b, some a, len, cap, (zs.take len).map Int.toNat, rfl, hlen, hl, hm, fun h => (by cases h), ?_, ?_⟩
  ·intro x hx
   obtain ⟨z, hz', rfl⟩ := List.mem_map.1 hx
   have := wf_u32 (hwz z (List.mem_of_mem_take hz'))
   unfold B32; omega
  ·by_cases h0 : len = 0
   ·subst h0; exact .inl (by simp)
   ·have hc0 := hcell 0 (by omega)
    obtain ⟨bb, o, sp⟩ := a
    have hsp : sp = none := by
     cases sp with
     | none => rfl
     | some k =>
      exfalso
      simp [Addr.add, World.cell?] at hc0
      split at hc0 <;> simp_all
    subst hsp
    have hlt : bb < W.heap.size := World.block_lt_of_cell? W ⟨bb, o, none⟩ (by simpa [Addr.add] using hc0)
    refine .inr ⟨bb, o, rfl, hlt, fun i hi => ?_⟩
    rw [hlen] at hi
    have hci := hcell i (by omega)
    have h1 : W.cell? ⟨bb, o + i, none⟩ = W.cell? (Addr.add ⟨bb, o, none⟩ i) := by
     unfold Addr.add
     by_cases hi0 : i = 0
     ·subst hi0; simp
     ·rw [if_neg hi0]
    rw [h1, hci]
    have h2 : zs.getD i 0 = (((zs.take len).map Int.toNat).getD i 0 : Nat) := by
     rw [List.getD_eq_getElem?_getD, List.getD_eq_getElem?_getD, List.getElem?_map, List.getElem?_take, if_pos hi, List.getElem?_eq_getElem (by omega)]
     have := wf_u32 (hwz zs[i] (List.getElem_mem _))
     simp only [Option.map_some, Option.getD_some]
     omega
    rw [h2]
end Go.Proofs.YtdekkieajffblaaGreatDoor
