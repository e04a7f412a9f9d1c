import Derived.Test.YtdekkieajffblaaGreatDoorST7
import Derived.Test.YtdekkieajffblaaGreatDoorX3
import Derived.Test.YtdekkieajffblaaGreatDoorW13
import Derived.Test.YtdekkieajffblaaGreatDoorSG3
import Derived.Test.YtdekkieajffblaaGreatDoorSG2
import Derived.Test.YtdekkieajffblaaGreatDoorSL29
set_option linter.unusedVariables false
set_option linter.unusedSimpArgs false
set_option maxRecDepth 100000
namespace Go.Proofs.YtdekkieajffblaaGreatDoor
open Go.RowKit
theorem bnumber_any (n : Int) (hn : Z64 n) (w : World) : Calls Tryz.prog 59 #[.int .i64 n] w fun e w' => e = .returned (.int .u64 (wordR 1 n 0)) /\ w' = w := by
 have C := hid (fix_any n hn w)
 obtain ⟨x, hx⟩ : ∃ x, x = wordR 1 n 0 := ⟨_, rfl⟩
 obtain ⟨b, hb⟩ : ∃ x, x = rightB 1 n 0 := ⟨_, rfl⟩
 rw [<- hx, <- hb] at C
 rw [<- hx]
 clear hx hb hn
 go_enter Tryz.func59, Tryz.ntmps59
 go_wp2_with (go_at_call 54; (with_reducible refine C.out.mono ?_); rintro e W1 ⟨rfl, hw1⟩; rw [hw1]; clear hw1)
 go_ret
 exact ⟨rfl, rfl⟩
def BFixPost (z : Int) (w : World) (e : Ending) (w' : World) : Prop := ∃ x, e = .returned (.tuple #[.int .u64 x, .bool (fixB z)]) /\ (fixB z = true -> x = wordR 1 z 0) /\ Below w.heap.size w w'
set_option maxHeartbeats 4000000 in
theorem bword_any (neg : Bool) (ao : Option Addr) (n cap : Nat) (l : List Nat) (w : World) (R : Row .u32 B32 w ao n cap l) (g : goodB neg l = true) :
  Calls Tryz.prog 33 #[.agg #[.bool neg, .slice ao n cap]] w (BFixPost (sgn neg (val B32 l)) w) := by
 have b0 := Ba w (.cells #[.bool neg, .slice ao n cap] 24)
 have C := hid (to_any neg ao n cap l (w.alloc (.cells #[.bool neg, .slice ao n cap] 24)) (R.below b0) g)
 unfold ToPost at C
 have hx := blk_new w #[.bool neg, .slice ao n cap] 24
 have c0 : (w.alloc (.cells #[.bool neg, .slice ao n cap] 24)).cell? ⟨w.heap.size, 0, none⟩ = some (.bool neg) := blk_cell hx 0
 have c1 : (w.alloc (.cells #[.bool neg, .slice ao n cap] 24)).cell? ⟨w.heap.size, 1, none⟩ = some (.slice ao n cap) := blk_cell hx 1
 have HB := hid b0
 obtain ⟨z, hz⟩ : ∃ z, z = sgn neg (val B32 l) := ⟨_, rfl⟩
 rw [<- hz] at C ⊢
 clear R g hx b0 hz
 by_cases hf : fits z = true
 ·rw [hf] at C
  have hz64 : Z64 z := by have := of_decide_eq_true hf; unfold Z64; omega
  have CF : Hid (∀ W, Calls Tryz.prog 54 #[.int .i64 z] W fun e w' => e = .returned (.tuple #[.int .u64 (wordR 1 z 0), .bool (fixB z)]) /\ w' = W) := fun W => fix_any z hz64 W
  obtain ⟨x, hx⟩ : ∃ x, x = wordR 1 z 0 := ⟨_, rfl⟩
  obtain ⟨b, hb⟩ : ∃ b, b = fixB z := ⟨_, rfl⟩
  rw [<- hx, <- hb] at CF
  have HX := hid hx
  have HBB := hid hb
  clear hf hz64 hx hb
  go_enter Tryz.func33, Tryz.ntmps33
  go_wp2_with (first
   | (go_at_call 53; (with_reducible refine C.out.mono ?_); rintro e W1 ⟨v, rfl, hv, b1⟩; rw [hv rfl]; have HB1 := hid (Bt HB.out b1); have C2 := hid (CF.out W1); clear b1 hv)
   | (go_at_call 54; (with_reducible refine C2.out.mono ?_); rintro e W2 ⟨rfl, hw2⟩; rw [hw2]; clear hw2))
  go_ret2
  exact ⟨x, by rw [HBB.out]; rfl, fun _ => HX.out, HB1.out⟩
 ·have hf' : fits z = false := by simpa using hf
  rw [hf'] at C
  have HFX : Hid (fixB z = false) := by
   unfold Hid fixB
   have := of_decide_eq_false hf'
   by_cases k1 : -1152921504606846976 <= z
   ·rw [decide_eq_true k1, decide_eq_false (by omega)]; rfl
   ·rw [decide_eq_false k1]; rfl
  clear hf hf'
  go_enter Tryz.func33, Tryz.ntmps33
  go_wp2_with (go_at_call 53; (with_reducible refine C.out.mono ?_); rintro e W1 ⟨v, rfl, hv, b1⟩; have HB1 := hid (Bt HB.out b1); clear b1 hv)
  go_ret2
  exact ⟨_, by rw [HFX.out]; rfl, fun h => (by rw [HFX.out] at h; cases h), HB1.out⟩
def buptoB (most x : Int) : Bool := decide (nK x = 1) && (decide (0 <= nN x) && decide (nN x <= most))
theorem bupto_any (most x : Int) (hx : U64 x) (w : World) : Calls Tryz.prog 103 #[.int .i64 most, .int .u64 x] w fun e w' => ∃ n, e = .returned (.tuple #[.int .i64 n, .bool (buptoB most x)]) /\ (buptoB most x = true -> n = nN x) /\ w' = w := by
 have C := hid (int_any x hx w)
 have e1 : isR 1 x = decide (nK x = 1) := rfl
 have e2 : hasR 1 x = if nK x = 1 then nN x else 0 := rfl
 have HU : Hid (buptoB most x = (decide (nK x = 1) && (decide (0 <= nN x) && decide (nN x <= most)))) := rfl
 rw [e1, e2] at C
 obtain ⟨k, hk⟩ : ∃ k, k = nK x := ⟨_, rfl⟩
 obtain ⟨n, hn⟩ : ∃ k, k = nN x := ⟨_, rfl⟩
 rw [<- hk, <- hn] at C HU
 rw [<- hn]
 clear hk hn hx e1 e2
 by_cases h1 : k = 1
 ·subst h1
  rw [if_pos rfl] at C
  by_cases h2 : 0 <= n
  ·have d2 : decide (0 <= n) = true := decide_eq_true h2
   by_cases h3 : n <= most
   ·have d3 : decide (n <= most) = true := decide_eq_true h3
    rw [d2, d3] at HU
    go_enter Tryz.func103, Tryz.ntmps103
    go_wp2_with (go_at_call 60; (with_reducible refine C.out.mono ?_); rintro e W1 ⟨rfl, hw1⟩; rw [hw1]; clear hw1)
    go_ret2
    exact ⟨n, by rw [HU.out]; rfl, fun _ => rfl, rfl⟩
   ·have d3 : decide (n <= most) = false := decide_eq_false h3
    rw [d2, d3] at HU
    go_enter Tryz.func103, Tryz.ntmps103
    go_wp2_with (go_at_call 60; (with_reducible refine C.out.mono ?_); rintro e W1 ⟨rfl, hw1⟩; rw [hw1]; clear hw1)
    go_ret2
    exact ⟨n, by rw [HU.out]; rfl, fun _ => rfl, rfl⟩
  ·have d2 : decide (0 <= n) = false := decide_eq_false h2
   rw [d2] at HU
   go_enter Tryz.func103, Tryz.ntmps103
   go_wp2_with (go_at_call 60; (with_reducible refine C.out.mono ?_); rintro e W1 ⟨rfl, hw1⟩; rw [hw1]; clear hw1)
   go_ret2
   exact ⟨n, by rw [HU.out]; rfl, fun _ => rfl, rfl⟩
 ·rw [if_neg h1, decide_eq_false h1] at C
  rw [decide_eq_false h1, Bool.false_and] at HU
  clear h1
  go_enter Tryz.func103, Tryz.ntmps103
  go_wp2_with (go_at_call 60; (with_reducible refine C.out.mono ?_); rintro e W1 ⟨rfl, hw1⟩; rw [hw1]; clear hw1)
  go_ret2
  exact ⟨0, by rw [HU.out]; rfl, fun h => (by rw [HU.out] at h; cases h), rfl⟩
set_option maxHeartbeats 4000000 in
theorem bfields_any (neg : Bool) (ao : Option Addr) (n cap : Nat) (l : List Nat) (w : World) (R : Row .u32 B32 w ao n cap l) (hn : n <= 1000) :
  Calls Tryz.prog 35 #[.agg #[.bool neg, .slice ao n cap]] w fun e w' => ∃ v, e = .returned v /\ w'.ownsRow w.heap.size 32 1 v (n + 1) (uz (bigL neg l)) /\ Below w.heap.size w w' := by
 have HR := hid R
 have hln := R.len
 have hf := R.fits
 have hm := R.most
 unfold maxLen at hm
 have b0 := Ba w (.cells #[.bool neg, .slice ao n cap] 24)
 have HB0 := hid b0
 have hx := blk_new w #[.bool neg, .slice ao n cap] 24
 have HX := hid hx
 have HC : Hid (∀ W, Below (w.alloc (.cells #[.bool neg, .slice ao n cap] 24)).heap.size (w.alloc (.cells #[.bool neg, .slice ao n cap] 24)) W -> W.cell? ⟨w.heap.size, 0, none⟩ = some (.bool neg) /\ W.cell? ⟨w.heap.size, 1, none⟩ = some (.slice ao n cap) /\ Below w.heap.size w W) := fun W b => by
  have e := (b.block w.heap.size (by rw [size_alloc]; omega)).trans HX.out
  exact ⟨blk_cell e 0, blk_cell e 1, Bt HB0.out b⟩
 have CW : Hid (∀ x : Nat, x < 4294967296 -> ∀ W, Calls Tryz.prog 59 #[.int .i64 (x : Nat)] W fun e w' => e = .returned (.int .u64 (wordR 1 (x : Nat) 0)) /\ w' = W) := fun x hx W => bnumber_any x (by unfold Z64; omega) W
 have CW0 : Hid (∀ W, Calls Tryz.prog 59 #[.int .i64 0] W fun e w' => e = .returned (.int .u64 (wordR 1 0 0)) /\ w' = W) := fun W => bnumber_any 0 (by unfold Z64; omega) W
 have CW1 : Hid (∀ W, Calls Tryz.prog 59 #[.int .i64 1] W fun e w' => e = .returned (.int .u64 (wordR 1 1 0)) /\ w' = W) := fun W => bnumber_any 1 (by unfold Z64; omega) W
 obtain ⟨z0, hz0⟩ : ∃ z, z = wordR 1 0 0 := ⟨_, rfl⟩
 obtain ⟨z1, hz1⟩ : ∃ z, z = wordR 1 1 0 := ⟨_, rfl⟩
 rw [<- hz0] at CW0
 rw [<- hz1] at CW1
 obtain ⟨zs, hzs⟩ : ∃ z, z = if neg then z1 else z0 := ⟨_, rfl⟩
 have HBG : Hid (bigL neg [] = [zs]) := by
  unfold Hid bigL
  rw [hzs]
  cases neg
  ·simp [hz0]
  ·simp [hz1]
 obtain ⟨W0, hW0⟩ : ∃ W, W = w.alloc (.cells #[.bool neg, .slice ao n cap] 24) := ⟨_, rfl⟩
 have HW0 := hid hW0
 have HX0 := hid (HX.out)
 rw [<- hW0] at HC
 have c0 := (HC.out W0 (Below.refl _ _)).1
 have c1 := (HC.out (W0.alloc (.cells #[.int .u64 zs] 32)) (Ba W0 _)).2.1
 have HBSTART : Hid (Below W0.heap.size W0 (W0.alloc (.cells #[.int .u64 zs] 32))) := Ba W0 _
 have HSTART : Hid ((W0.alloc (.cells #[.int .u64 zs] 32)).ownsRow W0.heap.size 32 1 (.slice (some ⟨W0.heap.size, 0, none⟩) 1 1) (0 + 1) (uz (bigL neg (l.take 0)))) := by
  unfold Hid
  rw [List.take_zero, HBG.out]
  exact own_one (Below.refl _ _)
 have fin : Hid (∀ (v : Value) (wr : World) (q : Nat), wr.ownsRow W0.heap.size 32 1 v (q + 1) (uz (bigL neg (l.take q))) -> Below W0.heap.size W0 wr -> q = n -> wr.ownsRow w.heap.size 32 1 v (n + 1) (uz (bigL neg l)) /\ Below w.heap.size w wr) := fun v wr q h1 h2 e => by
  subst e
  rw [List.take_of_length_le (by omega)] at h1
  exact ⟨own_weak h1 (by rw [HW0.out, size_alloc]; omega), (HC.out wr h2).2.2⟩
 have HRW : Hid (∀ W, Below W0.heap.size W0 W -> Row .u32 B32 W ao n cap l) := fun W b => HR.out.below (HC.out W b).2.2
 have HNE : Hid (neg = false -> zs = z0) := fun e => by rw [hzs, e]; rfl
 have HNT : Hid (neg = true -> zs = z1) := fun e => by rw [hzs, e]; rfl
 have eW : Hid (w.alloc (.cells #[.bool neg, .slice ao n cap] 24) = W0) := HW0.out.symm
 clear R b0 hx hz0 hz1 hzs hW0 HW0 HX HX0 HB0
 have go : Calls Tryz.prog 35 #[.agg #[.bool neg, .slice ao n cap]] w fun e w' => ∃ v, e = .returned v /\ w'.ownsRow w.heap.size 32 1 v (n + 1) (uz (bigL neg l)) /\ Below w.heap.size w w' := by
  cases neg
  ·obtain rfl := HNE.out rfl
   go_enter Tryz.func35, Tryz.ntmps35
   go_wp2_with fail
   rw [eW.out]
   go_wp2_with (go_at_call 59; (with_reducible refine (CW0.out W0).mono ?_); rintro e W1 ⟨rfl, hw1⟩; rw [hw1]; clear hw1)
   clear c0 c1
   go_loopw [4, 6, 15] (fun v _ i wr => ∃ q : Nat, q <= n /\ i = .int .i64 q /\ Hid (wr.ownsRow W0.heap.size 32 1 v (q + 1) (uz (bigL false (l.take q))) /\ Below W0.heap.size W0 wr)) (fun _ _ i _ => n - (intOf i).toNat)
   case atStart => exact ⟨0, Nat.zero_le _, rfl, HSTART.out, HBSTART.out⟩
   case round =>
    obtain ⟨q, hq, rfl, hI⟩ := hrel
    obtain ⟨_, d1, _⟩ := HC.out wr hI.out.2
    have HOQ := hid hI.out.1
    have HBQ := hid hI.out.2
    clear hI
    by_cases hlt : q < n
    ·obtain ⟨b, o, rfl, hlb, hcc⟩ := (HRW.out wr HBQ.out).rd.some (by omega)
     have hck := hcc q (by omega)
     have hxb : l.getD q 0 < B32 := by rw [List.getD_eq_getElem?_getD, List.getElem?_eq_getElem (by omega)]; exact HR.out.dg _ (List.getElem_mem _)
     have C1 := hid (CW.out (l.getD q 0) hxb wr)
     have HT := hid (bigL_take false (l := l) (q := q) (by omega))
     obtain ⟨x, hx⟩ : ∃ x, x = l.getD q 0 := ⟨_, rfl⟩
     rw [<- hx] at hck C1 HT hxb
     have hxb' : x < 4294967296 := hxb
     obtain ⟨zx, hzx⟩ : ∃ z, z = wordR 1 ((x : Nat) : Int) 0 := ⟨_, rfl⟩
     have hzu : Hid (U64 zx) := by unfold Hid; rw [hzx]; exact wordR_rng _ _ _
     rw [<- hzx] at C1 HT
     have HO1 := hid (uown_on HOQ.out (Ba wr (.cells #[.int .u64 zx] 32)))
     have HU1 := hid (urow_one (blk_new wr #[.int .u64 zx] 32) hzu.out)
     have HBA := hid (HBQ.out.trans ((Ba wr (.cells #[.int .u64 zx] 32)).mono HBQ.out.size))
     have HSA := hid HBA.out.size
     clear hcc hx hzx hxb
     go_wp2_with (first
      | (go_at_call 59; (with_reducible refine C1.out.mono ?_); rintro e W1 ⟨rfl, hw1⟩; rw [hw1]; clear hw1)
      | (at_builtin; refine appU rfl _ _ 51 rfl W0.heap.size 32 Tryz.underlying51 info_word _ (q + 1) (bigL false (l.take q)) rfl HO1.out (some ⟨wr.heap.size, 0, none⟩) 1 1 [zx] rfl HU1.out (by omega) HSA.out ?_; intro v2 w2 ho2 hg2))
     have HE : Hid (Below W0.heap.size W0 w2) := HBA.out.grown hg2 HSA.out (fun b hb => (HO1.out.lt b hb).1)
     refine ⟨⟨q + 1, by omega, by go_num, ?_, HE.out⟩, by simp [intOf] <;> omega⟩
     rw [HT.out]; exact ho2
    ·obtain rfl : q = n := by omega
     go_wp2_with fail
     go_ret
     obtain ⟨f1, f2⟩ := fin.out _ _ _ HOQ.out HBQ.out rfl
     exact ⟨_, rfl, f1, f2⟩
  ·obtain rfl := HNT.out rfl
   go_enter Tryz.func35, Tryz.ntmps35
   go_wp2_with fail
   rw [eW.out]
   go_wp2_with (go_at_call 59; (with_reducible refine (CW1.out W0).mono ?_); rintro e W1 ⟨rfl, hw1⟩; rw [hw1]; clear hw1)
   clear c0 c1
   go_loopw [4, 6, 15] (fun v _ i wr => ∃ q : Nat, q <= n /\ i = .int .i64 q /\ Hid (wr.ownsRow W0.heap.size 32 1 v (q + 1) (uz (bigL true (l.take q))) /\ Below W0.heap.size W0 wr)) (fun _ _ i _ => n - (intOf i).toNat)
   case atStart => exact ⟨0, Nat.zero_le _, rfl, HSTART.out, HBSTART.out⟩
   case round =>
    obtain ⟨q, hq, rfl, hI⟩ := hrel
    obtain ⟨_, d1, _⟩ := HC.out wr hI.out.2
    have HOQ := hid hI.out.1
    have HBQ := hid hI.out.2
    clear hI
    by_cases hlt : q < n
    ·obtain ⟨b, o, rfl, hlb, hcc⟩ := (HRW.out wr HBQ.out).rd.some (by omega)
     have hck := hcc q (by omega)
     have hxb : l.getD q 0 < B32 := by rw [List.getD_eq_getElem?_getD, List.getElem?_eq_getElem (by omega)]; exact HR.out.dg _ (List.getElem_mem _)
     have C1 := hid (CW.out (l.getD q 0) hxb wr)
     have HT := hid (bigL_take true (l := l) (q := q) (by omega))
     obtain ⟨x, hx⟩ : ∃ x, x = l.getD q 0 := ⟨_, rfl⟩
     rw [<- hx] at hck C1 HT hxb
     have hxb' : x < 4294967296 := hxb
     obtain ⟨zx, hzx⟩ : ∃ z, z = wordR 1 ((x : Nat) : Int) 0 := ⟨_, rfl⟩
     have hzu : Hid (U64 zx) := by unfold Hid; rw [hzx]; exact wordR_rng _ _ _
     rw [<- hzx] at C1 HT
     have HO1 := hid (uown_on HOQ.out (Ba wr (.cells #[.int .u64 zx] 32)))
     have HU1 := hid (urow_one (blk_new wr #[.int .u64 zx] 32) hzu.out)
     have HBA := hid (HBQ.out.trans ((Ba wr (.cells #[.int .u64 zx] 32)).mono HBQ.out.size))
     have HSA := hid HBA.out.size
     clear hcc hx hzx hxb
     go_wp2_with (first
      | (go_at_call 59; (with_reducible refine C1.out.mono ?_); rintro e W1 ⟨rfl, hw1⟩; rw [hw1]; clear hw1)
      | (at_builtin; refine appU rfl _ _ 51 rfl W0.heap.size 32 Tryz.underlying51 info_word _ (q + 1) (bigL true (l.take q)) rfl HO1.out (some ⟨wr.heap.size, 0, none⟩) 1 1 [zx] rfl HU1.out (by omega) HSA.out ?_; intro v2 w2 ho2 hg2))
     have HE : Hid (Below W0.heap.size W0 w2) := HBA.out.grown hg2 HSA.out (fun b hb => (HO1.out.lt b hb).1)
     refine ⟨⟨q + 1, by omega, by go_num, ?_, HE.out⟩, by simp [intOf] <;> omega⟩
     rw [HT.out]; exact ho2
    ·obtain rfl : q = n := by omega
     go_wp2_with fail
     go_ret
     obtain ⟨f1, f2⟩ := fin.out _ _ _ HOQ.out HBQ.out rfl
     exact ⟨_, rfl, f1, f2⟩
 exact go
def needZ (z : Int) : Int := if fixB z = true then 0 else 2 + (((mg z.natAbs).length : Nat) : Int)
theorem mg_of {neg : Bool} {l : List Nat} (hd : Dg B32 l) (g : goodB neg l = true) : l = mg (sgn neg (val B32 l)).natAbs := by
 refine mg_is hd (goodB_tr g) ?_
 cases neg <;> simp [sgn]
def bigO (z : Int) : Ob := ⟨5, bigL (decide (z < 0)) (mg z.natAbs)⟩
def AllBig (os : List Ob) : Prop := ∀ x ∈ os, ∃ z, x = bigO z /\ fixB z = false /\ ¬ Big z.natAbs
def intL (f : List Int) : Int := sgn (numNeg f) (val B32 (numMag f))
def numM (os : List Ob) (p : Int) : Option Int := if isR 1 p = true then some (hasR 1 p) else (findM os p).map (fun k => intL (os.getD k default).f)
def layM (os : List Ob) (N z : Int) : Int × Int := if fixB z = true then (wordR 1 z 0, 0) else allocM os N 5 (bigL (decide (z < 0)) (mg z.natAbs))
def layO (os : List Ob) (N z : Int) : List Ob := if fixB z = true then os else allocO os N 5 (bigL (decide (z < 0)) (mg z.natAbs))
theorem say_fix {x : Int} (h : fixB x = true) : ofR (wordR 1 x 0) = (1, x, 0) := by
 have := word_back (k := 1) (n := x) (t := 0) h
 rw [this]; rfl
theorem fixB_limb {x : Nat} (h : x < 4294967296) : fixB (x : Int) = true := by
 unfold fixB
 rw [Bool.and_eq_true, decide_eq_true_eq, decide_eq_true_eq]; omega
theorem say_both {x : Int} (h : fixB x = true) : nK (wordR 1 x 0) = 1 /\ nN (wordR 1 x 0) = x := by
 unfold nK nN
 rw [say_fix h]
 exact ⟨rfl, rfl⟩
theorem say_limb {x : Nat} (h : x < B32) : nK (wordR 1 (x : Int) 0) = 1 /\ nN (wordR 1 (x : Int) 0) = (x : Int) := say_both (fixB_limb h)
theorem mg_ok (v : Nat) : Dg B32 (mg v) /\ Tr (mg v) /\ val B32 (mg v) = v := by
 obtain ⟨m1, m2, m3, _⟩ := mgF_ok v v (Nat.le_refl _)
 exact ⟨m1, m2, m3⟩
theorem mg_len40 {v : Nat} (h : ¬ Big v) : (mg v).length <= 40 := by
 obtain ⟨m1, m2, m3⟩ := mg_ok v
 exact (small_len m1 m2).2 (by rw [m3]; exact h)
theorem sgn_abs (z : Int) : sgn (decide (z < 0)) z.natAbs = z := by
 unfold sgn
 by_cases e : z < 0
 ·rw [decide_eq_true e, if_pos rfl]; omega
 ·rw [decide_eq_false e, if_neg (by decide)]; omega
theorem mag_map : ∀ {l : List Nat}, Dg B32 l -> (l.map (fun x => wordR 1 (x : Nat) 0)).map (fun y => (nN y).toNat) = l
 | [], _ => rfl
 | x :: l, h => by
  have h1 := (say_limb (h x (List.mem_cons_self))).2
  rw [List.map_cons, List.map_cons, h1, Int.toNat_natCast, mag_map (fun y hy => h y (List.mem_cons_of_mem _ hy))]
theorem good_mg {z : Int} (h : ¬ Big z.natAbs) : goodB (decide (z < 0)) (mg z.natAbs) = true := by
 obtain ⟨m1, m2, m3⟩ := mg_ok z.natAbs
 refine goodB_mk m2 (mg_len40 h) (fun e => ?_)
 have e0 := List.length_eq_zero_iff.1 e
 rw [e0] at m3
 refine decide_eq_false ?_
 have : z.natAbs = 0 := m3.symm
 omega
theorem big_sign (z : Int) : nK (wordR 1 (if decide (z < 0) = true then 1 else 0) 0) = 1 /\ nN (wordR 1 (if decide (z < 0) = true then 1 else 0) 0) = if decide (z < 0) = true then 1 else 0 := by
 split
 ·exact say_limb (x := 1) (by decide)
 ·exact say_limb (x := 0) (by decide)
theorem big_mag (z : Int) : numMag (bigL (decide (z < 0)) (mg z.natAbs)) = mg z.natAbs := by
 unfold numMag bigL
 rw [List.drop_one, List.tail_cons]
 exact mag_map (mg_ok _).1
theorem big_neg (z : Int) : numNeg (bigL (decide (z < 0)) (mg z.natAbs)) = decide (z < 0) := by
 unfold numNeg bigL
 show decide (nN (wordR 1 (if decide (z < 0) = true then 1 else 0) 0) = 1) = _
 rw [(big_sign z).2]
 cases decide (z < 0) <;> rfl
theorem big_intL (z : Int) : intL (bigL (decide (z < 0)) (mg z.natAbs)) = z := by
 unfold intL
 rw [big_mag, big_neg, (mg_ok _).2.2, sgn_abs]
theorem big_limbs (z : Int) : (bigL (decide (z < 0)) (mg z.natAbs)).all limbB = true := by
 rw [List.all_eq_true]
 intro y hy
 unfold bigL at hy
 rcases List.mem_cons.1 hy with rfl | hy
 ·unfold limbB
  rw [(big_sign z).1, (big_sign z).2]
  cases decide (z < 0) <;> rfl
 ·obtain ⟨x, hx, rfl⟩ := List.mem_map.1 hy
  have hxb := (mg_ok z.natAbs).1 x hx
  unfold limbB
  rw [(say_limb hxb).1, (say_limb hxb).2]
  unfold B32 at hxb
  rw [decide_eq_true (show (0 : Int) <= (x : Int) by omega), decide_eq_true (show (x : Int) < 4294967296 by omega)]; rfl
theorem big_is {z : Int} (hf : fixB z = false) (hb : ¬ Big z.natAbs) : bigB (bigL (decide (z < 0)) (mg z.natAbs)) = true := by
 unfold bigB
 have e := big_intL z
 unfold intL at e
 rw [e, big_neg, big_mag, good_mg hb, hf, big_limbs]
 have a1 : 0 < (bigL (decide (z < 0)) (mg z.natAbs)).length := by rw [bigL_len]; omega
 have a3 : nN ((bigL (decide (z < 0)) (mg z.natAbs)).getD 0 0) <= 1 := by
  show nN (wordR 1 (if decide (z < 0) = true then 1 else 0) 0) <= 1
  rw [(big_sign z).2]; split <;> omega
 rw [decide_eq_true a1, decide_eq_true a3]; rfl
theorem big_nohead (z : Int) : (bigL (decide (z < 0)) (mg z.natAbs)).any isHd = false := by
 rw [List.any_eq_false]
 intro y hy h
 have := List.all_eq_true.1 (big_limbs z) y hy
 unfold limbB nK at this
 unfold isHd at h
 simp only [Bool.and_eq_true, decide_eq_true_eq] at this h
 rw [this.1] at h
 exact absurd h (by decide)
theorem big_need {z : Int} (hf : fixB z = false) : needZ z = 1 + ((bigL (decide (z < 0)) (mg z.natAbs)).length : Nat) := by
 unfold needZ
 rw [hf, bigL_len]; simp; omega
theorem layM_is (os : List Ob) (N z : Int) : layM os N z = if fixB z = true then (wordR 1 z 0, 0) else if N - (usedL os : Nat) < needZ z then (0, 3) else (wordR 2 (usedL os : Nat) 0, 0) := by
 unfold layM
 cases hf : fixB z
 ·unfold allocM
  rw [big_nohead, big_need hf]
  simp
 ·rfl
theorem layO_is (os : List Ob) (N z : Int) : layO os N z = if fixB z = true then os else if N - (usedL os : Nat) < needZ z then os else os ++ [bigO z] := by
 have h := layM_is os N z
 unfold layM at h
 unfold layO
 cases hf : fixB z
 ·rw [hf] at h
  simp only [Bool.false_eq_true, if_false] at h ⊢
  unfold allocO
  rw [h]
  split
  ·simp
  ·simp [bigO]
 ·rfl
theorem layO_all {os : List Ob} (h : AllBig os) (N : Int) {z : Int} (hb : ¬ Big z.natAbs) : AllBig (layO os N z) := by
 rw [layO_is]
 cases hf : fixB z
 ·simp only [Bool.false_eq_true, if_false]
  split
  ·exact h
  ·intro x hx
   rcases List.mem_append.1 hx with hx | hx
   ·exact h x hx
   ·rw [List.mem_singleton] at hx
    exact ⟨z, hx, hf, hb⟩
 ·exact h
theorem layO_ok {os : List Ob} (h : OsOk os) (N z : Int) : OsOk (layO os N z) := by
 unfold layO
 split
 ·exact h
 ·exact alloc_ok h (bigL_u _ _)
theorem need_nn (z : Int) : 0 <= needZ z := by unfold needZ; split <;> omega
theorem lay_used (os : List Ob) (N z : Int) (h : (layM os N z).2 = 0) : ((usedL (layO os N z) : Nat) : Int) = (usedL os : Nat) + needZ z := by
 rw [layM_is] at h
 rw [layO_is]
 split
 ·rename_i h1
  unfold needZ; rw [if_pos h1]; omega
 ·rename_i h1
  rw [if_neg h1] at h
  split
  ·rename_i h2
   rw [if_pos h2] at h; cases h
  ·have hf : fixB z = false := by simpa using h1
   rw [usedL_append, big_need hf]
   unfold bigO
   simp [usedL]
theorem numM_lay {os : List Ob} {N z : Int} (hN : N <= 4194304) (h : (layM os N z).2 = 0) : numM (layO os N z) (layM os N z).1 = some z := by
 have hu := lay_used os N z h
 rw [layM_is] at h ⊢
 rw [layO_is] at hu ⊢
 cases hf : fixB z
 ·rw [hf] at h hu
  simp only [Bool.false_eq_true, if_false] at h hu ⊢
  by_cases h2 : N - (usedL os : Nat) < needZ z
  ·rw [if_pos h2] at h; cases h
  ·rw [if_neg h2] at h hu
   simp only [if_neg h2]
   have hn := need_nn z
   have hp : ofR (wordR 2 ((usedL os : Nat) : Int) 0) = (2, ((usedL os : Nat) : Int), 0) := by
    have := word_back (k := 2) (n := ((usedL os : Nat) : Int)) (t := 0) (by unfold rightB; simp; omega)
    rw [this]; rfl
   have hat : atO (os ++ [bigO z]) os.length = usedL os := by unfold atO; rw [List.take_left]
   have hfd := find_ptr (os := os ++ [bigO z]) (k := os.length) (by simp) (by omega)
   rw [hat] at hfd
   unfold numM isR
   rw [hp, if_neg (by simp), hfd]
   have hg : (os ++ [bigO z]).getD os.length default = bigO z := by
    rw [List.getD_eq_getElem?_getD, List.getElem?_append_right (Nat.le_refl _), Nat.sub_self]; rfl
   rw [Option.map_some, hg]
   show some (intL (bigL (decide (z < 0)) (mg z.natAbs))) = _
   rw [big_intL]
 ·have hp := say_fix hf
  rw [if_pos rfl, if_pos rfl]
  unfold numM isR hasR
  simp only
  rw [hp, if_pos (by simp), if_pos rfl]
end Go.Proofs.YtdekkieajffblaaGreatDoor
