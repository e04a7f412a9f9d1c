import Derived.Test.YticimejfjjmikaaGreatDoorSL23
import Derived.Test.YticimejfjjmikaaGreatDoorG3
import Derived.Test.YticimejfjjmikaaGreatDoorSL10
set_option linter.unusedVariables false
set_option linter.unusedSimpArgs false
set_option maxRecDepth 100000
namespace Go.Proofs.YticimejfjjmikaaGreatDoor
open Go.RowKit
def bigNd (f : List Int) : Nd := if bigB f = true then ⟨3, 0, textOf (printL (numNeg f) (val B32 (numMag f))), []⟩ else voidN
theorem intB_good {f : List Int} (h : intB f = true) : goodB (numNeg f) (numMag f) = true := by
 unfold intB at h
 simp only [Bool.and_eq_true] at h
 exact h.2.2.2
set_option maxHeartbeats 8000000 in
theorem bign_any (ao : Option Addr) (n cap : Nat) (f : List Int) (w : World) (R : URow w ao n cap f) (hn : n <= 5000000) : Calls Tryz.prog 124 #[.slice ao n cap] w fun e w' => e = .returned (bareV (bigNd f)) /\ Below w.heap.size w w' := by
 have hz := NZ.new w
 have b0 := Ba w (.cells #[.int .i64 0, .int .i64 0, .string ⟨#[]⟩, .slice none 0 0] 54)
 have C := hid (integer_any ao n cap f _ (R.on b0) hn)
 have HZ := hid hz
 have HB := hid b0
 have CV : Hid (∀ W, Calls Tryz.prog 127 #[] W fun e w' => e = .returned (.agg #[.int .i64 11, .int .i64 0, .string ⟨#[]⟩, .slice none 0 0]) /\ Below W.heap.size W w') := fun W => void_any W
 have fin : Hid (∀ (k : Int) (W : World) (t0 : ByteArray), Below (w.alloc (.cells #[.int .i64 0, .int .i64 0, .string ⟨#[]⟩, .slice none 0 0] 54)).heap.size (w.alloc (.cells #[.int .i64 0, .int .i64 0, .string ⟨#[]⟩, .slice none 0 0] 54)) W -> NZ w.heap.size W /\ ((((W.setCell ⟨w.heap.size, 0, none⟩ (.int .i64 k)).setCell ⟨w.heap.size, 1, none⟩ (.int .i64 0)).setCell ⟨w.heap.size, 2, none⟩ (.string t0)).setCell ⟨w.heap.size, 3, none⟩ (.slice none 0 0)).heap[w.heap.size]? = some (.cells #[.int .i64 k, .int .i64 0, .string t0, .slice none 0 0] 54 (0, 0)) /\ Below w.heap.size w ((((W.setCell ⟨w.heap.size, 0, none⟩ (.int .i64 k)).setCell ⟨w.heap.size, 1, none⟩ (.int .i64 0)).setCell ⟨w.heap.size, 2, none⟩ (.string t0)).setCell ⟨w.heap.size, 3, none⟩ (.slice none 0 0))) := fun k W t0 hb =>
  ⟨HZ.out.on hb, store4 (HZ.out.on hb), store4_below (Bt HB.out hb) (Nat.le_refl _)⟩
 have CF : Hid (∀ (neg : Bool) (ao : Option Addr) (n cap : Nat) (l : List Nat) (W : World), Row .u32 B32 W ao n cap l -> goodB neg l = true -> Calls Tryz.prog 159 #[.agg #[.bool neg, .slice ao n cap]] W (PFixPost (sgn neg (val B32 l)) W)) := fun neg ao n cap l W R g => pfixed_any neg ao n cap l W R g
 have CP : Hid (∀ (neg : Bool) (ao : Option Addr) (n cap : Nat) (l : List Nat) (W : World), Row .u32 B32 W ao n cap l -> goodB neg l = true -> Calls Tryz.prog 160 #[.agg #[.bool neg, .slice ao n cap], .int .i64 10] W fun e w' => e = .returned (.tuple #[.string (textOf (printL neg (val B32 l))), .int .i64 0]) /\ Below W.heap.size W w') := fun neg ao n cap l W R g => by
  refine (print_all neg ao n cap l 10 W R g).mono ?_
  rintro e w' ⟨s, en, rfl, hp, hb⟩
  obtain ⟨e1, e2⟩ := hp.is
  rw [e2, <- textOf_bs s, e1]
  exact ⟨rfl, hb⟩
 have HND : Hid (bigNd f = if bigB f = true then ⟨3, 0, textOf (printL (numNeg f) (val B32 (numMag f))), []⟩ else voidN) := rfl
 rw [bigB_is] at HND
 have HG := fun h => intB_good (f := f) h
 unfold IntPost at C
 clear R hz b0
 obtain ⟨W0, hW0⟩ : ∃ W, W = w.alloc (.cells #[.int .i64 0, .int .i64 0, .string ⟨#[]⟩, .slice none 0 0] 54) := ⟨_, rfl⟩
 rw [<- hW0] at C HZ HB fin
 have HBX : Hid (∀ (W1 : World) (c : Array Value), Below W0.heap.size W0 W1 -> Below W0.heap.size W0 (W1.alloc (.cells c 104))) := fun W1 c hb => hb.trans ((Ba W1 _).mono hb.size)
 cases hi : intB f
 ·have hv : Hid (bigNd f = voidN) := by unfold Hid; rw [HND.out, hi]; rfl
  rw [hi] at C
  rw [hW0] at C
  clear HND HG hi
  go_enter Tryz.func124, Tryz.ntmps124
  go_wp2_with (first
   | (go_at_call 158; (with_reducible refine C.out.mono ?_); rintro e W1 ⟨ng, aM, m, cM, rfl, _, b1⟩; rw [<- hW0] at b1; have HB1 := hid (HBX.out W1 #[.bool ng, .slice aM m cM] b1); have C2 := hid (CV.out (W1.alloc (.cells #[.bool ng, .slice aM m cM] 104))); clear b1)
   | (go_at_call 127; (with_reducible refine C2.out.mono ?_); rintro e W2 ⟨rfl, b2⟩; have HB2 := hid (HB1.out.trans (b2.mono HB1.out.size)); obtain ⟨hz2, q1, q2⟩ := fin.out 11 W2 ⟨#[]⟩ HB2.out; obtain ⟨c0, c1, c2, c3, f0, f1, f2, f3⟩ := hz2.c; have t0 := blk_cell q1 0; have t1 := blk_cell q1 1; have t2 := blk_cell q1 2; have t3 := blk_cell q1 3; have HQ2 := hid q2; clear b2 hz2 q1 q2))
  (try simp only [Exit.inBlock, Exit.then]); refine bodyPost_ret (by simp [results, Tryz.results124, go_sem, t0, t1, t2, t3]; rfl) rfl ?_
  rw [hv.out]
  exact ⟨rfl, HQ2.out⟩
 ·have hg := HG hi
  rw [hi] at C
  rw [hi, Bool.true_and] at HND
  have HGD := hid hg
  obtain ⟨ng, hng⟩ : ∃ b, b = numNeg f := ⟨_, rfl⟩
  obtain ⟨ml, hml⟩ : ∃ b, b = numMag f := ⟨_, rfl⟩
  rw [<- hng, <- hml] at C HND HGD
  obtain ⟨z, hz⟩ : ∃ z, z = sgn ng (val B32 ml) := ⟨_, rfl⟩
  rw [<- hz] at HND
  have HZE := hid hz
  rw [hW0] at C
  clear HG hg hi hng hml hz
  cases hf : fixB z
  ·have hv : Hid (bigNd f = ⟨3, 0, textOf (printL ng (val B32 ml)), []⟩) := by unfold Hid; rw [HND.out, hf]; rfl
   have HF := hid hf
   obtain ⟨S, hS⟩ : ∃ S, S = textOf (printL ng (val B32 ml)) := ⟨_, rfl⟩
   rw [<- hS] at hv
   have HS := hid hS
   clear HND hf hS
   go_enter Tryz.func124, Tryz.ntmps124
   go_wp2_with (first
    | (go_at_call 158; (with_reducible refine C.out.mono ?_); rintro e W1 ⟨ng', aM, m, cM, rfl, h1, b1⟩; obtain ⟨rfl, hm40, hrow⟩ := h1 (by trivial); rw [<- hW0] at b1; have hb := Ba W1 (.cells #[.bool ng', .slice aM m cM] 104); have HR1 := hid (hrow.below hb); have HB1 := hid (HBX.out W1 #[.bool ng', .slice aM m cM] b1); have hx := blk_new W1 #[.bool ng', .slice aM m cM] 104; have HX := hid hx; have c0 : (W1.alloc (.cells #[.bool ng', .slice aM m cM] 104)).cell? ⟨W1.heap.size, 0, none⟩ = some (.bool ng') := blk_cell hx 0; have c1 : (W1.alloc (.cells #[.bool ng', .slice aM m cM] 104)).cell? ⟨W1.heap.size, 1, none⟩ = some (.slice aM m cM) := blk_cell hx 1; have C2 := hid (CF.out ng' aM m cM ml _ HR1.out HGD.out); rw [<- HZE.out] at C2; unfold PFixPost at C2; rw [HF.out] at C2; clear b1 hrow hb hx h1)
    | (go_at_call 159; (with_reducible refine C2.out.mono ?_); rintro e W2 ⟨x, rfl, _, b2⟩; have HB2 := hid (HB1.out.trans (b2.mono HB1.out.size)); have hx2 := (b2.block W1.heap.size (by rw [size_alloc]; omega)).trans HX.out; have d0 : W2.cell? ⟨W1.heap.size, 0, none⟩ = some (.bool ng') := blk_cell hx2 0; have d1 : W2.cell? ⟨W1.heap.size, 1, none⟩ = some (.slice aM m cM) := blk_cell hx2 1; have C3 := hid (CP.out ng' aM m cM ml W2 (HR1.out.below b2) HGD.out); rw [<- HS.out] at C3; clear b2 hx2)
    | (go_at_call 160; (with_reducible refine C3.out.mono ?_); rintro e W3 ⟨rfl, b3⟩; have HB3 := hid (HB2.out.trans (b3.mono HB2.out.size)); obtain ⟨hz2, q1, q2⟩ := fin.out 3 W3 S HB3.out; obtain ⟨c0, c1, c2, c3, f0, f1, f2, f3⟩ := hz2.c; have t0 := blk_cell q1 0; have t1 := blk_cell q1 1; have t2 := blk_cell q1 2; have t3 := blk_cell q1 3; have HQ2 := hid q2; clear b3 hz2 q1 q2))
   (try simp only [Exit.inBlock, Exit.then]); refine bodyPost_ret (by simp [results, Tryz.results124, go_sem, t0, t1, t2, t3]; rfl) rfl ?_
   rw [hv.out]
   exact ⟨rfl, HQ2.out⟩
  ·have hv : Hid (bigNd f = voidN) := by unfold Hid; rw [HND.out, hf]; rfl
   have HF := hid hf
   clear HND hf
   go_enter Tryz.func124, Tryz.ntmps124
   go_wp2_with (first
    | (go_at_call 158; (with_reducible refine C.out.mono ?_); rintro e W1 ⟨ng', aM, m, cM, rfl, h1, b1⟩; obtain ⟨rfl, hm40, hrow⟩ := h1 (by trivial); rw [<- hW0] at b1; have hb := Ba W1 (.cells #[.bool ng', .slice aM m cM] 104); have HR1 := hid (hrow.below hb); have HB1 := hid (HBX.out W1 #[.bool ng', .slice aM m cM] b1); have hx := blk_new W1 #[.bool ng', .slice aM m cM] 104; have c0 : (W1.alloc (.cells #[.bool ng', .slice aM m cM] 104)).cell? ⟨W1.heap.size, 0, none⟩ = some (.bool ng') := blk_cell hx 0; have c1 : (W1.alloc (.cells #[.bool ng', .slice aM m cM] 104)).cell? ⟨W1.heap.size, 1, none⟩ = some (.slice aM m cM) := blk_cell hx 1; have C2 := hid (CF.out ng' aM m cM ml _ HR1.out HGD.out); rw [<- HZE.out] at C2; unfold PFixPost at C2; rw [HF.out] at C2; clear b1 hrow hb hx h1)
    | (go_at_call 159; (with_reducible refine C2.out.mono ?_); rintro e W2 ⟨x, rfl, _, b2⟩; have HB2 := hid (HB1.out.trans (b2.mono HB1.out.size)); have C3 := hid (CV.out W2); clear b2)
    | (go_at_call 127; (with_reducible refine C3.out.mono ?_); rintro e W3 ⟨rfl, b3⟩; have HB3 := hid (HB2.out.trans (b3.mono HB2.out.size)); obtain ⟨hz2, q1, q2⟩ := fin.out 11 W3 ⟨#[]⟩ HB3.out; obtain ⟨c0, c1, c2, c3, f0, f1, f2, f3⟩ := hz2.c; have t0 := blk_cell q1 0; have t1 := blk_cell q1 1; have t2 := blk_cell q1 2; have t3 := blk_cell q1 3; have HQ2 := hid q2; clear b3 hz2 q1 q2))
   (try simp only [Exit.inBlock, Exit.then]); refine bodyPost_ret (by simp [results, Tryz.results124, go_sem, t0, t1, t2, t3]; rfl) rfl ?_
   rw [hv.out]
   exact ⟨rfl, HQ2.out⟩
def condNd (f : List Int) : Nd := if condB f = true then ⟨13, nN (f.getD 0 0), ByteArray.empty, f.drop 1⟩ else voidN
theorem condB_is {f : List Int} (h : f.length = 3) : condB f = uptoB 2 (f.getD 0 0) := by
 unfold condB uptoB
 rw [decide_eq_true h, Bool.true_and]
set_option maxHeartbeats 8000000 in
theorem condn_any (ao : Option Addr) (n cap : Nat) (f : List Int) (w : World) (R : URow w ao n cap f) (hn : n <= 5000000) : Calls Tryz.prog 125 #[.slice ao n cap] w (KPost (condNd f) ao w) := by
 have hl := R.len
 have hft := R.fits
 have hmx := R.most
 unfold maxLen at hmx
 have HR := hid R
 have hz := NZ.new w
 have b0 := Ba w (.cells #[.int .i64 0, .int .i64 0, .string ⟨#[]⟩, .slice none 0 0] 54)
 have HZ := hid hz
 have HB := hid b0
 have CV : Hid (∀ W, Calls Tryz.prog 127 #[] W fun e w' => e = .returned (.agg #[.int .i64 11, .int .i64 0, .string ⟨#[]⟩, .slice none 0 0]) /\ Below W.heap.size W w') := fun W => void_any W
 have HND : Hid (condNd f = if condB f = true then ⟨13, nN (f.getD 0 0), ByteArray.empty, f.drop 1⟩ else voidN) := rfl
 have fin : Hid (∀ W1, Below (w.alloc (.cells #[.int .i64 0, .int .i64 0, .string ⟨#[]⟩, .slice none 0 0] 54)).heap.size (w.alloc (.cells #[.int .i64 0, .int .i64 0, .string ⟨#[]⟩, .slice none 0 0] 54)) W1 -> NZ w.heap.size W1 /\ ((((W1.setCell ⟨w.heap.size, 0, none⟩ (.int .i64 11)).setCell ⟨w.heap.size, 1, none⟩ (.int .i64 0)).setCell ⟨w.heap.size, 2, none⟩ (.string ⟨#[]⟩)).setCell ⟨w.heap.size, 3, none⟩ (.slice none 0 0)).heap[w.heap.size]? = some (.cells #[.int .i64 11, .int .i64 0, .string ⟨#[]⟩, .slice none 0 0] 54 (0, 0)) /\ Below w.heap.size w ((((W1.setCell ⟨w.heap.size, 0, none⟩ (.int .i64 11)).setCell ⟨w.heap.size, 1, none⟩ (.int .i64 0)).setCell ⟨w.heap.size, 2, none⟩ (.string ⟨#[]⟩)).setCell ⟨w.heap.size, 3, none⟩ (.slice none 0 0))) := fun W1 hb =>
  ⟨HZ.out.on hb, store4 (HZ.out.on hb), store4_below (Bt HB.out hb) (Nat.le_refl _)⟩
 by_cases h3 : n = 3
 ·subst h3
  obtain ⟨b, o, rfl, hlb, hc⟩ := R.some (by omega)
  have c0 : (w.alloc (.cells #[.int .i64 0, .int .i64 0, .string ⟨#[]⟩, .slice none 0 0] 54)).cell? ⟨b, o, none⟩ = some (.int .u64 (f.getD 0 0)) := by
   have := hc 0 (by omega)
   rw [Nat.add_zero] at this
   rw [b0.cell (p := ⟨b, o, none⟩) hlb]; exact this
  have hx0 := R.bd _ (getD_in_f (l := f) (i := 0) (by omega))
  have C0 := hid (upto_any 2 (f.getD 0 0) hx0 (w.alloc (.cells #[.int .i64 0, .int .i64 0, .string ⟨#[]⟩, .slice none 0 0] 54)))
  rw [condB_is hl] at HND
  have HTL := hid (tail_row R (by omega))
  have htr := fun wx => tail_run (some ⟨b, o, none⟩) 3 cap (by omega) wx
  obtain ⟨ta, hta⟩ : ∃ a, a = tailA (some ⟨b, o, none⟩) cap := ⟨_, rfl⟩
  rw [<- hta] at HTL htr
  obtain ⟨x0, hx0e⟩ : ∃ x, x = f.getD 0 0 := ⟨_, rfl⟩
  rw [<- hx0e] at c0 C0 HND
  cases hb0 : uptoB 2 x0
  ·have hv : Hid (condNd f = voidN) := by unfold Hid; rw [HND.out, hb0]; rfl
   rw [hb0] at C0
   rw [hv.out]
   clear hb0 HND hx0e hta R hc hz b0 htr
   go_enter Tryz.func125, Tryz.ntmps125
   go_wp2_with (first
    | (go_at_call 157; (with_reducible refine C0.out.mono ?_); rintro e W1 ⟨m, rfl, _, hw1⟩; rw [hw1]; clear hw1)
    | (go_at_call 127; (with_reducible refine (CV.out _).mono ?_); rintro e W1 ⟨rfl, b1⟩; obtain ⟨hz2, q1, q2⟩ := fin.out W1 b1; obtain ⟨c0, c1, c2, c3, f0, f1, f2, f3⟩ := hz2.c; have t0 := blk_cell q1 0; have t1 := blk_cell q1 1; have t2 := blk_cell q1 2; have t3 := blk_cell q1 3; have HQ2 := hid q2; clear b1 hz2 q1 q2))
   (try simp only [Exit.inBlock, Exit.then]); refine bodyPost_ret (by simp [results, Tryz.results125, go_sem, t0, t1, t2, t3]; rfl) rfl ?_
   exact KPost.void HQ2.out
  ·have hv : Hid (condNd f = ⟨13, nN x0, ByteArray.empty, f.drop 1⟩) := by unfold Hid; rw [HND.out, hb0]; rfl
   rw [hb0] at C0
   rw [hv.out]
   have hy1 : 0 <= nN x0 /\ nN x0 <= 2 := by
    unfold uptoB at hb0
    simp only [Bool.and_eq_true, decide_eq_true_eq] at hb0
    omega
   obtain ⟨y, hy⟩ : ∃ y, y = nN x0 := ⟨_, rfl⟩
   rw [<- hy] at C0 hy1 ⊢
   obtain ⟨d0, d1, d2, d3, g0, g1, g2, g3⟩ := hz.c
   have hst := store4 (v1 := .int .i64 13) (v2 := .int .i64 y) (v3 := .string ⟨#[]⟩) (v4 := .slice none 0 0) hz
   have HST := hid hst
   have HBQ := hid (store4_below (v1 := .int .i64 13) (v2 := .int .i64 y) (v3 := .string ⟨#[]⟩) (v4 := .slice none 0 0) b0 (Nat.le_refl w.heap.size))
   clear hb0 HND hx0e hta R hc hz b0 hst hy
   go_enter Tryz.func125, Tryz.ntmps125
   go_wp2_with (go_at_call 157; (with_reducible refine C0.out.mono ?_); rintro e W1 ⟨m, rfl, hm, hw1⟩; rw [hw1, hm (by trivial)]; clear hw1 hm)
   go_region
   have hst := blk_new w #[.int .i64 13, .int .i64 y, .string ⟨#[]⟩, .slice none 0 0] 54
   have t0 := blk_cell hst 0
   have t1 := blk_cell hst 1
   have t2 := blk_cell hst 2
   have t3 := blk_cell hst 3
   have HB5 := hid (Bt (Ba w (.cells #[.int .i64 13, .int .i64 y, .string ⟨#[]⟩, .slice none 0 0] 54)) (below_drew _))
   clear hst d0 d1 d2 d3 g0 g1 g2 g3 htr c0
   go_wp2_with fail
   (try simp only [Exit.inBlock, Exit.then]); refine bodyPost_ret (by simp [results, Tryz.results125, go_sem, t0, t1, t2, t3]; rfl) rfl ?_
   exact ⟨ta, 2, cap - 1, rfl, HTL.out.1.on HB5.out, HTL.out.2, HB5.out⟩
 ·have hv : condNd f = voidN := by
   rw [HND.out]
   unfold condB
   rw [decide_eq_false (show ¬ f.length = 3 by omega), Bool.false_and]; rfl
  rw [hv]
  have e2 : ((n : Int) != 3) = true := by simp; omega
  clear hz R hl h3 b0 hv HND
  go_enter Tryz.func125, Tryz.ntmps125
  go_wp2_with (go_at_call 127; (with_reducible refine (CV.out _).mono ?_); rintro e W1 ⟨rfl, b1⟩; obtain ⟨hz2, q1, q2⟩ := fin.out W1 b1; obtain ⟨c0, c1, c2, c3, f0, f1, f2, f3⟩ := hz2.c; have t0 := blk_cell q1 0; have t1 := blk_cell q1 1; have t2 := blk_cell q1 2; have t3 := blk_cell q1 3; have HQ2 := hid q2; clear b1 hz2 q1 q2)
  (try simp only [Exit.inBlock, Exit.then]); refine bodyPost_ret (by simp [results, Tryz.results125, go_sem, t0, t1, t2, t3]; rfl) rfl ?_
  exact KPost.void HQ2.out
def SB (gs : Nat) (v vn : Value) (w : World) : Prop := w.cell? ⟨gs, 0, none⟩ = some v /\ w.cell? ⟨gs, 1, none⟩ = some vn /\ gs < w.heap.size
theorem SB.on {gs : Nat} {v vn : Value} {w w' : World} (h : SB gs v vn w) (hb : Below w.heap.size w w') : SB gs v vn w' :=
 ⟨(hb.cell (p := ⟨gs, 0, none⟩) h.2.2).trans h.1, (hb.cell (p := ⟨gs, 1, none⟩) h.2.2).trans h.2.1, Nat.lt_of_lt_of_le h.2.2 hb.size⟩
section
variable {B : Nat} {v vn : Value} {N : Int} {os : List Ob} {nm : List ByteArray} {F : Nat -> Prop} {gs : Nat} {w : World}
theorem PN.names (h : PN B v vn N os nm F w) (n : Int) (hn : Z64 n) (hl : nm.length <= 1000000) : Calls Tryz.prog 165 #[vn, .int .i64 n] w fun e w' => e = .returned (.tuple #[.string (if 0 <= n /\ n < nm.length then nm.getD n.toNat ByteArray.empty else ByteArray.empty), .bool (decide (0 <= n) && decide (n < nm.length))]) /\ Below w.heap.size w w' := by
 obtain ⟨F1, F2, h1, h2, h3, h4⟩ := h.ok
 exact ptext_any n hn w h2 hl
theorem nK5_rng {x : Int} (h : nK x = 5) : 0 <= nN x /\ nN x <= 1073741824 := by
 have hr := ofR_rt (x := x) (by rw [h]; decide)
 rw [h] at hr
 unfold rightB at hr
 simp at hr
 omega
def NamePost (nm : List ByteArray) (x : Int) (w : World) (e : Ending) (w' : World) : Prop := ∃ t, e = .returned (.tuple #[.string t, .bool (namB nm x)]) /\ (namB nm x = true -> t = symT nm x) /\ Below w.heap.size w w'
set_option maxHeartbeats 4000000 in
theorem name_is (x : Int) (hx : U64 x) (w : World) (h : PN B v vn N os nm F w) (hs : SB gs v vn w) (hnm : nm.length <= 1000000) (hns : ∀ s ∈ nm, s.size <= 1000000) (hT : Tabs w) :
  Calls Tryz.prog 131 #[.pointer (some ⟨gs, 0, none⟩), .int .u64 x] w (NamePost nm x w) := by
 have C := hid (nameof_any x hx w)
 have e1 : isR 5 x = decide (nK x = 5) := rfl
 have e2 : hasR 5 x = if nK x = 5 then nN x else 0 := rfl
 rw [e1, e2] at C
 have HN : Hid (namB nm x = (decide (nK x = 5) && (decide (nN x < nm.length) && textB 15 (symT nm x)))) := rfl
 obtain ⟨gh, gp, rfl, rfl⟩ := h.ptrs
 have c1 := hs.2.1
 by_cases h5 : nK x = 5
 ·have hr := nK5_rng h5
  have CT := hid (h.names (nN x) (by unfold Z64; omega) hnm)
  rw [if_pos h5, decide_eq_true h5] at C
  rw [decide_eq_true h5, Bool.true_and] at HN
  have HSY : Hid (symT nm x = nm.getD (nN x).toNat ByteArray.empty) := rfl
  obtain ⟨y, hy⟩ : ∃ y, y = nN x := ⟨_, rfl⟩
  rw [<- hy] at C CT HN HSY hr
  clear h5 hy e1 e2 hx h hs
  by_cases hl : y < nm.length
  ·rw [if_pos ⟨hr.1, hl⟩, decide_eq_true hr.1, decide_eq_true hl] at CT
   rw [decide_eq_true hl, Bool.true_and] at HN
   rw [<- HSY.out] at CT
   have hts : (symT nm x).size <= 1000000 := by
    rw [HSY.out]
    refine hns _ ?_
    rw [List.getD_eq_getElem?_getD, List.getElem?_eq_getElem (by omega)]; exact List.getElem_mem _
   have CV : Hid (∀ W, Below w.heap.size w W -> Calls Tryz.prog 166 #[.string (symT nm x)] W fun e w' => e = .returned (.bool (textB 15 (symT nm x))) /\ Below W.heap.size W w') := fun W hb => by
    have := valid_any (symT nm x) W (by unfold maxLen; omega) (hT.below hb)
    rw [textB_v _ (.inr rfl)]; exact this
   obtain ⟨t, ht⟩ : ∃ t, t = symT nm x := ⟨_, rfl⟩
   rw [<- ht] at CT CV HN hts
   have HTE := hid ht
   obtain ⟨bt, hbt⟩ : ∃ b, b = textB 15 t := ⟨_, rfl⟩
   rw [<- hbt] at CV HN
   clear ht hbt hns hT
   go_enter Tryz.func131, Tryz.ntmps131
   go_wp2_with (first
    | (go_at_call 164; (with_reducible refine C.out.mono ?_); rintro e W1 ⟨rfl, hw1⟩; rw [hw1]; clear hw1)
    | (go_at_call 165; (with_reducible refine CT.out.mono ?_); rintro e W2 ⟨rfl, b2⟩; have HB2 := hid b2; have C3 := hid (CV.out W2 b2); clear b2)
    | (go_at_call 166; (with_reducible refine C3.out.mono ?_); rintro e W3 ⟨rfl, b3⟩; have HB3 := hid (Bt HB2.out b3); clear b3))
   go_ret2
   exact ⟨t, by rw [HN.out]; rfl, fun _ => HTE.out, HB3.out⟩
  ·rw [if_neg (by omega), decide_eq_false hl, Bool.and_false] at CT
   rw [decide_eq_false hl, Bool.false_and] at HN
   clear hl hns hT
   go_enter Tryz.func131, Tryz.ntmps131
   go_wp2_with (first
    | (go_at_call 164; (with_reducible refine C.out.mono ?_); rintro e W1 ⟨rfl, hw1⟩; rw [hw1]; clear hw1)
    | (go_at_call 165; (with_reducible refine CT.out.mono ?_); rintro e W2 ⟨rfl, b2⟩; have HB2 := hid b2; clear b2))
   go_ret2
   exact ⟨_, by rw [HN.out]; rfl, fun h => (by rw [HN.out] at h; cases h), HB2.out⟩
 ·rw [if_neg h5, decide_eq_false h5] at C
  rw [decide_eq_false h5, Bool.false_and] at HN
  clear h5 e1 e2 h hs
  go_enter Tryz.func131, Tryz.ntmps131
  go_wp2_with (go_at_call 164; (with_reducible refine C.out.mono ?_); rintro e W1 ⟨rfl, hw1⟩; rw [hw1]; clear hw1)
  go_ret2
  exact ⟨_, by rw [HN.out]; rfl, fun h => (by rw [HN.out] at h; cases h), Below.refl _ _⟩
end
section
variable {B : Nat} {v vn : Value} {N : Int} {os : List Ob} {nm : List ByteArray} {F : Nat -> Prop} {gs : Nat} {w : World}
theorem PN.size (h : PN B v vn N os nm F w) (p : Int) (hp : U64 p) : Calls Tryz.prog 153 #[v, .int .u64 p] w fun e w' => e = .returned (.tuple #[.int .i64 (sizeM os p).1, .int .i64 (sizeM os p).2]) /\ Below w.heap.size w w' := by
 obtain ⟨F1, F2, h1, h2, h3, h4⟩ := h.ok
 exact psize_any h.fine p hp w h1
theorem PN.kind (h : PN B v vn N os nm F w) (p : Int) (hp : U64 p) : Calls Tryz.prog 73 #[v, .int .u64 p] w fun e w' => e = .returned (.tuple #[.int .i64 (kindM os p).1, .int .i64 (kindM os p).2]) /\ Below w.heap.size w w' := by
 obtain ⟨F1, F2, h1, h2, h3, h4⟩ := h.ok
 exact pkind_any h.fine p hp w h1
theorem PN.get (h : PN B v vn N os nm F w) (p kind i : Int) (hp : U64 p) (hk : Z64 kind) (hi : Z64 i) : Calls Tryz.prog 156 #[v, .int .u64 p, .int .i64 kind, .int .i64 i] w fun e w' => e = .returned (.tuple #[.int .u64 (getM os p kind i).1, .int .i64 (getM os p kind i).2]) /\ Below w.heap.size w w' := by
 obtain ⟨F1, F2, h1, h2, h3, h4⟩ := h.ok
 exact pget_any h.fine p kind i hp hk hi w h1
theorem get_at {p : Int} {k : Nat} (hf : findM os p = some k) {i : Nat} (hi : i < (os.getD k default).f.length) : getM os p 0 (i : Nat) = ((os.getD k default).f.getD i 0, 0) := by
 have e : fieldM os p 0 (i : Nat) = ((k : Int), 0) := by
  unfold fieldM
  rw [hf]
  simp only
  rw [if_neg (by simp), if_neg (by omega)]
 unfold getM
 rw [e, if_pos rfl]
 simp
set_option maxHeartbeats 8000000 in
theorem fields_is (p : Int) (hp : U64 p) (w : World) (h : PN B v vn N os nm F w) (hs : SB gs v vn w) {k : Nat} (hf : findM os p = some k) :
  Calls Tryz.prog 120 #[.pointer (some ⟨gs, 0, none⟩), .int .u64 p] w fun e w' => ∃ ao cap, e = .returned (.slice ao (os.getD k default).f.length cap) /\ URow w' ao (os.getD k default).f.length cap (os.getD k default).f /\ (∀ a, ao = some a -> w.heap.size <= a.block) /\ Below w.heap.size w w' := by
 have hk := (findM_lt hf).1
 have hal := at_lt hk
 have hbd := h.bd.1
 have hx := getD_in_os hk
 have huf := h.fine.uf _ hx
 have hnh := h.fine.nh _ hx
 have C := hid (h.size p hp)
 have e1 : sizeM os p = (((os.getD k default).f.length : Int), 0) := by unfold sizeM; rw [hf]
 rw [e1] at C
 have HG : Hid (∀ (i : Nat) (W : World), i < (os.getD k default).f.length -> Below w.heap.size w W -> Calls Tryz.prog 156 #[v, .int .u64 p, .int .i64 0, .int .i64 (i : Nat)] W fun e w' => e = .returned (.tuple #[.int .u64 ((os.getD k default).f.getD i 0), .int .i64 0]) /\ Below W.heap.size W w') := fun i W hi hb => by
  have := (h.on hb).get p 0 (i : Nat) hp (by unfold Z64; omega) (by unfold Z64; omega)
  rw [get_at hf hi] at this
  exact this
 have HSB : Hid (∀ W, Below w.heap.size w W -> W.cell? ⟨gs, 0, none⟩ = some v) := fun W hb => (hs.on hb).1
 have hfl : (os.getD k default).f.length <= 4194304 := by omega
 obtain ⟨gh, gp, hv, _⟩ := h.ptrs
 obtain ⟨fl, hfle⟩ : ∃ f, f = (os.getD k default).f := ⟨_, rfl⟩
 rw [<- hfle] at C HG huf hnh hfl ⊢
 have HU := hid huf
 have HH : Hid (∀ i, i < fl.length -> ∀ W, Calls Tryz.prog 115 #[.int .u64 (fl.getD i 0)] W fun e w' => ∃ a b, e = .returned (.tuple #[.int .i64 a, .int .i64 b, .bool false]) /\ w' = W) := fun i hi W => by
  have := headof_any (fl.getD i 0) (huf _ (getD_in_f hi)) W
  have e8 : isR 8 (fl.getD i 0) = false := hnh _ (getD_in_f hi)
  rw [e8] at this
  exact this.mono (fun e w' ⟨h1, h2⟩ => ⟨_, _, h1, h2⟩)
 obtain ⟨n, hn⟩ : ∃ n, n = fl.length := ⟨_, rfl⟩
 rw [<- hn] at C HG hfl HH ⊢
 have HN := hid hn
 have c0 := HSB.out w (Below.refl _ _)
 subst hv
 clear h hs hf hk hal hbd hx huf hnh e1 hfle hn
 go_enter Tryz.func120, Tryz.ntmps120
 go_wp2_with (go_at_call 153; (with_reducible refine C.out.mono ?_); rintro e W1 ⟨rfl, b1⟩; have HB1 := hid b1; clear b1)
 clear c0
 go_loopw [5, 8, 9, 10, 11, 12, 13, 24] (fun v _ _ _ _ _ _ i wr => ∃ q : Nat, q <= n /\ i = .int .i64 q /\ Hid (wr.ownsRow w.heap.size 44 1 v q (uz (fl.take q)) /\ Below w.heap.size w wr)) (fun _ _ _ _ _ _ _ i _ => n - (intOf i).toNat)
 case atStart => exact ⟨0, Nat.zero_le _, rfl, World.ownsRow_nil _ _ _ _, HB1.out⟩
 case round =>
  obtain ⟨q, hq, rfl, hI⟩ := hrel
  have HOQ := hid hI.out.1
  have HBQ := hid hI.out.2
  clear hI
  by_cases hlt : q < n
  ·have c0 := HSB.out wr HBQ.out
   have C1 := hid (HG.out q wr hlt HBQ.out)
   have C2 := hid (HH.out q hlt)
   have HT : Hid (fl.take (q + 1) = fl.take q ++ [fl.getD q 0]) := by
    unfold Hid
    have : q < fl.length := by rw [<- HN.out]; exact hlt
    rw [List.take_succ_eq_append_getElem this, List.getD_eq_getElem?_getD, List.getElem?_eq_getElem this]; rfl
   have hzu : Hid (U64 (fl.getD q 0)) := HU.out _ (getD_in_f (by rw [<- HN.out]; exact hlt))
   obtain ⟨zx, hzx⟩ : ∃ z, z = fl.getD q 0 := ⟨_, rfl⟩
   rw [<- hzx] at C1 C2 HT hzu
   have arm : Hid (∀ W, Below wr.heap.size wr W -> (W.alloc (.cells #[.int .u64 zx] 44)).ownsRow w.heap.size 44 1 u5 q (uz (fl.take q)) /\ URow (W.alloc (.cells #[.int .u64 zx] 44)) (some ⟨W.heap.size, 0, none⟩) 1 1 [zx] /\ Below w.heap.size w (W.alloc (.cells #[.int .u64 zx] 44))) := fun W hb =>
    ⟨uown_on (uown_on HOQ.out hb) (Ba W _), urow_one (blk_new W #[.int .u64 zx] 44) hzu.out, Bt (Bt HBQ.out (hb)) (Ba W _)⟩
   clear hzx
   go_wp2_with (first
    | (go_at_call 156; (with_reducible refine C1.out.mono ?_); rintro e W3 ⟨rfl, b3⟩; obtain ⟨a1, a2, a3⟩ := arm.out W3 b3; have HO1 := hid a1; have HU1 := hid a2; have HBA := hid a3; have HSA := hid a3.size; clear b3 a1 a2 a3)
    | (go_at_call 115; (with_reducible refine (C2.out _).mono ?_); rintro e W4 ⟨x1, x2, rfl, hw4⟩; rw [hw4]; clear hw4)
    | (at_builtin; refine appU rfl _ _ 23 rfl w.heap.size 44 Tryz.underlying23 info_word _ q (fl.take q) rfl HO1.out (some ⟨W3.heap.size, 0, none⟩) 1 1 [zx] rfl HU1.out (by omega) HSA.out ?_; intro v2 w2 ho2 hg2))
   have HE : Hid (Below w.heap.size w w2) := HBA.out.grown hg2 HSA.out (fun b hb => (HO1.out.lt b hb).1)
   refine ⟨⟨q + 1, by omega, by go_num, ?_, HE.out⟩, by simp [intOf] <;> omega⟩
   rw [HT.out]; exact ho2
  ·obtain rfl : n = q := by omega
   have hoq := HOQ.out
   rw [List.take_of_length_le (by rw [<- HN.out]; exact Nat.le_refl _)] at hoq
   have hoq' := hoq
   rw [HN.out] at hoq'
   obtain ⟨ao, cap, hv, hu⟩ := urow_own hoq' HU.out
   rw [<- HN.out] at hv hu
   subst hv
   have HUU := hid hu
   have HLT : Hid (∀ a, ao = some a -> w.heap.size <= a.block) := fun a e => (hoq.lt a.block (by rw [e]; rfl)).1
   clear hoq hoq' hu
   go_wp2_with fail
   go_ret
   exact ⟨ao, cap, rfl, HUU.out, HLT.out, HBQ.out⟩
end
end Go.Proofs.YticimejfjjmikaaGreatDoor
