/-
  Walks of the program's bigs: number, Word, numberUpTo, fieldsOf, Need.
-/
import Derived.Test.YtdekkieajffblaaGreatST4
import Derived.Test.YtdekkieajffblaaGreatX3
import Derived.Test.YtdekkieajffblaaGreatW15
import Derived.Test.YtdekkieajffblaaGreatW20
set_option linter.unusedVariables false
set_option linter.unusedSimpArgs false
set_option maxRecDepth 100000
namespace Go.Proofs.YtdekkieajffblaaGreat
open Go.RowKit

theorem bnumber_any (n : Int) (hn : Z64 n) (w : World) : Calls Tryz.prog 89 #[.int .i64 n] w fun e w' => e = .returned (.int .u64 (wordR 1 n 0)) ∧ w' = w := by
  have C := hid (fix_any n hn w)
  obtain ⟨x, hx⟩ : ∃ x, x = wordR 1 n 0 := ⟨_, rfl⟩
  obtain ⟨b, hb⟩ : ∃ x, x = rightB 1 n 0 := ⟨_, rfl⟩
  rw [← hx, ← hb] at C
  rw [← hx]
  clear hx hb hn
  go_enter Tryz.func89, Tryz.ntmps89
  go_wp2_with (go_at_call 84; (with_reducible refine C.out.mono ?_); rintro e W1 ⟨rfl, hw1⟩; rw [hw1]; clear hw1)
  go_ret
  exact ⟨rfl, rfl⟩
def BFixPost (z : Int) (w : World) (e : Ending) (w' : World) : Prop := ∃ x, e = .returned (.tuple #[.int .u64 x, .bool (fixB z)]) ∧ (fixB z = true → x = wordR 1 z 0) ∧ Below w.heap.size w w'
set_option maxHeartbeats 4000000 in
theorem bword_any (neg : Bool) (ao : Option Addr) (n cap : Nat) (l : List Nat) (w : World) (R : Row .u32 B32 w ao n cap l) (g : goodB neg l = true) :
    Calls Tryz.prog 57 #[.agg #[.bool neg, .slice ao n cap]] w (BFixPost (sgn neg (val B32 l)) w) := by
  have b0 := Ba w (.cells #[.bool neg, .slice ao n cap] 40)
  have C := hid (to_any neg ao n cap l (w.alloc (.cells #[.bool neg, .slice ao n cap] 40)) (R.below b0) g)
  unfold ToPost at C
  have hx := blk_new w #[.bool neg, .slice ao n cap] 40
  have c0 : (w.alloc (.cells #[.bool neg, .slice ao n cap] 40)).cell? ⟨w.heap.size, 0, none⟩ = some (.bool neg) := blk_cell hx 0
  have c1 : (w.alloc (.cells #[.bool neg, .slice ao n cap] 40)).cell? ⟨w.heap.size, 1, none⟩ = some (.slice ao n cap) := blk_cell hx 1
  have HB := hid b0
  obtain ⟨z, hz⟩ : ∃ z, z = sgn neg (val B32 l) := ⟨_, rfl⟩
  rw [← hz] at C ⊢
  clear R g hx b0 hz
  by_cases hf : fits z = true
  · rw [hf] at C
    have hz64 : Z64 z := by have := of_decide_eq_true hf; unfold Z64; omega
    have CF : Hid (∀ W, Calls Tryz.prog 84 #[.int .i64 z] W fun e w' => e = .returned (.tuple #[.int .u64 (wordR 1 z 0), .bool (fixB z)]) ∧ w' = W) := fun W => fix_any z hz64 W
    obtain ⟨x, hx⟩ : ∃ x, x = wordR 1 z 0 := ⟨_, rfl⟩
    obtain ⟨b, hb⟩ : ∃ b, b = fixB z := ⟨_, rfl⟩
    rw [← hx, ← hb] at CF
    have HX := hid hx
    have HBB := hid hb
    clear hf hz64 hx hb
    go_enter Tryz.func57, Tryz.ntmps57
    go_wp2_with (first
      | (go_at_call 83; (with_reducible refine C.out.mono ?_); rintro e W1 ⟨v, rfl, hv, b1⟩; rw [hv rfl]; have HB1 := hid (Bt HB.out b1); have C2 := hid (CF.out W1); clear b1 hv)
      | (go_at_call 84; (with_reducible refine C2.out.mono ?_); rintro e W2 ⟨rfl, hw2⟩; rw [hw2]; clear hw2))
    go_ret2
    exact ⟨x, by rw [HBB.out]; rfl, fun _ => HX.out, HB1.out⟩
  · have hf' : fits z = false := by simpa using hf
    rw [hf'] at C
    have HFX : Hid (fixB z = false) := by
      unfold Hid fixB
      have := of_decide_eq_false hf'
      by_cases k1 : -1152921504606846976 ≤ z
      · rw [decide_eq_true k1, decide_eq_false (by omega)]; rfl
      · rw [decide_eq_false k1]; rfl
    clear hf hf'
    go_enter Tryz.func57, Tryz.ntmps57
    go_wp2_with (go_at_call 83; (with_reducible refine C.out.mono ?_); rintro e W1 ⟨v, rfl, hv, b1⟩; have HB1 := hid (Bt HB.out b1); clear b1 hv)
    go_ret2
    exact ⟨_, by rw [HFX.out]; rfl, fun h => (by rw [HFX.out] at h; cases h), HB1.out⟩
def buptoB (most x : Int) : Bool := decide (nK x = 1) && (decide (0 ≤ nN x) && decide (nN x ≤ most))
theorem bupto_any (most x : Int) (hx : U64 x) (w : World) : Calls Tryz.prog 92 #[.int .i64 most, .int .u64 x] w fun e w' => ∃ n, e = .returned (.tuple #[.int .i64 n, .bool (buptoB most x)]) ∧ (buptoB most x = true → n = nN x) ∧ w' = w := by
  have C := hid (int_any x hx w)
  have e1 : isR 1 x = decide (nK x = 1) := rfl
  have e2 : hasR 1 x = if nK x = 1 then nN x else 0 := rfl
  have HU : Hid (buptoB most x = (decide (nK x = 1) && (decide (0 ≤ nN x) && decide (nN x ≤ most)))) := rfl
  rw [e1, e2] at C
  obtain ⟨k, hk⟩ : ∃ k, k = nK x := ⟨_, rfl⟩
  obtain ⟨n, hn⟩ : ∃ k, k = nN x := ⟨_, rfl⟩
  rw [← hk, ← hn] at C HU
  rw [← hn]
  clear hk hn hx e1 e2
  by_cases h1 : k = 1
  · subst h1
    rw [if_pos rfl] at C
    by_cases h2 : 0 ≤ n
    · have d2 : decide (0 ≤ n) = true := decide_eq_true h2
      by_cases h3 : n ≤ most
      · have d3 : decide (n ≤ most) = true := decide_eq_true h3
        rw [d2, d3] at HU
        go_enter Tryz.func92, Tryz.ntmps92
        go_wp2_with (go_at_call 36; (with_reducible refine C.out.mono ?_); rintro e W1 ⟨rfl, hw1⟩; rw [hw1]; clear hw1)
        go_ret2
        exact ⟨n, by rw [HU.out]; rfl, fun _ => rfl, rfl⟩
      · have d3 : decide (n ≤ most) = false := decide_eq_false h3
        rw [d2, d3] at HU
        go_enter Tryz.func92, Tryz.ntmps92
        go_wp2_with (go_at_call 36; (with_reducible refine C.out.mono ?_); rintro e W1 ⟨rfl, hw1⟩; rw [hw1]; clear hw1)
        go_ret2
        exact ⟨n, by rw [HU.out]; rfl, fun _ => rfl, rfl⟩
    · have d2 : decide (0 ≤ n) = false := decide_eq_false h2
      rw [d2] at HU
      go_enter Tryz.func92, Tryz.ntmps92
      go_wp2_with (go_at_call 36; (with_reducible refine C.out.mono ?_); rintro e W1 ⟨rfl, hw1⟩; rw [hw1]; clear hw1)
      go_ret2
      exact ⟨n, by rw [HU.out]; rfl, fun _ => rfl, rfl⟩
  · rw [if_neg h1, decide_eq_false h1] at C
    rw [decide_eq_false h1, Bool.false_and] at HU
    clear h1
    go_enter Tryz.func92, Tryz.ntmps92
    go_wp2_with (go_at_call 36; (with_reducible refine C.out.mono ?_); rintro e W1 ⟨rfl, hw1⟩; rw [hw1]; clear hw1)
    go_ret2
    exact ⟨0, by rw [HU.out]; rfl, fun h => (by rw [HU.out] at h; cases h), rfl⟩
set_option maxHeartbeats 4000000 in
theorem bfields_any (neg : Bool) (ao : Option Addr) (n cap : Nat) (l : List Nat) (w : World) (R : Row .u32 B32 w ao n cap l) (hn : n ≤ 1000) :
    Calls Tryz.prog 59 #[.agg #[.bool neg, .slice ao n cap]] w fun e w' => ∃ v, e = .returned v ∧ w'.ownsRow w.heap.size 35 1 v (n + 1) (uz (bigL neg l)) ∧ Below w.heap.size w w' := by
  have HR := hid R
  have hln := R.len
  have hf := R.fits
  have hm := R.most
  unfold maxLen at hm
  have b0 := Ba w (.cells #[.bool neg, .slice ao n cap] 40)
  have HB0 := hid b0
  have hx := blk_new w #[.bool neg, .slice ao n cap] 40
  have HX := hid hx
  have HC : Hid (∀ W, Below (w.alloc (.cells #[.bool neg, .slice ao n cap] 40)).heap.size (w.alloc (.cells #[.bool neg, .slice ao n cap] 40)) W → W.cell? ⟨w.heap.size, 0, none⟩ = some (.bool neg) ∧ W.cell? ⟨w.heap.size, 1, none⟩ = some (.slice ao n cap) ∧ Below w.heap.size w W) := fun W b => by
    have e := (b.block w.heap.size (by rw [size_alloc]; omega)).trans HX.out
    exact ⟨blk_cell e 0, blk_cell e 1, Bt HB0.out b⟩
  have CW : Hid (∀ x : Nat, x < 4294967296 → ∀ W, Calls Tryz.prog 89 #[.int .i64 (x : Nat)] W fun e w' => e = .returned (.int .u64 (wordR 1 (x : Nat) 0)) ∧ w' = W) := fun x hx W => bnumber_any x (by unfold Z64; omega) W
  have CW0 : Hid (∀ W, Calls Tryz.prog 89 #[.int .i64 0] W fun e w' => e = .returned (.int .u64 (wordR 1 0 0)) ∧ w' = W) := fun W => bnumber_any 0 (by unfold Z64; omega) W
  have CW1 : Hid (∀ W, Calls Tryz.prog 89 #[.int .i64 1] W fun e w' => e = .returned (.int .u64 (wordR 1 1 0)) ∧ w' = W) := fun W => bnumber_any 1 (by unfold Z64; omega) W
  obtain ⟨z0, hz0⟩ : ∃ z, z = wordR 1 0 0 := ⟨_, rfl⟩
  obtain ⟨z1, hz1⟩ : ∃ z, z = wordR 1 1 0 := ⟨_, rfl⟩
  rw [← hz0] at CW0
  rw [← hz1] at CW1
  obtain ⟨zs, hzs⟩ : ∃ z, z = if neg then z1 else z0 := ⟨_, rfl⟩
  have HBG : Hid (bigL neg [] = [zs]) := by
    unfold Hid bigL
    rw [hzs]
    cases neg
    · simp [hz0]
    · simp [hz1]
  obtain ⟨W0, hW0⟩ : ∃ W, W = w.alloc (.cells #[.bool neg, .slice ao n cap] 40) := ⟨_, rfl⟩
  have HW0 := hid hW0
  have HX0 := hid (HX.out)
  rw [← hW0] at HC
  have c0 := (HC.out W0 (Below.refl _ _)).1
  have c1 := (HC.out (W0.alloc (.cells #[.int .u64 zs] 35)) (Ba W0 _)).2.1
  have HBSTART : Hid (Below W0.heap.size W0 (W0.alloc (.cells #[.int .u64 zs] 35))) := Ba W0 _
  have HSTART : Hid ((W0.alloc (.cells #[.int .u64 zs] 35)).ownsRow W0.heap.size 35 1 (.slice (some ⟨W0.heap.size, 0, none⟩) 1 1) (0 + 1) (uz (bigL neg (l.take 0)))) := by
    unfold Hid
    rw [List.take_zero, HBG.out]
    exact own_one (Below.refl _ _)
  have fin : Hid (∀ (v : Value) (wr : World) (q : Nat), wr.ownsRow W0.heap.size 35 1 v (q + 1) (uz (bigL neg (l.take q))) → Below W0.heap.size W0 wr → q = n → wr.ownsRow w.heap.size 35 1 v (n + 1) (uz (bigL neg l)) ∧ Below w.heap.size w wr) := fun v wr q h1 h2 e => by
    subst e
    rw [List.take_of_length_le (by omega)] at h1
    exact ⟨own_weak h1 (by rw [HW0.out, size_alloc]; omega), (HC.out wr h2).2.2⟩
  have HRW : Hid (∀ W, Below W0.heap.size W0 W → Row .u32 B32 W ao n cap l) := fun W b => HR.out.below (HC.out W b).2.2
  have HNE : Hid (neg = false → zs = z0) := fun e => by rw [hzs, e]; rfl
  have HNT : Hid (neg = true → zs = z1) := fun e => by rw [hzs, e]; rfl
  have eW : Hid (w.alloc (.cells #[.bool neg, .slice ao n cap] 40) = W0) := HW0.out.symm
  clear R b0 hx hz0 hz1 hzs hW0 HW0 HX HX0 HB0
  have go : Calls Tryz.prog 59 #[.agg #[.bool neg, .slice ao n cap]] w fun e w' => ∃ v, e = .returned v ∧ w'.ownsRow w.heap.size 35 1 v (n + 1) (uz (bigL neg l)) ∧ Below w.heap.size w w' := by
    cases neg
    · obtain rfl := HNE.out rfl
      go_enter Tryz.func59, Tryz.ntmps59
      go_wp2_with fail
      rw [eW.out]
      go_wp2_with (go_at_call 89; (with_reducible refine (CW0.out W0).mono ?_); rintro e W1 ⟨rfl, hw1⟩; rw [hw1]; clear hw1)
      clear c0 c1
      go_loopw [4, 6, 15] (fun v _ i wr => ∃ q : Nat, q ≤ n ∧ i = .int .i64 q ∧ Hid (wr.ownsRow W0.heap.size 35 1 v (q + 1) (uz (bigL false (l.take q))) ∧ Below W0.heap.size W0 wr)) (fun _ _ i _ => n - (intOf i).toNat)
      case atStart => exact ⟨0, Nat.zero_le _, rfl, HSTART.out, HBSTART.out⟩
      case round =>
        obtain ⟨q, hq, rfl, hI⟩ := hrel
        obtain ⟨_, d1, _⟩ := HC.out wr hI.out.2
        have HOQ := hid hI.out.1
        have HBQ := hid hI.out.2
        clear hI
        by_cases hlt : q < n
        · obtain ⟨b, o, rfl, hlb, hcc⟩ := (HRW.out wr HBQ.out).rd.some (by omega)
          have hck := hcc q (by omega)
          have hxb : l.getD q 0 < B32 := by rw [List.getD_eq_getElem?_getD, List.getElem?_eq_getElem (by omega)]; exact HR.out.dg _ (List.getElem_mem _)
          have C1 := hid (CW.out (l.getD q 0) hxb wr)
          have HT := hid (bigL_take false (l := l) (q := q) (by omega))
          obtain ⟨x, hx⟩ : ∃ x, x = l.getD q 0 := ⟨_, rfl⟩
          rw [← hx] at hck C1 HT hxb
          have hxb' : x < 4294967296 := hxb
          obtain ⟨zx, hzx⟩ : ∃ z, z = wordR 1 ((x : Nat) : Int) 0 := ⟨_, rfl⟩
          have hzu : Hid (U64 zx) := by unfold Hid; rw [hzx]; exact wordR_rng _ _ _
          rw [← hzx] at C1 HT
          have HO1 := hid (uown_on HOQ.out (Ba wr (.cells #[.int .u64 zx] 35)))
          have HU1 := hid (urow_one (blk_new wr #[.int .u64 zx] 35) hzu.out)
          have HBA := hid (HBQ.out.trans ((Ba wr (.cells #[.int .u64 zx] 35)).mono HBQ.out.size))
          have HSA := hid HBA.out.size
          clear hcc hx hzx hxb
          go_wp2_with (first
            | (go_at_call 89; (with_reducible refine C1.out.mono ?_); rintro e W1 ⟨rfl, hw1⟩; rw [hw1]; clear hw1)
            | (at_builtin; refine appU rfl _ _ 33 rfl W0.heap.size 35 Tryz.underlying33 info_word _ (q + 1) (bigL false (l.take q)) rfl HO1.out (some ⟨wr.heap.size, 0, none⟩) 1 1 [zx] rfl HU1.out (by omega) HSA.out ?_; intro v2 w2 ho2 hg2))
          have HE : Hid (Below W0.heap.size W0 w2) := HBA.out.grown hg2 HSA.out (fun b hb => (HO1.out.lt b hb).1)
          refine ⟨⟨q + 1, by omega, by go_num, ?_, HE.out⟩, by simp [intOf] <;> omega⟩
          rw [HT.out]; exact ho2
        · obtain rfl : q = n := by omega
          go_wp2_with fail
          go_ret
          obtain ⟨f1, f2⟩ := fin.out _ _ _ HOQ.out HBQ.out rfl
          exact ⟨_, rfl, f1, f2⟩
    · obtain rfl := HNT.out rfl
      go_enter Tryz.func59, Tryz.ntmps59
      go_wp2_with fail
      rw [eW.out]
      go_wp2_with (go_at_call 89; (with_reducible refine (CW1.out W0).mono ?_); rintro e W1 ⟨rfl, hw1⟩; rw [hw1]; clear hw1)
      clear c0 c1
      go_loopw [4, 6, 15] (fun v _ i wr => ∃ q : Nat, q ≤ n ∧ i = .int .i64 q ∧ Hid (wr.ownsRow W0.heap.size 35 1 v (q + 1) (uz (bigL true (l.take q))) ∧ Below W0.heap.size W0 wr)) (fun _ _ i _ => n - (intOf i).toNat)
      case atStart => exact ⟨0, Nat.zero_le _, rfl, HSTART.out, HBSTART.out⟩
      case round =>
        obtain ⟨q, hq, rfl, hI⟩ := hrel
        obtain ⟨_, d1, _⟩ := HC.out wr hI.out.2
        have HOQ := hid hI.out.1
        have HBQ := hid hI.out.2
        clear hI
        by_cases hlt : q < n
        · obtain ⟨b, o, rfl, hlb, hcc⟩ := (HRW.out wr HBQ.out).rd.some (by omega)
          have hck := hcc q (by omega)
          have hxb : l.getD q 0 < B32 := by rw [List.getD_eq_getElem?_getD, List.getElem?_eq_getElem (by omega)]; exact HR.out.dg _ (List.getElem_mem _)
          have C1 := hid (CW.out (l.getD q 0) hxb wr)
          have HT := hid (bigL_take true (l := l) (q := q) (by omega))
          obtain ⟨x, hx⟩ : ∃ x, x = l.getD q 0 := ⟨_, rfl⟩
          rw [← hx] at hck C1 HT hxb
          have hxb' : x < 4294967296 := hxb
          obtain ⟨zx, hzx⟩ : ∃ z, z = wordR 1 ((x : Nat) : Int) 0 := ⟨_, rfl⟩
          have hzu : Hid (U64 zx) := by unfold Hid; rw [hzx]; exact wordR_rng _ _ _
          rw [← hzx] at C1 HT
          have HO1 := hid (uown_on HOQ.out (Ba wr (.cells #[.int .u64 zx] 35)))
          have HU1 := hid (urow_one (blk_new wr #[.int .u64 zx] 35) hzu.out)
          have HBA := hid (HBQ.out.trans ((Ba wr (.cells #[.int .u64 zx] 35)).mono HBQ.out.size))
          have HSA := hid HBA.out.size
          clear hcc hx hzx hxb
          go_wp2_with (first
            | (go_at_call 89; (with_reducible refine C1.out.mono ?_); rintro e W1 ⟨rfl, hw1⟩; rw [hw1]; clear hw1)
            | (at_builtin; refine appU rfl _ _ 33 rfl W0.heap.size 35 Tryz.underlying33 info_word _ (q + 1) (bigL true (l.take q)) rfl HO1.out (some ⟨wr.heap.size, 0, none⟩) 1 1 [zx] rfl HU1.out (by omega) HSA.out ?_; intro v2 w2 ho2 hg2))
          have HE : Hid (Below W0.heap.size W0 w2) := HBA.out.grown hg2 HSA.out (fun b hb => (HO1.out.lt b hb).1)
          refine ⟨⟨q + 1, by omega, by go_num, ?_, HE.out⟩, by simp [intOf] <;> omega⟩
          rw [HT.out]; exact ho2
        · obtain rfl : q = n := by omega
          go_wp2_with fail
          go_ret
          obtain ⟨f1, f2⟩ := fin.out _ _ _ HOQ.out HBQ.out rfl
          exact ⟨_, rfl, f1, f2⟩
  exact go
/-- How many words an integer's object has. -/
def needZ (z : Int) : Int := if fixB z = true then 0 else 2 + (((mg z.natAbs).length : Nat) : Int)
theorem mg_of {neg : Bool} {l : List Nat} (hd : Dg B32 l) (g : goodB neg l = true) : l = mg (sgn neg (val B32 l)).natAbs := by
  refine mg_is hd (goodB_tr g) ?_
  cases neg <;> simp [sgn]
set_option maxHeartbeats 4000000 in
theorem bneed_any (neg : Bool) (ao : Option Addr) (n cap : Nat) (l : List Nat) (w : World) (R : Row .u32 B32 w ao n cap l) (g : goodB neg l = true) :
    Calls Tryz.prog 64 #[.agg #[.bool neg, .slice ao n cap]] w fun e w' => e = .returned (.int .i64 (needZ (sgn neg (val B32 l)))) ∧ Below w.heap.size w w' := by
  have b0 := Ba w (.cells #[.bool neg, .slice ao n cap] 40)
  have hx := blk_new w #[.bool neg, .slice ao n cap] 40
  have hln := R.len
  have hft := R.fits
  have hmx := R.most
  unfold maxLen at hmx
  have hn40 : n ≤ 40 := by rw [← R.len]; exact goodB_len g
  have HM := hid (mg_of R.dg g)
  have CW := hid (bword_any neg ao n cap l (w.alloc (.cells #[.bool neg, .slice ao n cap] 40)) (R.below b0) g)
  have CG : Hid (∀ W, Below w.heap.size w W → Calls Tryz.prog 56 #[.agg #[.bool neg, .slice ao n cap]] W fun e w' => e = .returned (.bool true) ∧ Below W.heap.size W w') := fun W b => by
    have := good_any neg ao n cap l W (R.below b)
    rw [g] at this; exact this
  have HC : Hid (∀ W, Below (w.alloc (.cells #[.bool neg, .slice ao n cap] 40)).heap.size (w.alloc (.cells #[.bool neg, .slice ao n cap] 40)) W → W.cell? ⟨w.heap.size, 0, none⟩ = some (.bool neg) ∧ W.cell? ⟨w.heap.size, 1, none⟩ = some (.slice ao n cap) ∧ Below w.heap.size w W) := fun W b => by
    have e := (b.block w.heap.size (by rw [size_alloc]; omega)).trans hx
    exact ⟨blk_cell e 0, blk_cell e 1, Bt b0 b⟩
  obtain ⟨c0, c1, _⟩ := HC.out _ (Below.refl _ _)
  unfold BFixPost at CW
  obtain ⟨z, hz⟩ : ∃ z, z = sgn neg (val B32 l) := ⟨_, rfl⟩
  rw [← hz] at HM CW ⊢
  have HNZ : Hid (needZ z = if fixB z = true then 0 else 2 + ((n : Nat) : Int)) := by
    unfold Hid needZ; rw [← HM.out, hln]
  obtain ⟨fb, hfb⟩ : ∃ b, b = fixB z := ⟨_, rfl⟩
  rw [← hfb] at CW HNZ
  clear R g hx b0 hz hfb hln
  cases fb
  · go_enter Tryz.func64, Tryz.ntmps64
    go_wp2_with (first
      | (go_at_call 57; (with_reducible refine CW.out.mono ?_); rintro e W1 ⟨x, rfl, _, b1⟩; obtain ⟨d0, d1, b2⟩ := HC.out W1 b1; have HB1 := hid b1; have C2 := hid (CG.out W1 b2); clear c0 c1 b1 b2)
      | (go_at_call 56; (with_reducible refine C2.out.mono ?_); rintro e W2 ⟨rfl, b3⟩; have b4 := HB1.out.trans (b3.mono HB1.out.size); obtain ⟨f0, f1, b5⟩ := HC.out W2 b4; have HB2 := hid b5; clear b3 b4 b5 d0 d1))
    go_ret
    refine ⟨?_, HB2.out⟩
    rw [HNZ.out]; rfl
  · go_enter Tryz.func64, Tryz.ntmps64
    go_wp2_with (go_at_call 57; (with_reducible refine CW.out.mono ?_); rintro e W1 ⟨x, rfl, _, b1⟩; obtain ⟨d0, d1, b2⟩ := HC.out W1 b1; have HB1 := hid b2; clear c0 c1 b1 b2)
    go_ret
    refine ⟨?_, HB1.out⟩
    rw [HNZ.out]; rfl
end Go.Proofs.YtdekkieajffblaaGreat
