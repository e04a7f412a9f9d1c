/-
  Walks: mulRows, fitting.
-/
import Derived.Test.YtdekkieajffblaaGreatST4
import Derived.Test.YtdekkieajffblaaGreatVM
import Derived.Test.YtdekkieajffblaaGreatV9
import Derived.Test.YtdekkieajffblaaGreatX3
import Derived.Test.YtdekkieajffblaaGreatAB1
import Derived.Test.YtdekkieajffblaaGreatW15
set_option linter.unusedVariables false
set_option linter.unusedSimpArgs false
set_option maxRecDepth 100000
namespace Go.Proofs.YtdekkieajffblaaGreat
open Go.RowKit

/-- An integer's object. -/
def bigO (z : Int) : Ob := ⟨5, bigL (decide (z < 0)) (mg z.natAbs)⟩
/-- All objects are integers out of Fix's bounds. -/
def AllBig (os : List Ob) : Prop := ∀ x ∈ os, ∃ z, x = bigO z ∧ fixB z = false ∧ ¬ Big z.natAbs
def intL (f : List Int) : Int := sgn (numNeg f) (val B32 (numMag f))
/-- The number that a word is. -/
def numM (os : List Ob) (p : Int) : Option Int := if isR 1 p = true then some (hasR 1 p) else (findM os p).map (fun k => intL (os.getD k default).f)
def layM (os : List Ob) (N z : Int) : Int × Int := if fixB z = true then (wordR 1 z 0, 0) else allocM os N 5 (bigL (decide (z < 0)) (mg z.natAbs))
def layO (os : List Ob) (N z : Int) : List Ob := if fixB z = true then os else allocO os N 5 (bigL (decide (z < 0)) (mg z.natAbs))
theorem say_fix {x : Int} (h : fixB x = true) : ofR (wordR 1 x 0) = (1, x, 0) := by
  have := word_back (k := 1) (n := x) (t := 0) h
  rw [this]; rfl
theorem fixB_limb {x : Nat} (h : x < 4294967296) : fixB (x : Int) = true := by
  unfold fixB
  rw [Bool.and_eq_true, decide_eq_true_eq, decide_eq_true_eq]; omega
theorem say_both {x : Int} (h : fixB x = true) : nK (wordR 1 x 0) = 1 ∧ nN (wordR 1 x 0) = x := by
  unfold nK nN
  rw [say_fix h]
  exact ⟨rfl, rfl⟩
theorem say_limb {x : Nat} (h : x < B32) : nK (wordR 1 (x : Int) 0) = 1 ∧ nN (wordR 1 (x : Int) 0) = (x : Int) := say_both (fixB_limb h)
theorem mg_ok (v : Nat) : Dg B32 (mg v) ∧ Tr (mg v) ∧ val B32 (mg v) = v := by
  obtain ⟨m1, m2, m3, _⟩ := mgF_ok v v (Nat.le_refl _)
  exact ⟨m1, m2, m3⟩
theorem mg_len40 {v : Nat} (h : ¬ Big v) : (mg v).length ≤ 40 := by
  obtain ⟨m1, m2, m3⟩ := mg_ok v
  exact (small_len m1 m2).2 (by rw [m3]; exact h)
theorem sgn_abs (z : Int) : sgn (decide (z < 0)) z.natAbs = z := by
  unfold sgn
  by_cases e : z < 0
  · rw [decide_eq_true e, if_pos rfl]; omega
  · rw [decide_eq_false e, if_neg (by decide)]; omega
theorem mag_map : ∀ {l : List Nat}, Dg B32 l → (l.map (fun x => wordR 1 (x : Nat) 0)).map (fun y => (nN y).toNat) = l
  | [], _ => rfl
  | x :: l, h => by
    have h1 := (say_limb (h x (List.mem_cons_self))).2
    rw [List.map_cons, List.map_cons, h1, Int.toNat_natCast, mag_map (fun y hy => h y (List.mem_cons_of_mem _ hy))]
theorem good_mg {z : Int} (h : ¬ Big z.natAbs) : goodB (decide (z < 0)) (mg z.natAbs) = true := by
  obtain ⟨m1, m2, m3⟩ := mg_ok z.natAbs
  refine goodB_mk m2 (mg_len40 h) (fun e => ?_)
  have e0 := List.length_eq_zero_iff.1 e
  rw [e0] at m3
  refine decide_eq_false ?_
  have : z.natAbs = 0 := m3.symm
  omega
theorem big_sign (z : Int) : nK (wordR 1 (if decide (z < 0) = true then 1 else 0) 0) = 1 ∧ nN (wordR 1 (if decide (z < 0) = true then 1 else 0) 0) = if decide (z < 0) = true then 1 else 0 := by
  split
  · exact say_limb (x := 1) (by decide)
  · exact say_limb (x := 0) (by decide)
theorem big_mag (z : Int) : numMag (bigL (decide (z < 0)) (mg z.natAbs)) = mg z.natAbs := by
  unfold numMag bigL
  rw [List.drop_one, List.tail_cons]
  exact mag_map (mg_ok _).1
theorem big_neg (z : Int) : numNeg (bigL (decide (z < 0)) (mg z.natAbs)) = decide (z < 0) := by
  unfold numNeg bigL
  show decide (nN (wordR 1 (if decide (z < 0) = true then 1 else 0) 0) = 1) = _
  rw [(big_sign z).2]
  cases decide (z < 0) <;> rfl
theorem big_intL (z : Int) : intL (bigL (decide (z < 0)) (mg z.natAbs)) = z := by
  unfold intL
  rw [big_mag, big_neg, (mg_ok _).2.2, sgn_abs]
theorem big_limbs (z : Int) : (bigL (decide (z < 0)) (mg z.natAbs)).all limbB = true := by
  rw [List.all_eq_true]
  intro y hy
  unfold bigL at hy
  rcases List.mem_cons.1 hy with rfl | hy
  · unfold limbB
    rw [(big_sign z).1, (big_sign z).2]
    cases decide (z < 0) <;> rfl
  · obtain ⟨x, hx, rfl⟩ := List.mem_map.1 hy
    have hxb := (mg_ok z.natAbs).1 x hx
    unfold limbB
    rw [(say_limb hxb).1, (say_limb hxb).2]
    unfold B32 at hxb
    rw [decide_eq_true (show (0 : Int) ≤ (x : Int) by omega), decide_eq_true (show (x : Int) < 4294967296 by omega)]; rfl
theorem big_is {z : Int} (hf : fixB z = false) (hb : ¬ Big z.natAbs) : bigB (bigL (decide (z < 0)) (mg z.natAbs)) = true := by
  unfold bigB
  have e := big_intL z
  unfold intL at e
  rw [e, big_neg, big_mag, good_mg hb, hf, big_limbs]
  have a1 : 0 < (bigL (decide (z < 0)) (mg z.natAbs)).length := by rw [bigL_len]; omega
  have a3 : nN ((bigL (decide (z < 0)) (mg z.natAbs)).getD 0 0) ≤ 1 := by
    show nN (wordR 1 (if decide (z < 0) = true then 1 else 0) 0) ≤ 1
    rw [(big_sign z).2]; split <;> omega
  rw [decide_eq_true a1, decide_eq_true a3]; rfl
theorem big_nohead (z : Int) : (bigL (decide (z < 0)) (mg z.natAbs)).any isHd = false := by
  rw [List.any_eq_false]
  intro y hy h
  have := List.all_eq_true.1 (big_limbs z) y hy
  unfold limbB nK at this
  unfold isHd at h
  simp only [Bool.and_eq_true, decide_eq_true_eq] at this h
  rw [this.1] at h
  exact absurd h (by decide)
theorem big_need {z : Int} (hf : fixB z = false) : needZ z = 1 + ((bigL (decide (z < 0)) (mg z.natAbs)).length : Nat) := by
  unfold needZ
  rw [hf, bigL_len]; simp; omega
theorem layM_is (os : List Ob) (N z : Int) : layM os N z = if fixB z = true then (wordR 1 z 0, 0) else if N - (usedL os : Nat) < needZ z then (0, 3) else (wordR 2 (usedL os : Nat) 0, 0) := by
  unfold layM
  cases hf : fixB z
  · unfold allocM
    rw [big_nohead, big_need hf]
    simp
  · rfl
theorem layO_is (os : List Ob) (N z : Int) : layO os N z = if fixB z = true then os else if N - (usedL os : Nat) < needZ z then os else os ++ [bigO z] := by
  have h := layM_is os N z
  unfold layM at h
  unfold layO
  cases hf : fixB z
  · rw [hf] at h
    simp only [Bool.false_eq_true, if_false] at h ⊢
    unfold allocO
    rw [h]
    split
    · simp
    · simp [bigO]
  · rfl
theorem layO_all {os : List Ob} (h : AllBig os) (N : Int) {z : Int} (hb : ¬ Big z.natAbs) : AllBig (layO os N z) := by
  rw [layO_is]
  cases hf : fixB z
  · simp only [Bool.false_eq_true, if_false]
    split
    · exact h
    · intro x hx
      rcases List.mem_append.1 hx with hx | hx
      · exact h x hx
      · rw [List.mem_singleton] at hx
        exact ⟨z, hx, hf, hb⟩
  · exact h
theorem layO_ok {os : List Ob} (h : OsOk os) (N z : Int) : OsOk (layO os N z) := by
  unfold layO
  split
  · exact h
  · exact alloc_ok h (bigL_u _ _)
theorem layM_err {os : List Ob} {N z : Int} (h : (layM os N z).2 ≠ 0) : layO os N z = os := by
  rw [layM_is] at h
  rw [layO_is]
  split
  · rfl
  · rename_i h1
    rw [if_neg h1] at h
    split
    · rfl
    · rename_i h2
      rw [if_neg h2] at h
      exact absurd rfl h
theorem need_nn (z : Int) : 0 ≤ needZ z := by unfold needZ; split <;> omega
theorem lay_used (os : List Ob) (N z : Int) (h : (layM os N z).2 = 0) : ((usedL (layO os N z) : Nat) : Int) = (usedL os : Nat) + needZ z := by
  rw [layM_is] at h
  rw [layO_is]
  split
  · rename_i h1
    unfold needZ; rw [if_pos h1]; omega
  · rename_i h1
    rw [if_neg h1] at h
    split
    · rename_i h2
      rw [if_pos h2] at h; cases h
    · have hf : fixB z = false := by simpa using h1
      rw [usedL_append, big_need hf]
      unfold bigO
      simp [usedL]
theorem numM_lay {os : List Ob} {N z : Int} (hN : N ≤ 4194304) (h : (layM os N z).2 = 0) : numM (layO os N z) (layM os N z).1 = some z := by
  have hu := lay_used os N z h
  rw [layM_is] at h ⊢
  rw [layO_is] at hu ⊢
  cases hf : fixB z
  · rw [hf] at h hu
    simp only [Bool.false_eq_true, if_false] at h hu ⊢
    by_cases h2 : N - (usedL os : Nat) < needZ z
    · rw [if_pos h2] at h; cases h
    · rw [if_neg h2] at h hu
      simp only [if_neg h2]
      have hn := need_nn z
      have hp : ofR (wordR 2 ((usedL os : Nat) : Int) 0) = (2, ((usedL os : Nat) : Int), 0) := by
        have := word_back (k := 2) (n := ((usedL os : Nat) : Int)) (t := 0) (by unfold rightB; simp; omega)
        rw [this]; rfl
      have hat : atO (os ++ [bigO z]) os.length = usedL os := by unfold atO; rw [List.take_left]
      have hfd := find_ptr (os := os ++ [bigO z]) (k := os.length) (by simp) (by omega)
      rw [hat] at hfd
      unfold numM isR
      rw [hp, if_neg (by simp), hfd]
      have hg : (os ++ [bigO z]).getD os.length default = bigO z := by
        rw [List.getD_eq_getElem?_getD, List.getElem?_append_right (Nat.le_refl _), Nat.sub_self]; rfl
      rw [Option.map_some, hg]
      show some (intL (bigL (decide (z < 0)) (mg z.natAbs))) = _
      rw [big_intL]
  · have hp := say_fix hf
    rw [if_pos rfl, if_pos rfl]
    unfold numM isR hasR
    simp only
    rw [hp, if_pos (by simp), if_pos rfl]
/-- What a word that is a number has: it is not too big. -/
theorem numM_small {os : List Ob} (h : AllBig os) {p z : Int} (hz : numM os p = some z) : ¬ Big z.natAbs := by
  unfold numM at hz
  split at hz
  · rename_i h1
    have e : z = hasR 1 p := (Option.some.inj hz).symm
    have hb : fixB z = true := by
      unfold isR at h1
      have h1' := of_decide_eq_true h1
      rw [e]
      unfold hasR
      rw [if_pos h1']
      rcases ofR_right (w := p) with h | h
      · rw [h] at h1'; cases h1'
      · rw [h1'] at h; exact h
    unfold fixB at hb
    simp only [Bool.and_eq_true, decide_eq_true_eq] at hb
    exact not_big_64 _ (by omega)
  · cases hf : findM os p with
    | none => rw [hf] at hz; cases hz
    | some k =>
      rw [hf] at hz
      have e : intL (os.getD k default).f = z := Option.some.inj hz
      have hk := (findM_lt hf).1
      obtain ⟨y, h1, h2, h3⟩ := h (os.getD k default) (by rw [List.getD_eq_getElem?_getD, List.getElem?_eq_getElem hk]; exact List.getElem_mem _)
      rw [h1] at e
      rw [← e]
      show ¬ Big (intL (bigL (decide (y < 0)) (mg y.natAbs))).natAbs
      rw [big_intL]; exact h3
end Go.Proofs.YtdekkieajffblaaGreat

set_option linter.unusedVariables false
set_option linter.unusedSimpArgs false
namespace Go.Proofs.YtdekkieajffblaaGreat
open Go.RowKit

theorem val_set {B : Nat} : ∀ {L : List Nat} {p x : Nat}, p < L.length → val B (L.set p x) + B ^ p * L.getD p 0 = val B L + B ^ p * x
  | [], p, x, h => by simp at h
  | y :: L, 0, x, _ => by simp [val, List.getD]; omega
  | y :: L, p + 1, x, h => by
    have ih := val_set (B := B) (L := L) (p := p) (x := x) (by simpa using h)
    simp only [List.set_cons_succ, val_cons, List.getD_cons_succ, Nat.pow_succ]
    have h1 : B * (val B (L.set p x) + B ^ p * L.getD p 0) = B * (val B L + B ^ p * x) := by rw [ih]
    rw [Nat.mul_add, Nat.mul_add] at h1
    rw [Nat.mul_comm (B ^ p) B, Nat.mul_assoc, Nat.mul_assoc]
    omega
theorem Dg.set {B : Nat} {L : List Nat} (h : Dg B L) {p x : Nat} (hx : x < B) : Dg B (L.set p x) := by
  intro y hy
  rcases List.mem_or_eq_of_mem_set hy with h' | h'
  · exact h y h'
  · omega
theorem val_zeros (B N : Nat) : val B (List.replicate N 0) = 0 := by
  induction N with
  | zero => rfl
  | succ N ih => rw [List.replicate_succ, val_cons, ih]; simp
theorem Dg.zeros {B : Nat} (hB : 0 < B) (N : Nat) : Dg B (List.replicate N 0) := by
  intro x hx
  rw [List.mem_replicate] at hx
  omega
theorem getD_zeros (N i : Nat) : (List.replicate N 0).getD i 0 = 0 := by
  rw [List.getD_eq_getElem?_getD, List.getElem?_replicate]
  split <;> rfl
/-- A row that was just made. -/
theorem made_win (w : World) (k : IntKind) (e : TypeId) (N : Nat) : Win k e (w.alloc (.cells (madeCells #[.int k 0] N) e)) w.heap.size 0 N (madeCells #[.int k 0] N) (List.replicate N 0) := by
  refine ⟨blk_new _ _ _, by rw [size_madeCells]; omega, by simp, fun i hi => ?_⟩
  rw [Nat.zero_add, ← Array.getElem?_toList, toList_madeCells_one, List.getElem?_replicate, if_pos hi, getD_zeros]
  rfl

/-- One limb of a row of a product. -/
theorem mul_step {B L Lp P Vi xb x y c r : Nat} (h : L + P * c = Vi + xb) (hset : r + P * Lp = L + P * ((x * y + Lp + c) % B)) : r + P * B * ((x * y + Lp + c) / B) = Vi + (xb + P * (x * y)) := by
  have h1 := Nat.div_add_mod (x * y + Lp + c) B
  have h2 : P * ((x * y + Lp + c) % B) + P * B * ((x * y + Lp + c) / B) = P * (x * y + Lp + c) := by
    rw [Nat.mul_assoc, ← Nat.mul_add, Nat.add_comm ((x * y + Lp + c) % B), h1]
  rw [Nat.mul_add, Nat.mul_add] at h2
  omega

set_option maxHeartbeats 2000000 in
theorem mulRows_any (ao ao' : Option Addr) (n cap n' cap' : Nat) (l l' : List Nat) (w : World) (R : Row .u32 B32 w ao n cap l) (R' : Row .u32 B32 w ao' n' cap' l') (hs : n ≤ 40) (hs' : n' ≤ 40) :
    Calls Tryz.prog 81 #[.slice ao n cap, .slice ao' n' cap'] w fun e w' => ∃ a2 c2 L, e = .returned (.slice a2 (n + n') c2) ∧ Row .u32 B32 w' a2 (n + n') c2 L ∧ val B32 L = val B32 l * val B32 l' ∧ Below w.heap.size w w' := by
  have HR := hid R
  have HR' := hid R'
  have HL := hid R.len
  have HL' := hid R'.len
  clear R R'
  obtain ⟨N, hN⟩ : ∃ N, N = n + n' := ⟨_, rfl⟩
  have hmk := fun wx => run_make_row' (P := Tryz.prog) 38 92 (.int .u32 0) 4 Tryz.underlying38 info_u32 rfl .i64 .i64 N (by omega) (by omega) wx
  rw [show ((N : Nat) : Int) = (n : Int) + n' by omega] at hmk
  have hN1 : n + n' ≤ N := by omega
  have hN2 : N ≤ n + n' := by omega
  have HN := hid hN
  clear hN
  go_enter Tryz.func81, Tryz.ntmps81
  go_wp2
  have hW0 := made_win w .u32 92 N
  have hb0 := Ba w (.cells (madeCells #[.int .u32 0] N) 92)
  obtain ⟨g, hg⟩ : ∃ g, g = w.heap.size := ⟨_, rfl⟩
  rw [← hg] at hW0
  generalize hWW : w.alloc (.cells (madeCells #[.int .u32 0] N) 92) = W0 at *
  generalize madeCells #[.int .u32 0] N = cur at *
  have HW0 := hid hW0
  have HB0 := hid hb0
  have HG := hid hg
  rw [← hg]
  clear hmk hWW hW0 hb0 hg
  go_loopw [20] (fun i wr => ∃ k : Nat, ∃ L : List Nat, k ≤ n ∧ i = .int .i64 k ∧ Hid (Onto .u32 92 g 0 N W0 wr cur L ∧ Dg B32 L ∧ val B32 L = val B32 (l.take k) * val B32 l' ∧ ∀ p, k + n' ≤ p → L.getD p 0 = 0)) (fun i _ => n - (intOf i).toNat)
  case atStart => exact ⟨0, List.replicate N 0, Nat.zero_le _, rfl, HW0.out.onto, Dg.zeros (by decide) N, by rw [val_zeros]; simp [val], fun p _ => getD_zeros _ _⟩
  case round =>
    obtain ⟨k, L, hk, rfl, hI⟩ := hrel
    by_cases hlt : k < n
    · obtain ⟨wo, rfl⟩ : ∃ wo : World, wo = wr := ⟨_, rfl⟩
      obtain ⟨b, o, rfl, hl, hc⟩ := HR.out.rd.some (by rw [HL.out]; omega)
      obtain ⟨x, hx⟩ : ∃ x, x = l.getD k 0 := ⟨_, rfl⟩
      have hxb : x < 4294967296 := by rw [hx]; exact HR.out.dg.getD _ (by rw [HL.out]; exact hlt)
      have hcx : wo.cell? ⟨b, o + k, none⟩ = some (.int .u32 x) := by
        rw [hI.out.1.other (by rw [HG.out]; omega), HB0.out.cell (p := ⟨b, o + k, none⟩) hl, hc k (by rw [HL.out]; exact hlt), hx]
      have HX := hid hx
      clear hc hx
      go_wp2
      go_loopw [8, 27] (fun c i wr => ∃ j cc : Nat, ∃ M : List Nat, j ≤ n' ∧ i = .int .i64 j ∧ c = .int .u64 cc ∧ cc < 4294967296 ∧ Hid (Onto .u32 92 g 0 N W0 wr cur M ∧ Dg B32 M ∧ val B32 M + B32 ^ (k + j) * cc = val B32 (l.take k) * val B32 l' + B32 ^ k * (x * val B32 (l'.take j)) ∧ ∀ p, k + n' ≤ p → M.getD p 0 = 0)) (fun _ i _ => n' - (intOf i).toNat)
      case atStart => exact ⟨0, 0, L, Nat.zero_le _, rfl, rfl, by omega, hI.out.1, hI.out.2.1, by rw [hI.out.2.2.1]; simp [val], hI.out.2.2.2⟩
      case round =>
        obtain ⟨j, cc, M, hj, rfl, rfl, hcc, hJ⟩ := hrel
        have hML := hJ.out.1.len
        by_cases hjlt : j < n'
        · obtain ⟨b', o', rfl, hl', hc'⟩ := HR'.out.rd.some (by rw [HL'.out]; omega)
          obtain ⟨y, hy⟩ : ∃ y, y = l'.getD j 0 := ⟨_, rfl⟩
          have hyb : y < 4294967296 := by rw [hy]; exact HR'.out.dg.getD _ (by rw [HL'.out]; exact hjlt)
          have hcy : wr.cell? ⟨b', o' + j, none⟩ = some (.int .u32 y) := by
            rw [hJ.out.1.other (by rw [HG.out]; omega), HB0.out.cell (p := ⟨b', o' + j, none⟩) hl', hc' j (by rw [HL'.out]; exact hjlt), hy]
          obtain ⟨z, hz⟩ : ∃ z, z = M.getD (k + j) 0 := ⟨_, rfl⟩
          have hzb : z < 4294967296 := by rw [hz]; exact hJ.out.2.1.getD _ (by rw [hML]; omega)
          have hcz : wr.cell? ⟨g, k + j, none⟩ = some (.int .u32 z) := by
            have := hJ.out.1.cell (i := k + j) (by omega)
            rw [Nat.zero_add, ← hz] at this
            exact this
          have hfz : wr.frozen? ⟨g, k + j, none⟩ = false := hJ.out.1.frozen _
          have HY := hid hy
          have HZ := hid hz
          have HML := hid hML
          clear hy hz hc' hML
          have hb : x * y + z + cc ≤ 18446744073709551615 := by
            have : x * y ≤ 4294967295 * 4294967295 := Nat.mul_le_mul (by omega) (by omega)
            omega
          obtain ⟨t, ht⟩ : ∃ t, t = x * y + z + cc := ⟨_, rfl⟩
          have HT := hid ht
          clear ht
          go_wp2
          have e1 : ((x : Int) * y + z + cc) / 4294967296 = ((t / 4294967296 : Nat) : Int) := by rw [HT.out]; omega
          have e2 : ((x : Int) * y + z + cc) % 4294967296 = ((t % 4294967296 : Nat) : Int) := by rw [HT.out]; omega
          rw [e1, e2]
          obtain ⟨j1, j2, j3, j4⟩ := hJ.out
          refine ⟨⟨j + 1, t / 4294967296, M.set (k + j) (t % 4294967296), by omega, by go_num, rfl, ?_, ?_, ?_, ?_, ?_⟩, by simp [intOf]; omega⟩
          · rw [HT.out]; omega
          · have := j1.store (i := k + j) (by omega) (t % 4294967296)
            rw [Nat.zero_add] at this
            exact this
          · exact j2.set (Nat.mod_lt _ (by decide))
          · have hset := val_set (B := B32) (L := M) (p := k + j) (x := t % B32) (by rw [HML.out]; omega)
            rw [← HZ.out, HT.out] at hset
            have h1 := mul_step j3 hset
            rw [val_take_succ B32 l' j (by rw [HL'.out]; exact hjlt), ← HY.out, ← Nat.add_assoc k j 1, Nat.pow_succ, HT.out]
            have h2 : B32 ^ k * (x * (val B32 (l'.take j) + B32 ^ j * y)) = B32 ^ k * (x * val B32 (l'.take j)) + B32 ^ (k + j) * (x * y) := by
              rw [Nat.mul_add, Nat.mul_add, Nat.pow_add, Nat.mul_assoc, Nat.mul_left_comm x]
            rw [h2]
            exact h1
          · intro p hp
            rw [getD_set (by rw [HML.out]; omega), if_neg (by omega)]
            exact j4 p hp
        · obtain rfl : j = n' := by omega
          have hcz : wr.cell? ⟨g, k + j, none⟩ = some (.int .u32 0) := by
            have := hJ.out.1.cell (i := k + j) (by omega)
            rw [Nat.zero_add, hJ.out.2.2.2 (k + j) (Nat.le_refl _)] at this
            exact this
          have hfz : wr.frozen? ⟨g, k + j, none⟩ = false := hJ.out.1.frozen _
          have HML := hid hML
          clear hML
          go_wp2
          obtain ⟨j1, j2, j3, j4⟩ := hJ.out
          refine ⟨⟨k + 1, M.set (k + j) cc, by omega, by go_num, ?_, ?_, ?_, ?_⟩, by simp [intOf]; omega⟩
          · have := j1.store (i := k + j) (by omega) cc
            rw [Nat.zero_add] at this
            exact this
          · exact j2.set hcc
          · have hset := val_set (B := B32) (L := M) (p := k + j) (x := cc) (by rw [HML.out]; omega)
            rw [j4 (k + j) (Nat.le_refl _), j3, List.take_of_length_le (l := l') (i := j) (by rw [HL'.out]; exact Nat.le_refl _)] at hset
            rw [val_take_succ B32 l k (by rw [HL.out]; exact hlt), ← HX.out, Nat.add_mul, Nat.mul_assoc]
            simpa using hset
          · intro p hp
            rw [getD_set (by rw [HML.out]; omega), if_neg (by omega)]
            exact j4 p (by omega)
    · obtain rfl : k = n := by omega
      go_wp2
      go_ret
      obtain ⟨i1, i2, i3, i4⟩ := hI.out
      rw [List.take_of_length_le (by rw [HL.out]; omega)] at i3
      refine ⟨some ⟨g, 0, none⟩, N, L, ?_, ?_, i3, HB0.out.trans (i1.below (by rw [HG.out]; exact Nat.le_refl _))⟩
      · rw [← HN.out]; rfl
      · rw [← HN.out]; exact i1.row_ i2 (Nat.le_refl _) (by unfold maxLen; omega)

/-- What fitting answers: the integer, or that it is too big. -/
def FitPost (w : World) (neg : Bool) (v : Nat) (e : Ending) (w' : World) : Prop := ∃ x en, e = .returned (.tuple #[x, .int .i64 en]) ∧ Ans w' x en neg v ∧ Below w.heap.size w w'

set_option maxHeartbeats 1000000 in
theorem fitting_any (neg : Bool) (ao : Option Addr) (n cap : Nat) (l : List Nat) (w : World) (R : Row .u32 B32 w ao n cap l) :
    Calls Tryz.prog 77 #[.bool neg, .slice ao n cap] w (FitPost w neg (val B32 l)) := by
  have HR := hid R
  clear R
  go_enter Tryz.func77, Tryz.ntmps77
  go_wp2_with fail
  refine (whole_any neg ao n cap l _ (HR.out.below (Ba _ _))).mono ?_
  rintro e w1 ⟨x, lr, rfl, hI, htr, hvr, hlr, hb1⟩
  obtain ⟨ax, nx, cx, sg, rfl, HSG, Rx⟩ := hI.open_
  have X := hid ((Box.new 40 w false none 0 0).on hb1)
  have HB := hid (Bt (Ba w (.cells #[.bool false, .slice none 0 0] 40)) hb1)
  have HT := hid htr
  have HV := hid hvr
  have HRx := hid Rx
  have hmx := Rx.most
  have hft := Rx.fits
  unfold maxLen at hmx
  have hlt : w.heap.size < w1.heap.size := X.out.lt
  obtain ⟨q0, q1⟩ := X.out.c
  obtain ⟨f0, f1⟩ := X.out.f
  clear hI htr hvr hb1 Rx HR
  by_cases h40 : nx ≤ 40
  · have e40 : decide ((40 : Int) < nx) = false := by simp; omega
    go_wp2
    have hbx := box_set2_cells X.out sg (.slice ax nx cx) (.cells #[.bool sg, .slice ax nx cx] 40)
    refine bodyPost_ret (v := .tuple #[.agg #[.bool sg, .slice ax nx cx], .int .i64 0]) (by simp [results, Tryz.results77, go_sem, hbx.1, hbx.2]) rfl ⟨_, _, rfl, .inl ⟨?_, rfl, lr, ⟨ax, nx, cx, ?_, (HRx.out.setBox2 X.out _ _).below (Ba _ _)⟩, HT.out, HV.out⟩, ((HB.out.setCell (Nat.le_refl _) _).setCell (Nat.le_refl _) _).alloc (by simp [World.setCell]; omega) _⟩
    · rw [← HV.out, ← small_len HRx.out.dg HT.out, HRx.out.len]; exact h40
    · rw [HSG.out]
  · have e40 : decide ((40 : Int) < nx) = true := by simp; omega
    go_wp2
    have hbx := box_set2_cells X.out false (.slice none 0 0) (.cells #[.bool sg, .slice ax nx cx] 40)
    refine bodyPost_ret (v := .tuple #[.agg #[.bool false, .slice none 0 0], .int .i64 10]) (by simp [results, Tryz.results77, go_sem, hbx.1, hbx.2]) rfl ⟨_, _, rfl, .inr ⟨?_, rfl, rfl⟩, ((HB.out.setCell (Nat.le_refl _) _).setCell (Nat.le_refl _) _).alloc (by simp [World.setCell]; omega) _⟩
    have := small_len HRx.out.dg HT.out
    rw [HRx.out.len, HV.out] at this
    exact Classical.byContradiction fun h => h40 (this.2 h)

end Go.Proofs.YtdekkieajffblaaGreat
