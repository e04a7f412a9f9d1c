import Derived.Test.YtbkfinjajkjhaaaGreatDoorG2
import Derived.Test.YtbkfinjajkjhaaaGreatDoorW13
import Derived.Test.YtbkfinjajkjhaaaGreatDoorLX24
set_option linter.unusedVariables false
set_option linter.unusedSimpArgs false
namespace Go.Proofs.YtbkfinjajkjhaaaGreatDoor
open Go.RowKit
theorem dgt_chr {d : Nat} (h : d < 36) : dgt (chr d) = d := by
 unfold dgt chr
 by_cases h1 : d < 10
 ·rw [if_pos h1, if_pos (by omega)]; omega
 ·rw [if_neg h1, if_neg (by omega), if_pos (by omega)]; omega
theorem hv_rev (radix : Nat) : ∀ {D : List Nat}, (∀ x ∈ D, x < 36) -> hv radix ((D.map chr).reverse) = val radix D
 | [], _ => rfl
 | d :: D, h => by
  rw [List.map_cons, List.reverse_cons, hv_snoc, hv_rev radix (fun x hx => h x (by simp [hx])), dgt_chr (h d (by simp)), val_cons, Nat.mul_comm]
  omega
theorem hv_zeros (radix k : Nat) : hv radix (List.replicate k 48) = 0 := by
 induction k with
 | zero => rfl
 | succ k ih => rw [List.replicate_succ', hv_snoc, ih]; simp [dgt]
theorem hv_append (radix : Nat) (a b : List Nat) (h : hv radix a = 0) : hv radix (a ++ b) = hv radix b := by
 unfold hv at *
 rw [List.foldl_append, h]
def body (D : List Nat) : List Nat := if D = [] then [48] else (D.map chr).reverse
theorem body_val {radix : Nat} {D : List Nat} (h : Dg radix D) (hr : radix <= 36) : hv radix (body D) = val radix D := by
 unfold body
 by_cases hD : D = []
 ·subst hD; simp [hv, dgt, val]
 ·rw [if_neg hD]; exact hv_rev radix (fun x hx => by have := h x hx; omega)
theorem body_digits {radix : Nat} {D : List Nat} (h : Dg radix D) (h2 : 2 <= radix) (hr : radix <= 36) : ∀ c ∈ body D, dgt c < radix := by
 unfold body
 by_cases hD : D = []
 ·subst hD
  intro c hc
  simp at hc
  subst hc
  simp [dgt]; omega
 ·rw [if_neg hD]
  intro c hc
  rw [List.mem_reverse] at hc
  obtain ⟨d, hd, rfl⟩ := List.mem_map.1 hc
  have := h d hd
  rw [dgt_chr (by omega)]; exact this
theorem body_ne (D : List Nat) : body D ≠ [] := by
 unfold body
 by_cases hD : D = []
 ·simp [hD]
 ·simp [hD]
theorem zeros_body {radix : Nat} {D : List Nat} (h : Dg radix D) (h2 : 2 <= radix) (hr : radix <= 36) (k : Nat) :
  digitsB (radix : Int) (List.replicate k 48 ++ body D) = true /\ hv radix (List.replicate k 48 ++ body D) = val radix D := by
 refine ⟨?_, by rw [hv_append _ _ _ (hv_zeros radix k), body_val h hr]⟩
 unfold digitsB
 rw [Bool.and_eq_true]
 refine ⟨?_, by simp; exact Or.inr (body_ne D)⟩
 rw [List.all_eq_true]
 intro c hc
 rcases List.mem_append.1 hc with hc | hc
 ·have := List.eq_of_mem_replicate hc
  subst this
  simp [dgt]; omega
 ·have := body_digits h h2 hr c hc
  simp; exact this
end Go.Proofs.YtbkfinjajkjhaaaGreatDoor
set_option maxRecDepth 100000
namespace Go.Proofs.YtbkfinjajkjhaaaGreatDoor
theorem dgF_fuelb {b : Nat} (hb : 2 <= b) : ∀ (f g v : Nat), v <= f -> v <= g -> dgF b f v = dgF b g v
 | 0, 0, v, _, _ => rfl
 | 0, g + 1, v, h, _ => by
  obtain rfl : v = 0 := by omega
  rfl
 | f + 1, 0, v, _, h => by
  obtain rfl : v = 0 := by omega
  rfl
 | f + 1, g + 1, v, h1, h2 => by
  unfold dgF
  by_cases h : v = 0
  ·rw [if_pos h, if_pos h]
  ·have hlt : v / b < v := Nat.div_lt_self (by omega) (by omega)
   rw [if_neg h, if_neg h, dgF_fuelb hb f g (v / b) (by omega) (by omega)]
theorem dgs_step {b v : Nat} (hb : 2 <= b) (h : v ≠ 0) : dgs b v = v % b :: dgs b (v / b) := by
 have hlt : v / b < v := Nat.div_lt_self (by omega) (by omega)
 unfold dgs
 obtain ⟨m, rfl⟩ : ∃ m, v = m + 1 := ⟨v - 1, by omega⟩
 conv => lhs; unfold dgF
 rw [if_neg (by omega), dgF_fuelb hb m ((m + 1) / b) ((m + 1) / b) (by omega) (Nat.le_refl _)]
theorem dgs_zero (b : Nat) : dgs b 0 = [] := rfl
theorem dgs_len {b : Nat} (hb : 2 <= b) : ∀ (k v : Nat), v < b ^ k -> (dgs b v).length <= k
 | 0, v, h => by
  obtain rfl : v = 0 := by simpa using h
  exact Nat.le_refl _
 | k + 1, v, h => by
  by_cases hv : v = 0
  ·subst hv; exact Nat.zero_le _
  ·rw [dgs_step hb hv, List.length_cons]
   have : v / b < b ^ k := by
    rw [Nat.div_lt_iff_lt_mul (by omega)]
    rw [Nat.pow_succ] at h
    exact h
   have := dgs_len hb k (v / b) this
   omega
theorem rad_body {b v : Nat} (hb : 2 <= b) : radL b false v = body (dgs b v) := by
 unfold radL body
 by_cases hv : v = 0
 ·subst hv; rw [if_pos rfl, if_pos (dgs_zero b)]
 ·rw [if_neg hv, if_neg (show ¬ dgs b v = [] from (dgF_ok hb v v (Nat.le_refl _)).2.2.2 hv)]; rfl
theorem dgs_ok {b : Nat} (hb : 2 <= b) (v : Nat) : Dg b (dgs b v) /\ val b (dgs b v) = v := by
 obtain ⟨h1, _, h3, _⟩ := dgF_ok hb v v (Nat.le_refl _)
 exact ⟨h1, h3⟩
theorem rad_is {b v : Nat} (hb : 2 <= b) (hb2 : b <= 36) : digitsB (b : Int) (radL b false v) = true /\ hv b (radL b false v) = v := by
 obtain ⟨h1, h3⟩ := dgs_ok hb v
 have := zeros_body h1 hb hb2 0
 rw [List.replicate_zero, List.nil_append, <- rad_body hb, h3] at this
 exact this
theorem rad_len {b : Nat} (hb : 2 <= b) {k v : Nat} (h : v < b ^ (k + 1)) : (radL b false v).length <= k + 1 := by
 rw [rad_body hb]
 have := dgs_len hb (k + 1) v h
 unfold body
 split
 ·simp
 ·rw [List.length_reverse, List.length_map]; exact this
theorem letB_rng' {c : Nat} (h : letB (c : Int) = true) : c <= 1114111 := by
 unfold letB at h
 simp only [Bool.and_eq_true, Bool.or_eq_true, decide_eq_true_eq] at h
 omega
theorem hx_numH {n : Nat} (h : letB (n : Int) = true) : numH (hx n) = some n := by
 have h1 := letB_rng' h
 have h2 := hx_len 5 n (by omega)
 have h3 := hx_pos n
 obtain ⟨h4, h5⟩ := rad_is (b := 16) (v := n) (by omega) (by omega)
 have h4 : digitsB 16 (hx n) = true := h4
 have h5 : hv 16 (hx n) = n := h5
 unfold numH
 rw [h5, if_pos ⟨⟨h3, h2⟩, h4, h⟩]
def chL (n : Nat) : List Nat :=
 if n = 32 then [35, 92, 115, 112, 97, 99, 101] else if n = 10 then [35, 92, 110, 101, 119, 108, 105, 110, 101]
 else if n = 9 then [35, 92, 116, 97, 98] else if n = 13 then [35, 92, 114, 101, 116, 117, 114, 110] else if n = 0 then [35, 92, 110, 117, 108, 108]
 else if 33 <= n /\ n <= 126 then [35, 92, n] else 35 :: 92 :: 120 :: hx n
theorem tk_of_char {r : List Nat} {y : Nat × Nat} (h0 : r.getD 0 0 = 35) (h1 : r.getD 1 0 = 92) (hl : 2 <= r.length) (h : charM r = some y) : tkM r = some ((12, (y.1 : Nat), ⟨#[]⟩, y.2) : Tkn) := by
 have hb : hasB r [35, 92] = true := by rw [hasB_two0]; exact decide_eq_true ⟨hl, h0, h1⟩
 unfold tkM
 rw [h0, if_neg (by decide), if_neg (by decide), if_neg (by decide), if_neg (by decide), if_pos rfl]
 unfold hashM
 rw [no_two (by rw [h1]; decide), no_four (by rw [h1]; decide), if_neg (by decide), if_neg (by decide), no_two (by rw [h1]; decide), if_neg (by decide), if_pos hb, h]
 rfl
theorem char_one : ∀ k : Fin 94, charM [35, 92, k.val + 33] = some (k.val + 33, 3) := by decide +kernel
theorem hx_dg (n : Nat) : Dg 256 (hx n) := fun c hc => Nat.lt_trans (hx_low n n (Nat.le_refl _) c hc).1 (by decide)
theorem hx_free {n j : Nat} (hj : j < (hx n).length) : dlmB ((hx n).getD j 0) = false := by
 rw [List.getD_eq_getElem?_getD, List.getElem?_eq_getElem hj]
 have := (hx_low n n (Nat.le_refl _) _ (List.getElem_mem hj)).2
 show dlmB ((hx n)[j]) = false
 generalize (hx n)[j] = c at *
 unfold dlmB blkB
 simp
 omega
theorem char_hex {n : Nat} (h : letB (n : Int) = true) : charM (35 :: 92 :: 120 :: hx n) = some (n, 3 + (hx n).length) := by
 have hp := hx_pos n
 have hd : Dg 256 (120 :: hx n) := fun c hc => by
  rcases List.mem_cons.1 hc with rfl | hc
  ·decide
  ·exact hx_dg n c hc
 have hr : runeL (120 :: hx n) = (120, 1) := by
  rw [runeL_dec hd, decN_low (show (120 :: hx n).getD 0 0 < 128 by show 120 < 128; decide)]; rfl
 have hw : wordN (hx n) = (hx n).length := wordN_of _ _ (Nat.le_refl _) (fun j hj => hx_free hj) (.inl rfl)
 have hlm : letM (120 :: hx n) = some n := by
  have ne : ∀ (c : Nat) (t : List Nat), c ≠ 120 -> 120 :: hx n ≠ c :: t := fun c t hc e => hc (List.cons.inj e).1.symm
  unfold letM
  rw [if_neg (List.cons_ne_nil _ _), hr, if_neg (by rw [List.length_cons]; omega), if_neg (ne _ _ (by decide)), if_neg (ne _ _ (by decide)), if_neg (ne _ _ (by decide)), if_neg (ne _ _ (by decide)), if_neg (ne _ _ (by decide)), if_pos (show (120 :: hx n).getD 0 0 = 120 from rfl)]
  exact hx_numH h
 unfold charM
 rw [if_neg (by simp)]
 show (letM ((120 :: hx n).take ((runeL (120 :: hx n)).2 + wordN ((35 :: 92 :: 120 :: hx n).drop (2 + (runeL (120 :: hx n)).2))))).map (fun n' => (n', 2 + (runeL (120 :: hx n)).2 + wordN ((35 :: 92 :: 120 :: hx n).drop (2 + (runeL (120 :: hx n)).2)))) = _
 rw [hr]
 show (letM ((120 :: hx n).take (1 + wordN (hx n)))).map (fun n' => (n', 2 + 1 + wordN (hx n))) = _
 rw [hw, List.take_of_length_le (by rw [List.length_cons]; omega), hlm]
 rfl
theorem tk_char {n : Nat} (h : letB (n : Int) = true) : tkM (chL n) = some ((12, (n : Nat), ⟨#[]⟩, (chL n).length) : Tkn) := by
 unfold chL
 by_cases c1 : n = 32
 ·subst c1; kernel_rfl
 rw [if_neg c1]
 by_cases c2 : n = 10
 ·subst c2; kernel_rfl
 rw [if_neg c2]
 by_cases c3 : n = 9
 ·subst c3; kernel_rfl
 rw [if_neg c3]
 by_cases c4 : n = 13
 ·subst c4; kernel_rfl
 rw [if_neg c4]
 by_cases c5 : n = 0
 ·subst c5; kernel_rfl
 rw [if_neg c5]
 by_cases c6 : 33 <= n /\ n <= 126
 ·rw [if_pos c6]
  have := char_one ⟨n - 33, by omega⟩
  simp only [show n - 33 + 33 = n by omega] at this
  exact tk_of_char rfl rfl (by simp) this
 ·rw [if_neg c6]
  have := tk_of_char (r := 35 :: 92 :: 120 :: hx n) rfl rfl (by simp) (char_hex h)
  rw [this]
  simp only [List.length_cons]
  rw [show 3 + (hx n).length = (hx n).length + 1 + 1 + 1 by omega]
theorem chL_low {n : Nat} : ∀ c ∈ chL n, c < 128 := by
 have key : ∀ l : List Nat, l.all (fun c => decide (c < 128)) = true -> ∀ c ∈ l, c < 128 := fun l h c hc => of_decide_eq_true (List.all_eq_true.1 h c hc)
 unfold chL
 by_cases c1 : n = 32
 ·rw [if_pos c1]; exact key _ (by decide)
 rw [if_neg c1]
 by_cases c2 : n = 10
 ·rw [if_pos c2]; exact key _ (by decide)
 rw [if_neg c2]
 by_cases c3 : n = 9
 ·rw [if_pos c3]; exact key _ (by decide)
 rw [if_neg c3]
 by_cases c4 : n = 13
 ·rw [if_pos c4]; exact key _ (by decide)
 rw [if_neg c4]
 by_cases c5 : n = 0
 ·rw [if_pos c5]; exact key _ (by decide)
 rw [if_neg c5]
 by_cases c6 : 33 <= n /\ n <= 126
 ·rw [if_pos c6]
  intro c hc
  simp at hc
  omega
 ·rw [if_neg c6]
  intro c hc
  simp only [List.mem_cons] at hc
  rcases hc with rfl | rfl | rfl | hc
  ·decide
  ·decide
  ·decide
  ·exact (hx_low n n (Nat.le_refl _) c hc).1
theorem chL_len {n : Nat} (h : letB (n : Int) = true) : 3 <= (chL n).length /\ (chL n).length <= 9 := by
 have h2 := hx_len 5 n (by have := letB_rng' h; omega)
 have hp := hx_pos n
 unfold chL
 repeat' split
 all_goals first
  | (simp; done)
  | (simp only [List.length_cons]; omega)
theorem low_vd : ∀ {l : List Nat}, (∀ c ∈ l, c < 128) -> Vd l
 | [], _ => .nil
 | c :: l, h => (vd_cons (h c List.mem_cons_self)).2 (low_vd (fun x hx => h x (List.mem_cons_of_mem _ hx)))
theorem low_dg {l : List Nat} (h : ∀ c ∈ l, c < 128) : Dg 256 l := fun c hc => Nat.lt_trans (h c hc) (by decide)
def lbL (n c : Nat) : List Nat := 35 :: (radL 10 false n ++ [c])
end Go.Proofs.YtbkfinjajkjhaaaGreatDoor
