/-
  Walks, of the document's answer: Cmp, Same; the statements' own: good, same.
-/
import Derived.Test.YtdekkieajffblaaW5
import Derived.Deep.RegionHeld3
set_option linter.unusedVariables false
set_option linter.unusedSimpArgs false
namespace Go.Proofs.Ytdekkieajffblaa
open Go.RowKit

/-- How two integers stand. -/
def cmpR (neg neg' : Bool) (x y : Nat) : Int := if neg = neg' then (if neg then - cmpN x y else cmpN x y) else (if neg then -1 else 1)
theorem cmpR_ne {neg neg' : Bool} (x y : Nat) (h : neg ≠ neg') : cmpR neg neg' x y = if neg then -1 else 1 := by simp [cmpR, h]
theorem cmpR_eq (neg : Bool) (x y : Nat) : cmpR neg neg x y = if neg then - cmpN x y else cmpN x y := by simp [cmpR]
theorem cmpN_bd (x y : Nat) : -1 ≤ cmpN x y ∧ cmpN x y ≤ 1 := by unfold cmpN; split <;> (try split) <;> omega

/-- Two boxes of a call lie as they were made, and nothing older has turned. -/
def Two (W : World) (p q : Nat) (neg neg' : Bool) (ao ao' : Option Addr) (n cap n' cap' : Nat) (wx : World) : Prop :=
  wx.cell? ⟨p, 0, none⟩ = some (.bool neg) ∧ wx.cell? ⟨p, 1, none⟩ = some (.slice ao n cap) ∧ wx.cell? ⟨q, 0, none⟩ = some (.bool neg') ∧ wx.cell? ⟨q, 1, none⟩ = some (.slice ao' n' cap') ∧ Below W.heap.size W wx
theorem cell_lt {w : World} {b i : Nat} {v : Value} (h : w.cell? ⟨b, i, none⟩ = some v) : b < w.heap.size := World.block_lt_of_cell? w ⟨b, i, none⟩ h
theorem two_on {W wx wy : World} {p q : Nat} {neg neg' : Bool} {ao ao' : Option Addr} {n cap n' cap' : Nat}
    (h : wx.cell? ⟨p, 0, none⟩ = some (.bool neg) ∧ wx.cell? ⟨p, 1, none⟩ = some (.slice ao n cap) ∧ wx.cell? ⟨q, 0, none⟩ = some (.bool neg') ∧ wx.cell? ⟨q, 1, none⟩ = some (.slice ao' n' cap') ∧ Below W.heap.size W wx) (hb : Below wx.heap.size wx wy) :
    wy.cell? ⟨p, 0, none⟩ = some (.bool neg) ∧ wy.cell? ⟨p, 1, none⟩ = some (.slice ao n cap) ∧ wy.cell? ⟨q, 0, none⟩ = some (.bool neg') ∧ wy.cell? ⟨q, 1, none⟩ = some (.slice ao' n' cap') ∧ Below W.heap.size W wy := by
  obtain ⟨h1, h2, h3, h4, h5⟩ := h
  exact ⟨(hb.cell (p := ⟨p, 0, none⟩) (cell_lt h1)).trans h1, (hb.cell (p := ⟨p, 1, none⟩) (cell_lt h1)).trans h2, (hb.cell (p := ⟨q, 0, none⟩) (cell_lt h3)).trans h3, (hb.cell (p := ⟨q, 1, none⟩) (cell_lt h3)).trans h4, Bt h5 hb⟩
theorem two_start (w : World) (neg neg' : Bool) (ao ao' : Option Addr) (n cap n' cap' : Nat) (t : TypeId) :
    ∀ W, W = ((w.alloc (.cells #[.bool neg, .slice ao n cap] t)).alloc (.cells #[.bool neg', .slice ao' n' cap'] t)) →
    W.cell? ⟨w.heap.size, 0, none⟩ = some (.bool neg) ∧ W.cell? ⟨w.heap.size, 1, none⟩ = some (.slice ao n cap) ∧ W.cell? ⟨w.heap.size + 1, 0, none⟩ = some (.bool neg') ∧ W.cell? ⟨w.heap.size + 1, 1, none⟩ = some (.slice ao' n' cap') ∧ Below W.heap.size W W := by
  intro W hW
  subst hW
  refine ⟨?_, ?_, ?_, ?_, Below.refl _ _⟩ <;> simp
theorem two_bel {W wx : World} {p q : Nat} {neg neg' : Bool} {ao ao' : Option Addr} {n cap n' cap' : Nat}
    (h : wx.cell? ⟨p, 0, none⟩ = some (.bool neg) ∧ wx.cell? ⟨p, 1, none⟩ = some (.slice ao n cap) ∧ wx.cell? ⟨q, 0, none⟩ = some (.bool neg') ∧ wx.cell? ⟨q, 1, none⟩ = some (.slice ao' n' cap') ∧ Below W.heap.size W wx) : Below W.heap.size W wx := h.2.2.2.2
theorem two_drew {W wx : World} {p q : Nat} {neg neg' : Bool} {ao ao' : Option Addr} {n cap n' cap' : Nat}
    (h : wx.cell? ⟨p, 0, none⟩ = some (.bool neg) ∧ wx.cell? ⟨p, 1, none⟩ = some (.slice ao n cap) ∧ wx.cell? ⟨q, 0, none⟩ = some (.bool neg') ∧ wx.cell? ⟨q, 1, none⟩ = some (.slice ao' n' cap') ∧ Below W.heap.size W wx) :
    wx.drew.cell? ⟨p, 0, none⟩ = some (.bool neg) ∧ wx.drew.cell? ⟨p, 1, none⟩ = some (.slice ao n cap) ∧ wx.drew.cell? ⟨q, 0, none⟩ = some (.bool neg') ∧ wx.drew.cell? ⟨q, 1, none⟩ = some (.slice ao' n' cap') ∧ Below W.heap.size W wx.drew :=
  two_on h (Bd wx 1)

theorem rsize_bel (ao ao' : Option Addr) (n cap n' cap' : Nat) (l l' : List Nat) (w : World) (R : Row .u8 256 w ao n cap l) (R' : Row .u8 256 w ao' n' cap' l') (t : Tr l) (t' : Tr l') :
    Calls Try.prog 52 #[.slice ao n cap, .slice ao' n' cap'] w fun e w' => e = .returned (.int .i64 (cmpN (val 256 l) (val 256 l'))) ∧ Below w.heap.size w w' :=
  (rsize_any ao ao' n cap n' cap' l l' w R R' t t').mono fun e w' ⟨h1, k, h2⟩ => ⟨h1, h2 ▸ Bd w k⟩

set_option maxHeartbeats 2000000 in
theorem rcmp_any (neg neg' : Bool) (ao ao' : Option Addr) (n cap n' cap' : Nat) (l l' : List Nat) (w : World) (R : Row .u32 B32 w ao n cap l) (R' : Row .u32 B32 w ao' n' cap' l') (hs : n ≤ 100) (hs' : n' ≤ 100) :
    Calls Try.prog 56 #[.agg #[.bool neg, .slice ao n cap], .agg #[.bool neg', .slice ao' n' cap']] w fun e w' => e = .returned (.int .i64 (cmpR neg neg' (val B32 l) (val B32 l'))) ∧ Below w.heap.size w w' := by
  by_cases hne : neg = neg'
  · subst hne
    have e0 : (neg != neg) = false := by simp
    have HR := hid R
    have HR' := hid R'
    clear R R'
    go_enter Try.func56, Try.ntmps56
    go_wp2
    have hS := two_start w neg neg ao ao' n cap n' cap' 24 _ rfl
    have hbW := Baa w (.cells #[.bool neg, .slice ao n cap] 24) (.cells #[.bool neg, .slice ao' n' cap'] 24)
    generalize hW : ((w.alloc (.cells #[.bool neg, .slice ao n cap] 24)).alloc (.cells #[.bool neg, .slice ao' n' cap'] 24)) = W at *
    have RW := hid (HR.out.below hbW)
    have RW' := hid (HR'.out.below hbW)
    have HbW := hid hbW
    clear hW hbW
    go_region_held3 (fun wx => wx.cell? ⟨w.heap.size, 0, none⟩ = some (.bool neg) ∧ wx.cell? ⟨w.heap.size, 1, none⟩ = some (.slice ao n cap) ∧ wx.cell? ⟨w.heap.size + 1, 0, none⟩ = some (.bool neg) ∧ wx.cell? ⟨w.heap.size + 1, 1, none⟩ = some (.slice ao' n' cap') ∧ Below W.heap.size W wx)
      (first | exact two_drew hS | exact two_on (by assumption) (by assumption))
      (first
        | (go_at_call_of 50 (Value.slice ao n cap); refine (bytes_any neg ao n cap l _ ?_ hs).mono ?_; (exact RW.out.below (two_bel (p := w.heap.size) (q := w.heap.size + 1) (neg := neg) (neg' := neg) (ao := ao) (ao' := ao') (n := n) (cap := cap) (n' := n') (cap' := cap') (by assumption))); rintro e w1 ⟨m1, ao1, cap1, l1, rfl, hm1, hO1, ht1, hv1, hb1⟩)
        | (go_at_call_of 50 (Value.slice ao' n' cap'); refine (bytes_any neg ao' n' cap' l' _ ?_ hs').mono ?_; (exact RW'.out.below (two_bel (p := w.heap.size) (q := w.heap.size + 1) (neg := neg) (neg' := neg) (ao := ao) (ao' := ao') (n := n) (cap := cap) (n' := n') (cap' := cap') (by assumption))); rintro e w1 ⟨m2, ao2, cap2, l2, rfl, hm2, hO2, ht2, hv2, hb2⟩)
        | (go_at_call 52; refine (rsize_bel ao1 ao2 m1 cap1 m2 cap2 l1 l2 _ (hO1.row.below hb2) hO2.row ht1 ht2).mono ?_; rintro e w3 ⟨rfl, hb3⟩))
    have hbel : Hid (Below w.heap.size w w3) := Bt HbW.out (two_bel (p := w.heap.size) (q := w.heap.size + 1) (neg := neg) (neg' := neg) (ao := ao) (ao' := ao') (n := n) (cap := cap) (n' := n') (cap' := cap') (by assumption))
    have hc : w3.cell? ⟨w.heap.size, 0, none⟩ = some (.bool neg) := by rename_i hh; exact hh.1
    rename_i hh
    have hbd := cmpN_bd (val B32 l) (val B32 l')
    generalize hN : cmpN (val B32 l) (val B32 l') = N at *
    have HN : Hid (cmpR neg neg (val B32 l) (val B32 l') = if neg then - N else N) := by unfold Hid; rw [cmpR_eq, hN]
    clear hh hS hb3 hb2 hb1 hO1 hO2 hv1 hv2 ht1 ht2 hN
    cases neg
    · go_wp2
      go_ret
      exact ⟨ret_i64 (by rw [HN.out]; simp), hbel.out⟩
    · go_wp2
      go_ret
      exact ⟨ret_i64 (by rw [HN.out]; simp), hbel.out⟩
  · have e0 : (neg != neg') = true := by rw [bne_iff_ne]; exact hne
    have HC := hid (cmpR_ne (val B32 l) (val B32 l') hne)
    clear R R'
    cases neg <;> cases neg'
    · exact absurd rfl hne
    · go_enter Try.func56, Try.ntmps56
      go_wp2
      go_ret
      exact ⟨ret_i64 (by rw [HC.out]; simp), Baa _ _ _⟩
    · go_enter Try.func56, Try.ntmps56
      go_wp2
      go_ret
      exact ⟨ret_i64 (by rw [HC.out]; simp), Baa _ _ _⟩
    · exact absurd rfl hne

set_option maxHeartbeats 1000000 in
theorem rsame_any (neg neg' : Bool) (ao ao' : Option Addr) (n cap n' cap' : Nat) (l l' : List Nat) (w : World) (R : Row .u32 B32 w ao n cap l) (R' : Row .u32 B32 w ao' n' cap' l') (hs : n ≤ 100) (hs' : n' ≤ 100) :
    Calls Try.prog 32 #[.agg #[.bool neg, .slice ao n cap], .agg #[.bool neg', .slice ao' n' cap']] w fun e w' => e = .returned (.bool (cmpR neg neg' (val B32 l) (val B32 l') == 0)) ∧ Below w.heap.size w w' := by
  have HR := hid R
  have HR' := hid R'
  clear R R'
  go_enter Try.func32, Try.ntmps32
  go_wp2_with fail
  refine (rcmp_any neg neg' ao ao' n cap n' cap' l l' _ (HR.out.below (Baa _ _ _)) (HR'.out.below (Baa _ _ _)) hs hs').mono ?_
  rintro e w1 ⟨rfl, hb⟩
  have hb' := hid (Bt (Baa w _ _) hb)
  clear hb
  go_wp2
  go_ret
  exact ⟨rfl, hb'.out⟩

def allGood (N : Nat → Bool) (D : Nat → List Nat) (k : Nat) : Bool := (List.range k).all fun i => goodB (N i) (D i)
theorem allGood_succ (N : Nat → Bool) (D : Nat → List Nat) (k : Nat) : allGood N D (k + 1) = (allGood N D k && goodB (N k) (D k)) := by
  simp [allGood, List.range_succ]
theorem allGood_false {N : Nat → Bool} {D : Nat → List Nat} {k i : Nat} (hi : i < k) (h : goodB (N i) (D i) = false) : allGood N D k = false := by
  unfold allGood
  rw [List.all_eq_false]
  exact ⟨i, by simpa using hi, by simp [h]⟩

/-- The statements' own 'same': are two good ones the same? -/
def sameB (neg neg' : Bool) (l l' : List Nat) : Bool := goodB neg l && goodB neg' l' && (neg == neg') && (val B32 l == val B32 l')

theorem cmpR_zero (neg : Bool) (x y : Nat) : (cmpR neg neg x y == 0) = (x == y) := by
  rw [cmpR_eq]
  unfold cmpN
  by_cases h1 : x < y
  · have h2 : (x == y) = false := by simp; omega
    cases neg <;> simp [h1, h2]
  · by_cases h2 : x = y
    · subst h2; cases neg <;> simp
    · have h3 : (x == y) = false := by simp; exact h2
      cases neg <;> simp [h1, h2, h3]

end Go.Proofs.Ytdekkieajffblaa
