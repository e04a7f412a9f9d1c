/-
  Walks, of the document's answer: Cmp, Same; the statements' own: good, same.
-/
import Derived.Test.YtaenegcnobindabW5
import Derived.Deep.RegionHeld3
set_option linter.unusedVariables false
set_option linter.unusedSimpArgs false
namespace Go.Proofs.Ytaenegcnobindab
open Go.RowKit

/-- How two integers stand. -/
def cmpR (neg neg' : Bool) (x y : Nat) : Int := if neg = neg' then (if neg then - cmpN x y else cmpN x y) else (if neg then -1 else 1)
theorem cmpR_ne {neg neg' : Bool} (x y : Nat) (h : neg ≠ neg') : cmpR neg neg' x y = if neg then -1 else 1 := by simp [cmpR, h]
theorem cmpR_eq (neg : Bool) (x y : Nat) : cmpR neg neg x y = if neg then - cmpN x y else cmpN x y := by simp [cmpR]
theorem cmpN_bd (x y : Nat) : -1 ≤ cmpN x y ∧ cmpN x y ≤ 1 := by unfold cmpN; split <;> (try split) <;> omega

/-- Two boxes of a call lie as they were made, and nothing older has turned. -/
def Two (W : World) (p q : Nat) (neg neg' : Bool) (ao ao' : Option Addr) (n cap n' cap' : Nat) (wx : World) : Prop :=
  wx.cell? ⟨p, 0, none⟩ = some (.bool neg) ∧ wx.cell? ⟨p, 1, none⟩ = some (.slice ao n cap) ∧ wx.cell? ⟨q, 0, none⟩ = some (.bool neg') ∧ wx.cell? ⟨q, 1, none⟩ = some (.slice ao' n' cap') ∧ Below W.heap.size W wx
theorem cell_lt {w : World} {b i : Nat} {v : Value} (h : w.cell? ⟨b, i, none⟩ = some v) : b < w.heap.size := World.block_lt_of_cell? w ⟨b, i, none⟩ h
theorem two_on {W wx wy : World} {p q : Nat} {neg neg' : Bool} {ao ao' : Option Addr} {n cap n' cap' : Nat}
    (h : wx.cell? ⟨p, 0, none⟩ = some (.bool neg) ∧ wx.cell? ⟨p, 1, none⟩ = some (.slice ao n cap) ∧ wx.cell? ⟨q, 0, none⟩ = some (.bool neg') ∧ wx.cell? ⟨q, 1, none⟩ = some (.slice ao' n' cap') ∧ Below W.heap.size W wx) (hb : Below wx.heap.size wx wy) :
    wy.cell? ⟨p, 0, none⟩ = some (.bool neg) ∧ wy.cell? ⟨p, 1, none⟩ = some (.slice ao n cap) ∧ wy.cell? ⟨q, 0, none⟩ = some (.bool neg') ∧ wy.cell? ⟨q, 1, none⟩ = some (.slice ao' n' cap') ∧ Below W.heap.size W wy := by
  obtain ⟨h1, h2, h3, h4, h5⟩ := h
  exact ⟨(hb.cell (p := ⟨p, 0, none⟩) (cell_lt h1)).trans h1, (hb.cell (p := ⟨p, 1, none⟩) (cell_lt h1)).trans h2, (hb.cell (p := ⟨q, 0, none⟩) (cell_lt h3)).trans h3, (hb.cell (p := ⟨q, 1, none⟩) (cell_lt h3)).trans h4, Bt h5 hb⟩
theorem two_start (w : World) (neg neg' : Bool) (ao ao' : Option Addr) (n cap n' cap' : Nat) (t : TypeId) :
    ∀ W, W = ((w.alloc (.cells #[.bool neg, .slice ao n cap] t)).alloc (.cells #[.bool neg', .slice ao' n' cap'] t)) →
    W.cell? ⟨w.heap.size, 0, none⟩ = some (.bool neg) ∧ W.cell? ⟨w.heap.size, 1, none⟩ = some (.slice ao n cap) ∧ W.cell? ⟨w.heap.size + 1, 0, none⟩ = some (.bool neg') ∧ W.cell? ⟨w.heap.size + 1, 1, none⟩ = some (.slice ao' n' cap') ∧ Below W.heap.size W W := by
  intro W hW
  subst hW
  refine ⟨?_, ?_, ?_, ?_, Below.refl _ _⟩ <;> simp
theorem two_bel {W wx : World} {p q : Nat} {neg neg' : Bool} {ao ao' : Option Addr} {n cap n' cap' : Nat}
    (h : wx.cell? ⟨p, 0, none⟩ = some (.bool neg) ∧ wx.cell? ⟨p, 1, none⟩ = some (.slice ao n cap) ∧ wx.cell? ⟨q, 0, none⟩ = some (.bool neg') ∧ wx.cell? ⟨q, 1, none⟩ = some (.slice ao' n' cap') ∧ Below W.heap.size W wx) : Below W.heap.size W wx := h.2.2.2.2
theorem two_drew {W wx : World} {p q : Nat} {neg neg' : Bool} {ao ao' : Option Addr} {n cap n' cap' : Nat}
    (h : wx.cell? ⟨p, 0, none⟩ = some (.bool neg) ∧ wx.cell? ⟨p, 1, none⟩ = some (.slice ao n cap) ∧ wx.cell? ⟨q, 0, none⟩ = some (.bool neg') ∧ wx.cell? ⟨q, 1, none⟩ = some (.slice ao' n' cap') ∧ Below W.heap.size W wx) :
    wx.drew.cell? ⟨p, 0, none⟩ = some (.bool neg) ∧ wx.drew.cell? ⟨p, 1, none⟩ = some (.slice ao n cap) ∧ wx.drew.cell? ⟨q, 0, none⟩ = some (.bool neg') ∧ wx.drew.cell? ⟨q, 1, none⟩ = some (.slice ao' n' cap') ∧ Below W.heap.size W wx.drew :=
  two_on h (Bd wx 1)

theorem rsize_bel (ao ao' : Option Addr) (n cap n' cap' : Nat) (l l' : List Nat) (w : World) (R : Row .u8 256 w ao n cap l) (R' : Row .u8 256 w ao' n' cap' l') (t : Tr l) (t' : Tr l') :
    Calls Try.prog 63 #[.slice ao n cap, .slice ao' n' cap'] w fun e w' => e = .returned (.int .i64 (cmpN (val 256 l) (val 256 l'))) ∧ Below w.heap.size w w' :=
  (rsize_any ao ao' n cap n' cap' l l' w R R' t t').mono fun e w' ⟨h1, k, h2⟩ => ⟨h1, h2 ▸ Bd w k⟩

set_option maxHeartbeats 2000000 in
theorem rcmp_any (neg neg' : Bool) (ao ao' : Option Addr) (n cap n' cap' : Nat) (l l' : List Nat) (w : World) (R : Row .u32 B32 w ao n cap l) (R' : Row .u32 B32 w ao' n' cap' l') (hs : n ≤ 100) (hs' : n' ≤ 100) :
    Calls Try.prog 51 #[.agg #[.bool neg, .slice ao n cap], .agg #[.bool neg', .slice ao' n' cap']] w fun e w' => e = .returned (.int .i64 (cmpR neg neg' (val B32 l) (val B32 l'))) ∧ Below w.heap.size w w' := by
  by_cases hne : neg = neg'
  · subst hne
    have e0 : (neg != neg) = false := by simp
    have HR := hid R
    have HR' := hid R'
    clear R R'
    go_enter Try.func51, Try.ntmps51
    go_wp2
    have hS := two_start w neg neg ao ao' n cap n' cap' 24 _ rfl
    have hbW := Baa w (.cells #[.bool neg, .slice ao n cap] 24) (.cells #[.bool neg, .slice ao' n' cap'] 24)
    generalize hW : ((w.alloc (.cells #[.bool neg, .slice ao n cap] 24)).alloc (.cells #[.bool neg, .slice ao' n' cap'] 24)) = W at *
    have RW := hid (HR.out.below hbW)
    have RW' := hid (HR'.out.below hbW)
    have HbW := hid hbW
    clear hW hbW
    go_region_held3 (fun wx => wx.cell? ⟨w.heap.size, 0, none⟩ = some (.bool neg) ∧ wx.cell? ⟨w.heap.size, 1, none⟩ = some (.slice ao n cap) ∧ wx.cell? ⟨w.heap.size + 1, 0, none⟩ = some (.bool neg) ∧ wx.cell? ⟨w.heap.size + 1, 1, none⟩ = some (.slice ao' n' cap') ∧ Below W.heap.size W wx)
      (first | exact two_drew hS | exact two_on (by assumption) (by assumption))
      (first
        | (go_at_call_of 39 (Value.slice ao n cap); refine (bytes_any neg ao n cap l _ ?_ hs).mono ?_; (exact RW.out.below (two_bel (p := w.heap.size) (q := w.heap.size + 1) (neg := neg) (neg' := neg) (ao := ao) (ao' := ao') (n := n) (cap := cap) (n' := n') (cap' := cap') (by assumption))); rintro e w1 ⟨m1, ao1, cap1, l1, rfl, hm1, hO1, ht1, hv1, hb1⟩)
        | (go_at_call_of 39 (Value.slice ao' n' cap'); refine (bytes_any neg ao' n' cap' l' _ ?_ hs').mono ?_; (exact RW'.out.below (two_bel (p := w.heap.size) (q := w.heap.size + 1) (neg := neg) (neg' := neg) (ao := ao) (ao' := ao') (n := n) (cap := cap) (n' := n') (cap' := cap') (by assumption))); rintro e w1 ⟨m2, ao2, cap2, l2, rfl, hm2, hO2, ht2, hv2, hb2⟩)
        | (go_at_call 63; refine (rsize_bel ao1 ao2 m1 cap1 m2 cap2 l1 l2 _ (hO1.row.below hb2) hO2.row ht1 ht2).mono ?_; rintro e w3 ⟨rfl, hb3⟩))
    have hbel : Hid (Below w.heap.size w w3) := Bt HbW.out (two_bel (p := w.heap.size) (q := w.heap.size + 1) (neg := neg) (neg' := neg) (ao := ao) (ao' := ao') (n := n) (cap := cap) (n' := n') (cap' := cap') (by assumption))
    have hc : w3.cell? ⟨w.heap.size, 0, none⟩ = some (.bool neg) := by rename_i hh; exact hh.1
    rename_i hh
    have hbd := cmpN_bd (val B32 l) (val B32 l')
    generalize hN : cmpN (val B32 l) (val B32 l') = N at *
    have HN : Hid (cmpR neg neg (val B32 l) (val B32 l') = if neg then - N else N) := by unfold Hid; rw [cmpR_eq, hN]
    clear hh hS hb3 hb2 hb1 hO1 hO2 hv1 hv2 ht1 ht2 hN
    cases neg
    · go_wp2
      go_ret
      exact ⟨ret_i64 (by rw [HN.out]; simp), hbel.out⟩
    · go_wp2
      go_ret
      exact ⟨ret_i64 (by rw [HN.out]; simp), hbel.out⟩
  · have e0 : (neg != neg') = true := by rw [bne_iff_ne]; exact hne
    have HC := hid (cmpR_ne (val B32 l) (val B32 l') hne)
    clear R R'
    cases neg <;> cases neg'
    · exact absurd rfl hne
    · go_enter Try.func51, Try.ntmps51
      go_wp2
      go_ret
      exact ⟨ret_i64 (by rw [HC.out]; simp), Baa _ _ _⟩
    · go_enter Try.func51, Try.ntmps51
      go_wp2
      go_ret
      exact ⟨ret_i64 (by rw [HC.out]; simp), Baa _ _ _⟩
    · exact absurd rfl hne

set_option maxHeartbeats 1000000 in
theorem rsame_any (neg neg' : Bool) (ao ao' : Option Addr) (n cap n' cap' : Nat) (l l' : List Nat) (w : World) (R : Row .u32 B32 w ao n cap l) (R' : Row .u32 B32 w ao' n' cap' l') (hs : n ≤ 100) (hs' : n' ≤ 100) :
    Calls Try.prog 31 #[.agg #[.bool neg, .slice ao n cap], .agg #[.bool neg', .slice ao' n' cap']] w fun e w' => e = .returned (.bool (cmpR neg neg' (val B32 l) (val B32 l') == 0)) ∧ Below w.heap.size w w' := by
  have HR := hid R
  have HR' := hid R'
  clear R R'
  go_enter Try.func31, Try.ntmps31
  go_wp2_with fail
  refine (rcmp_any neg neg' ao ao' n cap n' cap' l l' _ (HR.out.below (Baa _ _ _)) (HR'.out.below (Baa _ _ _)) hs hs').mono ?_
  rintro e w1 ⟨rfl, hb⟩
  have hb' := hid (Bt (Baa w _ _) hb)
  clear hb
  go_wp2
  go_ret
  exact ⟨rfl, hb'.out⟩

def allGood (N : Nat → Bool) (D : Nat → List Nat) (k : Nat) : Bool := (List.range k).all fun i => goodB (N i) (D i)
theorem allGood_succ (N : Nat → Bool) (D : Nat → List Nat) (k : Nat) : allGood N D (k + 1) = (allGood N D k && goodB (N k) (D k)) := by
  simp [allGood, List.range_succ]
theorem allGood_false {N : Nat → Bool} {D : Nat → List Nat} {k i : Nat} (hi : i < k) (h : goodB (N i) (D i) = false) : allGood N D k = false := by
  unfold allGood
  rw [List.all_eq_false]
  exact ⟨i, by simpa using hi, by simp [h]⟩

set_option maxHeartbeats 1000000 in
theorem lgood_any (g k cap : Nat) (N : Nat → Bool) (A : Nat → Option Addr) (L C : Nat → Nat) (D : Nat → List Nat) (w : World) (hk : k ≤ 1000) (hcap : k ≤ cap) (hcap2 : cap ≤ 1000)
    (h : ∀ i, i < k → w.cell? ⟨g, i * 2, none⟩ = some (.bool (N i)) ∧ w.cell? ⟨g, i * 2 + 1, none⟩ = some (.slice (A i) (L i) (C i)) ∧ Row .u32 B32 w (A i) (L i) (C i) (D i)) :
    Calls Try.prog 8 #[.slice (some ⟨g, 0, none⟩) k cap] w fun e w' => e = .returned (.bool (allGood N D k)) ∧ Below w.heap.size w w' := by
  have H := hid h
  clear h
  go_enter Try.func8, Try.ntmps8
  go_wp2
  go_loopw [3] (fun t wr => ∃ m : Nat, m ≤ k ∧ t = .int .i64 m ∧ Hid (allGood N D m = true ∧ Below w.heap.size w wr)) (fun t _ => k - (intOf t).toNat)
  case atStart => exact ⟨0, Nat.zero_le _, rfl, rfl, Below.refl _ _⟩
  case round =>
    obtain ⟨m, hm, rfl, hI⟩ := hrel
    by_cases hlt : m < k
    · obtain ⟨h1, h2, h3⟩ := H.out m hlt
      have c1 : wr.cell? ⟨g, m * 2, none⟩ = some (.bool (N m)) := (hI.out.2.cell (p := ⟨g, m * 2, none⟩) (cell_lt h1)).trans h1
      have c2 : wr.cell? ⟨g, m * 2 + 1, none⟩ = some (.slice (A m) (L m) (C m)) := (hI.out.2.cell (p := ⟨g, m * 2 + 1, none⟩) (cell_lt h1)).trans h2
      have R := h3.below hI.out.2
      have HL := hid R.len
      have HR := hid R
      have hmx := R.most
      have hft := R.fits
      unfold maxLen at hmx
      have HB := hid hI.out.2
      have HA := hid hI.out.1
      have HC : Hid (Calls Try.prog 21 #[.agg #[.bool (N m), .slice (A m) (L m) (C m)]] wr fun e w' => e = .returned (.bool (goodB (N m) (D m))) ∧ Below wr.heap.size wr w') := rgood_any _ _ _ _ _ _ R
      have H40 : Hid (40 < L m → goodB (N m) (D m) = false) := by
        unfold Hid goodB; intro h
        rw [← HL.out] at h
        simp [show ¬ (D m).length ≤ 40 by omega, show ¬ (D m).length = 0 by omega]
      clear hI R h1 h2 h3 HR HL
      generalize hN : N m = nm at *
      generalize A m = am at *
      generalize L m = lm at *
      generalize C m = cm at *
      have HN := hid hN
      clear hN
      by_cases h40 : 40 < lm
      · have e40 : decide ((40 : Int) < lm) = true := by simp; omega
        go_wp2
        go_ret
        exact ⟨ret_bool (allGood_false hlt (by rw [HN.out]; exact H40.out h40)).symm, HB.out⟩
      · have e40 : decide ((40 : Int) < lm) = false := by simp; omega
        generalize hG : goodB nm (D m) = gb at *
        have HG := hid hG
        clear hG H40
        cases gb
        · go_wp2_with (go_at_call 21; refine HC.out.mono ?_; rintro e w1 ⟨rfl, hb⟩)
          go_ret
          exact ⟨ret_bool (allGood_false hlt (by rw [HN.out]; exact HG.out)).symm, Bt HB.out hb⟩
        · go_wp2_with (go_at_call 21; refine HC.out.mono ?_; rintro e w1 ⟨rfl, hb⟩)
          refine ⟨⟨m + 1, by omega, by go_num, ?_, Bt HB.out hb⟩, by simp [intOf]; omega⟩
          rw [allGood_succ, HA.out, HN.out, HG.out]; rfl
    · obtain rfl : m = k := by omega
      go_wp2
      go_ret
      exact ⟨ret_bool hI.out.1.symm, hI.out.2⟩

/-- The statements' own 'same': are two good ones the same? -/
def sameB (neg neg' : Bool) (l l' : List Nat) : Bool := goodB neg l && goodB neg' l' && (neg == neg') && (val B32 l == val B32 l')

theorem cmpR_zero (neg : Bool) (x y : Nat) : (cmpR neg neg x y == 0) = (x == y) := by
  rw [cmpR_eq]
  unfold cmpN
  by_cases h1 : x < y
  · have h2 : (x == y) = false := by simp; omega
    cases neg <;> simp [h1, h2]
  · by_cases h2 : x = y
    · subst h2; cases neg <;> simp
    · have h3 : (x == y) = false := by simp; exact h2
      cases neg <;> simp [h1, h2, h3]

theorem lgood1 (g : Nat) (n1 : Bool) (a1 : Option Addr) (l1 c1 : Nat) (d1 : List Nat) (w : World)
    (h1 : w.cell? ⟨g, 0, none⟩ = some (.bool n1)) (h2 : w.cell? ⟨g, 1, none⟩ = some (.slice a1 l1 c1)) (R1 : Row .u32 B32 w a1 l1 c1 d1) :
    Calls Try.prog 8 #[.slice (some ⟨g, 0, none⟩) 1 1] w fun e w' => e = .returned (.bool (goodB n1 d1)) ∧ Below w.heap.size w w' := by
  have := lgood_any g 1 1 (fun _ => n1) (fun _ => a1) (fun _ => l1) (fun _ => c1) (fun _ => d1) w (by omega) (by omega) (by omega) (fun i hi => by
    obtain rfl : i = 0 := by omega
    exact ⟨h1, h2, R1⟩)
  simpa [allGood, List.range_succ] using this
theorem lgood2 (g : Nat) (n1 n2 : Bool) (a1 a2 : Option Addr) (l1 c1 l2 c2 : Nat) (d1 d2 : List Nat) (w : World)
    (h1 : w.cell? ⟨g, 0, none⟩ = some (.bool n1)) (h2 : w.cell? ⟨g, 1, none⟩ = some (.slice a1 l1 c1)) (h3 : w.cell? ⟨g, 2, none⟩ = some (.bool n2)) (h4 : w.cell? ⟨g, 3, none⟩ = some (.slice a2 l2 c2))
    (R1 : Row .u32 B32 w a1 l1 c1 d1) (R2 : Row .u32 B32 w a2 l2 c2 d2) :
    Calls Try.prog 8 #[.slice (some ⟨g, 0, none⟩) 2 2] w fun e w' => e = .returned (.bool (goodB n1 d1 && goodB n2 d2)) ∧ Below w.heap.size w w' := by
  have := lgood_any g 2 2 (fun i => if i = 0 then n1 else n2) (fun i => if i = 0 then a1 else a2) (fun i => if i = 0 then l1 else l2) (fun i => if i = 0 then c1 else c2) (fun i => if i = 0 then d1 else d2) w (by omega) (by omega) (by omega) (fun i hi => by
    have : i = 0 ∨ i = 1 := by omega
    rcases this with rfl | rfl
    · exact ⟨h1, h2, R1⟩
    · exact ⟨h3, h4, R2⟩)
  simpa [allGood, List.range_succ] using this
theorem lgood3 (g : Nat) (n1 n2 n3 : Bool) (a1 a2 a3 : Option Addr) (l1 c1 l2 c2 l3 c3 : Nat) (d1 d2 d3 : List Nat) (w : World)
    (h1 : w.cell? ⟨g, 0, none⟩ = some (.bool n1)) (h2 : w.cell? ⟨g, 1, none⟩ = some (.slice a1 l1 c1)) (h3 : w.cell? ⟨g, 2, none⟩ = some (.bool n2)) (h4 : w.cell? ⟨g, 3, none⟩ = some (.slice a2 l2 c2)) (h5 : w.cell? ⟨g, 4, none⟩ = some (.bool n3)) (h6 : w.cell? ⟨g, 5, none⟩ = some (.slice a3 l3 c3))
    (R1 : Row .u32 B32 w a1 l1 c1 d1) (R2 : Row .u32 B32 w a2 l2 c2 d2) (R3 : Row .u32 B32 w a3 l3 c3 d3) :
    Calls Try.prog 8 #[.slice (some ⟨g, 0, none⟩) 3 3] w fun e w' => e = .returned (.bool (goodB n1 d1 && goodB n2 d2 && goodB n3 d3)) ∧ Below w.heap.size w w' := by
  have := lgood_any g 3 3 (fun i => if i = 0 then n1 else if i = 1 then n2 else n3) (fun i => if i = 0 then a1 else if i = 1 then a2 else a3) (fun i => if i = 0 then l1 else if i = 1 then l2 else l3) (fun i => if i = 0 then c1 else if i = 1 then c2 else c3) (fun i => if i = 0 then d1 else if i = 1 then d2 else d3) w (by omega) (by omega) (by omega) (fun i hi => by
    have : i = 0 ∨ i = 1 ∨ i = 2 := by omega
    rcases this with rfl | rfl | rfl
    · exact ⟨h1, h2, R1⟩
    · exact ⟨h3, h4, R2⟩
    · exact ⟨h5, h6, R3⟩)
  simpa [allGood, List.range_succ, Bool.and_assoc] using this

set_option maxHeartbeats 1000000 in
theorem same_any (neg neg' : Bool) (ao ao' : Option Addr) (n cap n' cap' : Nat) (l l' : List Nat) (w : World) (R : Row .u32 B32 w ao n cap l) (R' : Row .u32 B32 w ao' n' cap' l') :
    Calls Try.prog 13 #[.agg #[.bool neg, .slice ao n cap], .agg #[.bool neg', .slice ao' n' cap']] w fun e w' => e = .returned (.bool (sameB neg neg' l l')) ∧ Below w.heap.size w w' := by
  have HR := hid R
  have HR' := hid R'
  clear R R'
  go_enter Try.func13, Try.ntmps13
  go_wp2_with fail
  have hb0 := Baaa w (.cells #[.bool neg, .slice ao n cap] 24) (.cells #[.bool neg', .slice ao' n' cap'] 24) (.cells #[.bool neg, .slice ao n cap, .bool neg', .slice ao' n' cap'] 24)
  refine (lgood2 (w.heap.size + 1 + 1) neg neg' ao ao' n cap n' cap' l l' _ (by rw [cell_at _ _ _ _ _ (by simp)]; rfl) (by rw [cell_at _ _ _ _ _ (by simp)]; rfl) (by rw [cell_at _ _ _ _ _ (by simp)]; rfl) (by rw [cell_at _ _ _ _ _ (by simp)]; rfl) (HR.out.below hb0) (HR'.out.below hb0)).mono ?_
  rintro e w1 ⟨rfl, hb1⟩
  have hc : w1.cell? ⟨w.heap.size, 0, none⟩ = some (.bool neg) ∧ w1.cell? ⟨w.heap.size, 1, none⟩ = some (.slice ao n cap) ∧ w1.cell? ⟨w.heap.size + 1, 0, none⟩ = some (.bool neg') ∧ w1.cell? ⟨w.heap.size + 1, 1, none⟩ = some (.slice ao' n' cap') := by
    refine ⟨(hb1.cell (p := ⟨w.heap.size, 0, none⟩) (by simp; omega)).trans ?_, (hb1.cell (p := ⟨w.heap.size, 1, none⟩) (by simp; omega)).trans ?_, (hb1.cell (p := ⟨w.heap.size + 1, 0, none⟩) (by simp)).trans ?_, (hb1.cell (p := ⟨w.heap.size + 1, 1, none⟩) (by simp)).trans ?_⟩
    · rw [cell_old _ _ _ _ (by simp; omega), cell_old _ _ _ _ (by simp), cell_at _ _ _ _ _ (by simp)]; rfl
    · rw [cell_old _ _ _ _ (by simp; omega), cell_old _ _ _ _ (by simp), cell_at _ _ _ _ _ (by simp)]; rfl
    · rw [cell_old _ _ _ _ (by simp), cell_at _ _ _ _ _ (by simp)]; rfl
    · rw [cell_old _ _ _ _ (by simp), cell_at _ _ _ _ _ (by simp)]; rfl
  have hb := Bt hb0 hb1
  have R1 := hid (HR.out.below hb)
  have R1' := hid (HR'.out.below hb)
  have HB := hid hb
  obtain ⟨c1, c2, c3, c4⟩ := hc
  clear hb0 hb1 hb HR HR'
  cases hG : (goodB neg l && goodB neg' l')
  · have HG := hid hG
    clear hG
    go_wp2
    go_ret
    exact ⟨ret_bool (by unfold sameB; rw [HG.out]; rfl), HB.out⟩
  · have h1 : n ≤ 40 := by rw [← R1.out.len]; exact goodB_len (by simp at hG; exact hG.1)
    have h2 : n' ≤ 40 := by rw [← R1'.out.len]; exact goodB_len (by simp at hG; exact hG.2)
    have HG := hid hG
    clear hG
    by_cases hne : neg = neg'
    · subst hne
      have en : (neg == neg) = true := by simp
      go_wp2_with (go_at_call 31; refine (rsame_any neg neg ao ao' n cap n' cap' l l' _ R1.out R1'.out (by omega) (by omega)).mono ?_; rintro e w2 ⟨rfl, hb2⟩)
      go_ret
      exact ⟨ret_bool (by unfold sameB; rw [HG.out, cmpR_zero]; simp), Bt HB.out hb2⟩
    · have en : (neg == neg') = false := by simp [hne]
      go_wp2
      go_ret
      exact ⟨ret_bool (by unfold sameB; rw [HG.out, en]; rfl), HB.out⟩

end Go.Proofs.Ytaenegcnobindab
