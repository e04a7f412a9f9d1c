/-
  Walks: Add.
-/
import Derived.Test.YtdekkieajffblaaGreatW24
import Derived.Test.YtdekkieajffblaaGreatG0
set_option linter.unusedVariables false
set_option linter.unusedSimpArgs false
namespace Go.Proofs.YtdekkieajffblaaGreat
open Go.RowKit

/-- An answer: the integer z, or ErrBig. -/
def AnsI (w : World) (x : Value) (en : Int) (z : Int) : Prop := (¬ Big z.natAbs ∧ en = 0 ∧ IsInt w x z) ∨ (Big z.natAbs ∧ en = 10 ∧ x = .agg #[.bool false, .slice none 0 0])
theorem AnsI.below {w w' : World} {x : Value} {en z : Int} (h : AnsI w x en z) (hb : Below w.heap.size w w') : AnsI w' x en z := by
  rcases h with ⟨h1, h2, h3⟩ | h
  · exact .inl ⟨h1, h2, h3.below hb⟩
  · exact .inr h
theorem natAbs_sgn (s : Bool) (v : Nat) : (sgn s v).natAbs = v := by cases s <;> simp [sgn]
theorem Ans.toI {w : World} {x : Value} {en : Int} {neg : Bool} {v : Nat} (h : Ans w x en neg v) : AnsI w x en (sgn neg v) := by
  rcases h with ⟨h1, h2, l, h3, h4, h5⟩ | ⟨h1, h2, rfl⟩
  · refine .inl ⟨by rw [natAbs_sgn]; exact h1, h2, ?_⟩
    rw [← h5] at h1 ⊢
    exact is_mk h3 h4 h1
  · exact .inr ⟨by rw [natAbs_sgn]; exact h1, h2, rfl⟩
def AddPost (w : World) (z : Int) (e : Ending) (w' : World) : Prop := ∃ x en, e = .returned (.tuple #[x, .int .i64 en]) ∧ AnsI w' x en z ∧ Below w.heap.size w w'
theorem sgn_add (s : Bool) (v u : Nat) : sgn s (v + u) = sgn s v + sgn s u := by cases s <;> simp [sgn] <;> omega
theorem sgn_sub_left {s s' : Bool} (h : s ≠ s') {v u : Nat} (hv : u ≤ v) : sgn s (v - u) = sgn s v + sgn s' u := by
  cases s <;> cases s' <;> simp [sgn] at h ⊢ <;> omega
theorem sgn_sub_right {s s' : Bool} (h : s ≠ s') {v u : Nat} (hv : v ≤ u) : sgn s' (u - v) = sgn s v + sgn s' u := by
  cases s <;> cases s' <;> simp [sgn] at h ⊢ <;> omega
theorem len_le {a b : List Nat} (ha : Dg B32 a) (hb : Dg B32 b) (tb : Tr b) (h : val B32 b ≤ val B32 a) : b.length ≤ a.length := by
  by_cases h' : b.length ≤ a.length
  · exact h'
  · have := lt_of_length (B := B32) (by decide) ha tb (by omega); omega

set_option maxHeartbeats 4000000 in
theorem add_any (neg neg' : Bool) (ao ao' : Option Addr) (n cap n' cap' : Nat) (l l' : List Nat) (w : World) (R : Row .u32 B32 w ao n cap l) (R' : Row .u32 B32 w ao' n' cap' l') (g1 : goodB neg l = true) (g2 : goodB neg' l' = true) :
    Calls Tryz.prog 51 #[.agg #[.bool neg, .slice ao n cap], .agg #[.bool neg', .slice ao' n' cap']] w (AddPost w (sgn neg (val B32 l) + sgn neg' (val B32 l'))) := by
  have HR := hid R
  have HR' := hid R'
  have G1 := hid g1
  have G2 := hid g2
  have hn40 : n ≤ 40 := by rw [← R.len]; exact goodB_len g1
  have hn40' : n' ≤ 40 := by rw [← R'.len]; exact goodB_len g2
  clear R R' g1 g2
  go_enter Tryz.func51, Tryz.ntmps51
  go_wp2_with fail
  obtain ⟨x1, x2, x3, hb0⟩ := three_boxes 40 w neg neg' false ao ao' none n cap n' cap' 0 0 _ rfl
  generalize hW0 : (((w.alloc (.cells #[.bool neg, .slice ao n cap] 40)).alloc (.cells #[.bool neg', .slice ao' n' cap'] 40)).alloc (.cells #[.bool false, .slice none 0 0] 40)) = W0 at *
  clear hW0
  refine (good_any neg ao n cap l W0 (HR.out.below hb0)).mono ?_
  rintro e w1 ⟨rfl, hb1⟩
  rw [G1.out]
  obtain ⟨c20, c21⟩ := (x2.on hb1).c
  have X1 := hid (x1.on hb1)
  have X2 := hid (x2.on hb1)
  have X3 := hid (x3.on hb1)
  have HB1 := hid (Bt hb0 hb1)
  clear x1 x2 x3 hb0 hb1
  go_wp2_with fail
  refine (good_any neg' ao' n' cap' l' w1 (HR'.out.below HB1.out)).mono ?_
  rintro e w2 ⟨rfl, hb2⟩
  rw [G2.out]
  clear c20 c21
  have Y3 := hid (X3.out.on hb2)
  have HB2 := hid (Bt HB1.out hb2)
  have hS : w2.cell? ⟨w.heap.size, 0, none⟩ = some (.bool neg) ∧ w2.cell? ⟨w.heap.size, 1, none⟩ = some (.slice ao n cap) ∧ w2.cell? ⟨w.heap.size + 1, 0, none⟩ = some (.bool neg') ∧ w2.cell? ⟨w.heap.size + 1, 1, none⟩ = some (.slice ao' n' cap') := ⟨(X1.out.on hb2).c.1, (X1.out.on hb2).c.2, (X2.out.on hb2).c.1, (X2.out.on hb2).c.2⟩
  have RW := hid (HR.out.below HB2.out)
  have RW' := hid (HR'.out.below HB2.out)
  have HS := hid hS
  clear hb2 X1 X2 X3 HB1 HR HR' hS
  obtain ⟨s0, s1, s2, s3⟩ := HS.out
  by_cases hnn : neg = neg'
  · subst hnn
    have e1 : (neg == neg) = true := by simp
    go_wp2
    clear s0 s1 s2 s3
    go_region_held3 (fun wx => wx.cell? ⟨w.heap.size, 0, none⟩ = some (.bool neg) ∧ wx.cell? ⟨w.heap.size, 1, none⟩ = some (.slice ao n cap) ∧ wx.cell? ⟨w.heap.size + 1, 0, none⟩ = some (.bool neg) ∧ wx.cell? ⟨w.heap.size + 1, 1, none⟩ = some (.slice ao' n' cap'))
      (first | exact keep4 HS.out (Bd w2 1) | exact keep4 (by assumption) (by assumption) | exact keep4s (by assumption) (by omega) (by omega))
      (first
        | (go_at_call 78; refine (addRows_any ao ao' n cap n' cap' l l' _ ?_ ?_ hn40 hn40').mono ?_; (exact RW.out.below (Bd w2 1)); (exact RW'.out.below (Bd w2 1)); rintro e wa ⟨a2, n2, c2, L, rfl, hRL, hn2, hvL, ba⟩; have RL := hid hRL; have HVL := hid hvL; clear hRL hvL)
        | (go_at_call 77; refine (fitting_any neg a2 n2 c2 L _ ?_).mono ?_; (exact RL.out); rintro e wb ⟨x, en, rfl, hA, bb⟩; obtain ⟨sx, ax, nx, cx, lx, rfl, Rx, hAx⟩ := hA.form; have Z3 := ((Y3.out.on (Bd w2 1)).on ba).on bb; obtain ⟨z30, z31⟩ := Z3.c; obtain ⟨f30, f31⟩ := Z3.f; have HZ := hid Z3; have HRx := hid Rx; have HAx := hid hAx; clear hA Rx hAx Z3))
    have hbW : Below w.heap.size w wb := Bt (Bt (Bt HB2.out (Bd w2 1)) ba) bb
    have z := HZ.out.set2 sx ax nx cx
    obtain ⟨y0, y1⟩ := z.c
    have rx := HAx.out _ (HRx.out.setBox2 HZ.out sx (.slice ax nx cx))
    rw [HVL.out] at rx
    have bF := (hbW.setCell (p := ⟨w.heap.size + 1 + 1, 0, none⟩) (by simp; omega) (.bool sx)).setCell (p := ⟨w.heap.size + 1 + 1, 1, none⟩) (by simp; omega) (.slice ax nx cx)
    rename_i hHeld
    clear hHeld
    go_wp2
    have rz := rx.toI
    rw [sgn_add] at rz
    exact bodyPost_ret (v := .tuple #[.agg #[.bool sx, .slice ax nx cx], .int .i64 en]) (by simp [results, Tryz.results51, go_sem, y0, y1]) rfl ⟨_, _, rfl, rz, bF⟩
  · have e1 : (neg == neg') = false := by simpa using hnn
    have HNN := hid hnn
    obtain ⟨C, hC⟩ : ∃ C, C = cmpN (val B32 l) (val B32 l') := ⟨_, rfl⟩
    have HCC : Hid (Calls Tryz.prog 71 #[.slice ao n cap, .slice ao' n' cap'] w2 fun e w' => e = .returned (.int .i64 C) ∧ ∃ k, w' = w2.drewN k) := by
      rw [hC]; exact compareRows_any ao ao' n cap n' cap' l l' w2 RW.out RW'.out (goodB_tr G1.out) (goodB_tr G2.out)
    have HC := hid hC
    clear hC hnn
    go_wp2_with fail
    refine HCC.out.mono ?_
    rintro e w3 ⟨rfl, k3, hw3⟩
    have b3 : Below w2.heap.size w2 w3 := by rw [hw3]; exact Bd w2 k3
    have RX := hid (RW.out.below b3)
    have RX' := hid (RW'.out.below b3)
    have Y4 := hid (Y3.out.on b3)
    have HS3 := hid (keep4 HS.out b3)
    have HB3 := hid (Bt HB2.out b3)
    clear b3 hw3 s0 s1 s2 s3 HS RW RW' Y3 HB2 HCC
    have HS := HS3
    have RW := RX
    have RW' := RX'
    have Y3 := Y4
    have HB2 := HB3
    clear HS3 RX RX' Y4 HB3
    by_cases hlt : val B32 l < val B32 l'
    · have e2 : decide (C < 0) = true := by rw [HC.out]; simp [cmpN, hlt]
      have hle : n ≤ n' := by rw [← RW.out.len, ← RW'.out.len]; exact len_le RW'.out.dg RW.out.dg (goodB_tr G1.out) (by omega)
      have HLE : Hid (val B32 l ≤ val B32 l') := Nat.le_of_lt hlt
      clear hlt
      go_wp2
      go_region_held3 (fun wx => wx.cell? ⟨w.heap.size, 0, none⟩ = some (.bool neg) ∧ wx.cell? ⟨w.heap.size, 1, none⟩ = some (.slice ao n cap) ∧ wx.cell? ⟨w.heap.size + 1, 0, none⟩ = some (.bool neg') ∧ wx.cell? ⟨w.heap.size + 1, 1, none⟩ = some (.slice ao' n' cap'))
        (first | exact keep4 HS.out (Bd w3 1) | exact keep4 (by assumption) (by assumption) | exact keep4s (by assumption) (by omega) (by omega))
        (first
          | (go_at_call 79; refine (subRows_any ao' ao n' cap' n cap l' l _ ?_ ?_ (by omega) hle HLE.out).mono ?_; (exact RW'.out.below (Bd w3 1)); (exact RW.out.below (Bd w3 1)); rintro e wa ⟨a2, c2, L, rfl, hRL, hvL, ba⟩; have RL := hid hRL; have HVL := hid hvL; clear hRL hvL)
          | (go_at_call 77; refine (fitting_any neg' a2 n' c2 L _ ?_).mono ?_; (exact RL.out); rintro e wb ⟨x, en, rfl, hA, bb⟩; obtain ⟨sx, ax, nx, cx, lx, rfl, Rx, hAx⟩ := hA.form; have Z3 := ((Y3.out.on (Bd w3 1)).on ba).on bb; obtain ⟨z30, z31⟩ := Z3.c; obtain ⟨f30, f31⟩ := Z3.f; have HZ := hid Z3; have HRx := hid Rx; have HAx := hid hAx; clear hA Rx hAx Z3))
      have hbW : Below w.heap.size w wb := Bt (Bt (Bt HB2.out (Bd w3 1)) ba) bb
      have z := HZ.out.set2 sx ax nx cx
      obtain ⟨y0, y1⟩ := z.c
      have rx := HAx.out _ (HRx.out.setBox2 HZ.out sx (.slice ax nx cx))
      rw [HVL.out] at rx
      have bF := (hbW.setCell (p := ⟨w.heap.size + 1 + 1, 0, none⟩) (by simp; omega) (.bool sx)).setCell (p := ⟨w.heap.size + 1 + 1, 1, none⟩) (by simp; omega) (.slice ax nx cx)
      rename_i hHeld
      clear hHeld
      go_wp2
      have rz := rx.toI
      rw [sgn_sub_right HNN.out HLE.out] at rz
      exact bodyPost_ret (v := .tuple #[.agg #[.bool sx, .slice ax nx cx], .int .i64 en]) (by simp [results, Tryz.results51, go_sem, y0, y1]) rfl ⟨_, _, rfl, rz, bF⟩
    · have e2 : decide (C < 0) = false := by
        rw [HC.out]; simp [cmpN, hlt]; split <;> omega
      have hle : n' ≤ n := by rw [← RW.out.len, ← RW'.out.len]; exact len_le RW.out.dg RW'.out.dg (goodB_tr G2.out) (by omega)
      have HLE : Hid (val B32 l' ≤ val B32 l) := by unfold Hid; omega
      clear hlt
      go_wp2
      go_region_held3 (fun wx => wx.cell? ⟨w.heap.size, 0, none⟩ = some (.bool neg) ∧ wx.cell? ⟨w.heap.size, 1, none⟩ = some (.slice ao n cap) ∧ wx.cell? ⟨w.heap.size + 1, 0, none⟩ = some (.bool neg') ∧ wx.cell? ⟨w.heap.size + 1, 1, none⟩ = some (.slice ao' n' cap'))
        (first | exact keep4 HS.out (Bd w3 1) | exact keep4 (by assumption) (by assumption) | exact keep4s (by assumption) (by omega) (by omega))
        (first
          | (go_at_call 79; refine (subRows_any ao ao' n cap n' cap' l l' _ ?_ ?_ (by omega) hle HLE.out).mono ?_; (exact RW.out.below (Bd w3 1)); (exact RW'.out.below (Bd w3 1)); rintro e wa ⟨a2, c2, L, rfl, hRL, hvL, ba⟩; have RL := hid hRL; have HVL := hid hvL; clear hRL hvL)
          | (go_at_call 77; refine (fitting_any neg a2 n c2 L _ ?_).mono ?_; (exact RL.out); rintro e wb ⟨x, en, rfl, hA, bb⟩; obtain ⟨sx, ax, nx, cx, lx, rfl, Rx, hAx⟩ := hA.form; have Z3 := ((Y3.out.on (Bd w3 1)).on ba).on bb; obtain ⟨z30, z31⟩ := Z3.c; obtain ⟨f30, f31⟩ := Z3.f; have HZ := hid Z3; have HRx := hid Rx; have HAx := hid hAx; clear hA Rx hAx Z3))
      have hbW : Below w.heap.size w wb := Bt (Bt (Bt HB2.out (Bd w3 1)) ba) bb
      have z := HZ.out.set2 sx ax nx cx
      obtain ⟨y0, y1⟩ := z.c
      have rx := HAx.out _ (HRx.out.setBox2 HZ.out sx (.slice ax nx cx))
      rw [HVL.out] at rx
      have bF := (hbW.setCell (p := ⟨w.heap.size + 1 + 1, 0, none⟩) (by simp; omega) (.bool sx)).setCell (p := ⟨w.heap.size + 1 + 1, 1, none⟩) (by simp; omega) (.slice ax nx cx)
      rename_i hHeld
      clear hHeld
      go_wp2
      have rz := rx.toI
      rw [sgn_sub_left HNN.out HLE.out] at rz
      exact bodyPost_ret (v := .tuple #[.agg #[.bool sx, .slice ax nx cx], .int .i64 en]) (by simp [results, Tryz.results51, go_sem, y0, y1]) rfl ⟨_, _, rfl, rz, bF⟩

end Go.Proofs.YtdekkieajffblaaGreat
