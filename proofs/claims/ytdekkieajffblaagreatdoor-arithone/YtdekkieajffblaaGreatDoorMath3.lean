import Derived.Test.YtdekkieajffblaaGreatDoorW24
import Derived.Test.YtdekkieajffblaaGreatDoorG5
import Derived.Laws.Bits128
import Derived.Test.YtdekkieajffblaaGreatDoorOnto
set_option linter.unusedVariables false
set_option linter.unusedSimpArgs false
namespace Go.Proofs.YtdekkieajffblaaGreatDoor
open Go.RowKit
def AnsI (w : World) (x : Value) (en : Int) (z : Int) : Prop := (¬ Big z.natAbs /\ en = 0 /\ IsInt w x z) \/ (Big z.natAbs /\ en = 10 /\ x = .agg #[.bool false, .slice none 0 0])
theorem natAbs_sgn (s : Bool) (v : Nat) : (sgn s v).natAbs = v := by cases s <;> simp [sgn]
theorem Ans.toI {w : World} {x : Value} {en : Int} {neg : Bool} {v : Nat} (h : Ans w x en neg v) : AnsI w x en (sgn neg v) := by
 rcases h with ⟨h1, h2, l, h3, h4, h5⟩ | ⟨h1, h2, rfl⟩
 ·refine .inl ⟨by rw [natAbs_sgn]; exact h1, h2, ?_⟩
  rw [<- h5] at h1 ⊢
  exact is_mk h3 h4 h1
 ·exact .inr ⟨by rw [natAbs_sgn]; exact h1, h2, rfl⟩
def AddPost (w : World) (z : Int) (e : Ending) (w' : World) : Prop := ∃ x en, e = .returned (.tuple #[x, .int .i64 en]) /\ AnsI w' x en z /\ Below w.heap.size w w'
theorem sgn_add (s : Bool) (v u : Nat) : sgn s (v + u) = sgn s v + sgn s u := by cases s <;> simp [sgn] <;> omega
theorem sgn_sub_left {s s' : Bool} (h : s ≠ s') {v u : Nat} (hv : u <= v) : sgn s (v - u) = sgn s v + sgn s' u := by
 cases s <;> cases s' <;> simp [sgn] at h ⊢ <;> omega
theorem sgn_sub_right {s s' : Bool} (h : s ≠ s') {v u : Nat} (hv : v <= u) : sgn s' (u - v) = sgn s v + sgn s' u := by
 cases s <;> cases s' <;> simp [sgn] at h ⊢ <;> omega
theorem len_le {a b : List Nat} (ha : Dg B32 a) (hb : Dg B32 b) (tb : Tr b) (h : val B32 b <= val B32 a) : b.length <= a.length := by
 by_cases h' : b.length <= a.length
 ·exact h'
 ·have := lt_of_length (B := B32) (by decide) ha tb (by omega); omega
set_option maxHeartbeats 4000000 in
theorem add_any (neg neg' : Bool) (ao ao' : Option Addr) (n cap n' cap' : Nat) (l l' : List Nat) (w : World) (R : Row .u32 B32 w ao n cap l) (R' : Row .u32 B32 w ao' n' cap' l') (g1 : goodB neg l = true) (g2 : goodB neg' l' = true) :
  Calls Tryz.prog 27 #[.agg #[.bool neg, .slice ao n cap], .agg #[.bool neg', .slice ao' n' cap']] w (AddPost w (sgn neg (val B32 l) + sgn neg' (val B32 l'))) := by
 have HR := hid R
 have HR' := hid R'
 have G1 := hid g1
 have G2 := hid g2
 have hn40 : n <= 40 := by rw [<- R.len]; exact goodB_len g1
 have hn40' : n' <= 40 := by rw [<- R'.len]; exact goodB_len g2
 clear R R' g1 g2
 go_enter Tryz.func27, Tryz.ntmps27
 go_wp2_with fail
 obtain ⟨x1, x2, x3, hb0⟩ := three_boxes 24 w neg neg' false ao ao' none n cap n' cap' 0 0 _ rfl
 generalize hW0 : (((w.alloc (.cells #[.bool neg, .slice ao n cap] 24)).alloc (.cells #[.bool neg', .slice ao' n' cap'] 24)).alloc (.cells #[.bool false, .slice none 0 0] 24)) = W0 at *
 clear hW0
 refine (good_any neg ao n cap l W0 (HR.out.below hb0)).mono ?_
 rintro e w1 ⟨rfl, hb1⟩
 rw [G1.out]
 obtain ⟨c20, c21⟩ := (x2.on hb1).c
 have X1 := hid (x1.on hb1)
 have X2 := hid (x2.on hb1)
 have X3 := hid (x3.on hb1)
 have HB1 := hid (Bt hb0 hb1)
 clear x1 x2 x3 hb0 hb1
 go_wp2_with fail
 refine (good_any neg' ao' n' cap' l' w1 (HR'.out.below HB1.out)).mono ?_
 rintro e w2 ⟨rfl, hb2⟩
 rw [G2.out]
 clear c20 c21
 have Y3 := hid (X3.out.on hb2)
 have HB2 := hid (Bt HB1.out hb2)
 have hS : w2.cell? ⟨w.heap.size, 0, none⟩ = some (.bool neg) /\ w2.cell? ⟨w.heap.size, 1, none⟩ = some (.slice ao n cap) /\ w2.cell? ⟨w.heap.size + 1, 0, none⟩ = some (.bool neg') /\ w2.cell? ⟨w.heap.size + 1, 1, none⟩ = some (.slice ao' n' cap') := ⟨(X1.out.on hb2).c.1, (X1.out.on hb2).c.2, (X2.out.on hb2).c.1, (X2.out.on hb2).c.2⟩
 have RW := hid (HR.out.below HB2.out)
 have RW' := hid (HR'.out.below HB2.out)
 have HS := hid hS
 clear hb2 X1 X2 X3 HB1 HR HR' hS
 obtain ⟨s0, s1, s2, s3⟩ := HS.out
 by_cases hnn : neg = neg'
 ·subst hnn
  have e1 : (neg == neg) = true := by simp
  go_wp2
  clear s0 s1 s2 s3
  go_region_held3 (fun wx => wx.cell? ⟨w.heap.size, 0, none⟩ = some (.bool neg) /\ wx.cell? ⟨w.heap.size, 1, none⟩ = some (.slice ao n cap) /\ wx.cell? ⟨w.heap.size + 1, 0, none⟩ = some (.bool neg) /\ wx.cell? ⟨w.heap.size + 1, 1, none⟩ = some (.slice ao' n' cap'))
   (first | exact keep4 HS.out (Bd w2 1) | exact keep4 (by assumption) (by assumption) | exact keep4s (by assumption) (by omega) (by omega))
   (first
    | (go_at_call 47; refine (addRows_any ao ao' n cap n' cap' l l' _ ?_ ?_ hn40 hn40').mono ?_; (exact RW.out.below (Bd w2 1)); (exact RW'.out.below (Bd w2 1)); rintro e wa ⟨a2, n2, c2, L, rfl, hRL, hn2, hvL, ba⟩; have RL := hid hRL; have HVL := hid hvL; clear hRL hvL)
    | (go_at_call 46; refine (fitting_any neg a2 n2 c2 L _ ?_).mono ?_; (exact RL.out); rintro e wb ⟨x, en, rfl, hA, bb⟩; obtain ⟨sx, ax, nx, cx, lx, rfl, Rx, hAx⟩ := hA.form; have Z3 := ((Y3.out.on (Bd w2 1)).on ba).on bb; obtain ⟨z30, z31⟩ := Z3.c; obtain ⟨f30, f31⟩ := Z3.f; have HZ := hid Z3; have HRx := hid Rx; have HAx := hid hAx; clear hA Rx hAx Z3))
  have hbW : Below w.heap.size w wb := Bt (Bt (Bt HB2.out (Bd w2 1)) ba) bb
  have z := HZ.out.set2 sx ax nx cx
  obtain ⟨y0, y1⟩ := z.c
  have rx := HAx.out _ (HRx.out.setBox2 HZ.out sx (.slice ax nx cx))
  rw [HVL.out] at rx
  have bF := (hbW.setCell (p := ⟨w.heap.size + 1 + 1, 0, none⟩) (by simp; omega) (.bool sx)).setCell (p := ⟨w.heap.size + 1 + 1, 1, none⟩) (by simp; omega) (.slice ax nx cx)
  rename_i hHeld
  clear hHeld
  go_wp2
  have rz := rx.toI
  rw [sgn_add] at rz
  exact bodyPost_ret (v := .tuple #[.agg #[.bool sx, .slice ax nx cx], .int .i64 en]) (by simp [results, Tryz.results27, go_sem, y0, y1]) rfl ⟨_, _, rfl, rz, bF⟩
 ·have e1 : (neg == neg') = false := by simpa using hnn
  have HNN := hid hnn
  obtain ⟨C, hC⟩ : ∃ C, C = cmpN (val B32 l) (val B32 l') := ⟨_, rfl⟩
  have HCC : Hid (Calls Tryz.prog 38 #[.slice ao n cap, .slice ao' n' cap'] w2 fun e w' => e = .returned (.int .i64 C) /\ ∃ k, w' = w2.drewN k) := by
   rw [hC]; exact compareRows_any ao ao' n cap n' cap' l l' w2 RW.out RW'.out (goodB_tr G1.out) (goodB_tr G2.out)
  have HC := hid hC
  clear hC hnn
  go_wp2_with fail
  refine HCC.out.mono ?_
  rintro e w3 ⟨rfl, k3, hw3⟩
  have b3 : Below w2.heap.size w2 w3 := by rw [hw3]; exact Bd w2 k3
  have RX := hid (RW.out.below b3)
  have RX' := hid (RW'.out.below b3)
  have Y4 := hid (Y3.out.on b3)
  have HS3 := hid (keep4 HS.out b3)
  have HB3 := hid (Bt HB2.out b3)
  clear b3 hw3 s0 s1 s2 s3 HS RW RW' Y3 HB2 HCC
  have HS := HS3
  have RW := RX
  have RW' := RX'
  have Y3 := Y4
  have HB2 := HB3
  clear HS3 RX RX' Y4 HB3
  by_cases hlt : val B32 l < val B32 l'
  ·have e2 : decide (C < 0) = true := by rw [HC.out]; simp [cmpN, hlt]
   have hle : n <= n' := by rw [<- RW.out.len, <- RW'.out.len]; exact len_le RW'.out.dg RW.out.dg (goodB_tr G1.out) (by omega)
   have HLE : Hid (val B32 l <= val B32 l') := Nat.le_of_lt hlt
   clear hlt
   go_wp2
   go_region_held3 (fun wx => wx.cell? ⟨w.heap.size, 0, none⟩ = some (.bool neg) /\ wx.cell? ⟨w.heap.size, 1, none⟩ = some (.slice ao n cap) /\ wx.cell? ⟨w.heap.size + 1, 0, none⟩ = some (.bool neg') /\ wx.cell? ⟨w.heap.size + 1, 1, none⟩ = some (.slice ao' n' cap'))
    (first | exact keep4 HS.out (Bd w3 1) | exact keep4 (by assumption) (by assumption) | exact keep4s (by assumption) (by omega) (by omega))
    (first
     | (go_at_call 48; refine (subRows_any ao' ao n' cap' n cap l' l _ ?_ ?_ (by omega) hle HLE.out).mono ?_; (exact RW'.out.below (Bd w3 1)); (exact RW.out.below (Bd w3 1)); rintro e wa ⟨a2, c2, L, rfl, hRL, hvL, ba⟩; have RL := hid hRL; have HVL := hid hvL; clear hRL hvL)
     | (go_at_call 46; refine (fitting_any neg' a2 n' c2 L _ ?_).mono ?_; (exact RL.out); rintro e wb ⟨x, en, rfl, hA, bb⟩; obtain ⟨sx, ax, nx, cx, lx, rfl, Rx, hAx⟩ := hA.form; have Z3 := ((Y3.out.on (Bd w3 1)).on ba).on bb; obtain ⟨z30, z31⟩ := Z3.c; obtain ⟨f30, f31⟩ := Z3.f; have HZ := hid Z3; have HRx := hid Rx; have HAx := hid hAx; clear hA Rx hAx Z3))
   have hbW : Below w.heap.size w wb := Bt (Bt (Bt HB2.out (Bd w3 1)) ba) bb
   have z := HZ.out.set2 sx ax nx cx
   obtain ⟨y0, y1⟩ := z.c
   have rx := HAx.out _ (HRx.out.setBox2 HZ.out sx (.slice ax nx cx))
   rw [HVL.out] at rx
   have bF := (hbW.setCell (p := ⟨w.heap.size + 1 + 1, 0, none⟩) (by simp; omega) (.bool sx)).setCell (p := ⟨w.heap.size + 1 + 1, 1, none⟩) (by simp; omega) (.slice ax nx cx)
   rename_i hHeld
   clear hHeld
   go_wp2
   have rz := rx.toI
   rw [sgn_sub_right HNN.out HLE.out] at rz
   exact bodyPost_ret (v := .tuple #[.agg #[.bool sx, .slice ax nx cx], .int .i64 en]) (by simp [results, Tryz.results27, go_sem, y0, y1]) rfl ⟨_, _, rfl, rz, bF⟩
  ·have e2 : decide (C < 0) = false := by
    rw [HC.out]; simp [cmpN, hlt]; split <;> omega
   have hle : n' <= n := by rw [<- RW.out.len, <- RW'.out.len]; exact len_le RW.out.dg RW'.out.dg (goodB_tr G2.out) (by omega)
   have HLE : Hid (val B32 l' <= val B32 l) := by unfold Hid; omega
   clear hlt
   go_wp2
   go_region_held3 (fun wx => wx.cell? ⟨w.heap.size, 0, none⟩ = some (.bool neg) /\ wx.cell? ⟨w.heap.size, 1, none⟩ = some (.slice ao n cap) /\ wx.cell? ⟨w.heap.size + 1, 0, none⟩ = some (.bool neg') /\ wx.cell? ⟨w.heap.size + 1, 1, none⟩ = some (.slice ao' n' cap'))
    (first | exact keep4 HS.out (Bd w3 1) | exact keep4 (by assumption) (by assumption) | exact keep4s (by assumption) (by omega) (by omega))
    (first
     | (go_at_call 48; refine (subRows_any ao ao' n cap n' cap' l l' _ ?_ ?_ (by omega) hle HLE.out).mono ?_; (exact RW.out.below (Bd w3 1)); (exact RW'.out.below (Bd w3 1)); rintro e wa ⟨a2, c2, L, rfl, hRL, hvL, ba⟩; have RL := hid hRL; have HVL := hid hvL; clear hRL hvL)
     | (go_at_call 46; refine (fitting_any neg a2 n c2 L _ ?_).mono ?_; (exact RL.out); rintro e wb ⟨x, en, rfl, hA, bb⟩; obtain ⟨sx, ax, nx, cx, lx, rfl, Rx, hAx⟩ := hA.form; have Z3 := ((Y3.out.on (Bd w3 1)).on ba).on bb; obtain ⟨z30, z31⟩ := Z3.c; obtain ⟨f30, f31⟩ := Z3.f; have HZ := hid Z3; have HRx := hid Rx; have HAx := hid hAx; clear hA Rx hAx Z3))
   have hbW : Below w.heap.size w wb := Bt (Bt (Bt HB2.out (Bd w3 1)) ba) bb
   have z := HZ.out.set2 sx ax nx cx
   obtain ⟨y0, y1⟩ := z.c
   have rx := HAx.out _ (HRx.out.setBox2 HZ.out sx (.slice ax nx cx))
   rw [HVL.out] at rx
   have bF := (hbW.setCell (p := ⟨w.heap.size + 1 + 1, 0, none⟩) (by simp; omega) (.bool sx)).setCell (p := ⟨w.heap.size + 1 + 1, 1, none⟩) (by simp; omega) (.slice ax nx cx)
   rename_i hHeld
   clear hHeld
   go_wp2
   have rz := rx.toI
   rw [sgn_sub_left HNN.out HLE.out] at rz
   exact bodyPost_ret (v := .tuple #[.agg #[.bool sx, .slice ax nx cx], .int .i64 en]) (by simp [results, Tryz.results27, go_sem, y0, y1]) rfl ⟨_, _, rfl, rz, bF⟩
end Go.Proofs.YtdekkieajffblaaGreatDoor
namespace Go.Proofs.YtdekkieajffblaaGreatDoor
open Go.RowKit
end Go.Proofs.YtdekkieajffblaaGreatDoor
namespace Go.Proofs.YtdekkieajffblaaGreatDoor
theorem guess_low {g h r nx B u2 v0 P u0 top V U : Nat} (ht : top = g * h + r) (hV : V = v0 + P * (nx + B * h)) (hU : U = u0 + P * (u2 + B * top)) (hu : u0 < P) (hg : r * B + u2 < g * nx) : U < g * V := by
 have h1 : P * (r * B + u2 + 1 + B * (g * h)) <= P * (g * nx + B * (g * h)) := Nat.mul_le_mul_left _ (by omega)
 have h2 : g * V = g * v0 + P * (g * nx + B * (g * h)) := by subst hV; grind
 have h3 : P * (r * B + u2 + 1 + B * (g * h)) = P * (u2 + B * top) + P := by subst ht; grind
 omega
theorem guess_high {g h r nx B u2 v0 P u0 top V U : Nat} (ht : top = g * h + r) (hV : V = v0 + P * (nx + B * h)) (hU : U = u0 + P * (u2 + B * top)) (hv : v0 < P) (hh : 0 < h) (hgB : g < B) (hg : g * nx <= r * B + u2) : g * V <= U + V := by
 have h1 : P * (g * nx + B * (g * h)) <= P * (r * B + u2 + B * (g * h)) := Nat.mul_le_mul_left _ (by omega)
 have h2 : g * V = g * v0 + P * (g * nx + B * (g * h)) := by subst hV; grind
 have h3 : P * (r * B + u2 + B * (g * h)) = P * (u2 + B * top) := by subst ht; grind
 have h4 : g * v0 <= B * P := Nat.mul_le_mul (by omega) (by omega)
 have h5 : P * (B * 1) <= P * (nx + B * h) := Nat.mul_le_mul_left _ (by have : B * 1 <= B * h := Nat.mul_le_mul_left _ hh; omega)
 have h6 : B * P = P * (B * 1) := by grind
 omega
theorem guess_first {h nx B u2 v0 P u0 top V U : Nat} (hV : V = v0 + P * (nx + B * h)) (hU : U = u0 + P * (u2 + B * top)) (hu : u0 < P) (hu2 : u2 < B) (hh : 0 < h) : U < (top / h + 1) * V := by
 have h1 : top < h * (top / h + 1) := by have := Nat.div_add_mod top h; have := Nat.mod_lt top hh; rw [Nat.mul_add]; omega
 have h2 : P * (B * (top + 1)) <= P * (B * (h * (top / h + 1))) := Nat.mul_le_mul_left _ (Nat.mul_le_mul_left _ h1)
 have h3 : P * (B * (h * (top / h + 1))) <= (top / h + 1) * V := by
  generalize top / h + 1 = z
  have : z * V = z * v0 + z * (P * nx) + P * (B * (h * z)) := by subst hV; grind
  omega
 have h4 : P * (u2 + B * top + 1) <= P * (B * (top + 1)) := Nat.mul_le_mul_left _ (by rw [Nat.mul_add]; omega)
 have h5 : P * (u2 + B * top + 1) = P * (u2 + B * top) + P := by grind
 omega
theorem top_lt {h nx B u2 v0 P u0 top V U : Nat} (hV : V = v0 + P * (nx + B * h)) (hU : U = u0 + P * (u2 + B * top)) (hv : v0 < P) (hnx : nx < B) (hUV : U < B * V) : top < B * (h + 1) := by
 have h1 : V <= P * (B * (h + 1)) := by
  have h2 : P * (nx + B * h + 1) <= P * (B * (h + 1)) := Nat.mul_le_mul_left _ (by rw [Nat.mul_add]; omega)
  have h3 : P * (nx + B * h + 1) = P * (nx + B * h) + P := by grind
  omega
 have h4 : B * V <= B * (P * (B * (h + 1))) := Nat.mul_le_mul_left _ h1
 have h5 : P * B * top < P * B * (B * (h + 1)) := by
  have e1 : P * (u2 + B * top) = P * u2 + P * B * top := by grind
  have e2 : B * (P * (B * (h + 1))) = P * B * (B * (h + 1)) := by grind
  omega
 exact Nat.lt_of_mul_lt_mul_left h5
theorem broken {g h r nx B u2 top : Nat} (ht : top = g * h + r) (hr : B <= r) (htop : top < B * (h + 1)) (hnx : nx < B) : g < B /\ g * nx <= r * B + u2 := by
 have h1 : g < B := by
  have : g * h < B * h := by rw [Nat.mul_add] at htop; omega
  exact Nat.lt_of_mul_lt_mul_right this
 refine ⟨h1, ?_⟩
 have h2 : g * nx <= B * B := Nat.mul_le_mul (by omega) (by omega)
 have h3 : B * B <= r * B := Nat.mul_le_mul_right _ hr
 omega
theorem val_top2 {B n : Nat} {d : List Nat} (hd : Dg B d) (hl : d.length = n) (hn : 2 <= n) : ∃ v0, v0 < B ^ (n - 2) /\ val B d = v0 + B ^ (n - 2) * (d.getD (n - 2) 0 + B * d.getD (n - 1) 0) := by
 refine ⟨val B (d.take (n - 2)), ?_, ?_⟩
 ·have := val_lt (hd.take (n - 2)); rwa [List.length_take, Nat.min_eq_left (by omega)] at this
 ·rw [val_split B d (n - 2) (by omega), val_drop_succ B d _ (by omega), show n - 2 + 1 = n - 1 by omega, val_drop_succ B d (n - 1) (by omega), List.drop_eq_nil_of_le (by omega)]
  simp [val]
theorem val_top3 {B n : Nat} {u : List Nat} (hd : Dg B u) (hl : u.length = n + 1) (hn : 2 <= n) : ∃ u0, u0 < B ^ (n - 2) /\ val B u = u0 + B ^ (n - 2) * (u.getD (n - 2) 0 + B * (u.getD n 0 * B + u.getD (n - 1) 0)) := by
 refine ⟨val B (u.take (n - 2)), ?_, ?_⟩
 ·have := val_lt (hd.take (n - 2)); rwa [List.length_take, Nat.min_eq_left (by omega)] at this
 ·rw [val_split B u (n - 2) (by omega), val_drop_succ B u _ (by omega), show n - 2 + 1 = n - 1 by omega, val_drop_succ B u (n - 1) (by omega), show n - 1 + 1 = n by omega, val_drop_succ B u n (by omega), List.drop_eq_nil_of_le (by omega)]
  simp only [val, Nat.mul_zero, Nat.add_zero]
  rw [Nat.mul_comm B (u.getD n 0), Nat.add_comm (u.getD (n - 1) 0)]
def Gs (B U V g : Nat) : Prop := g < B /\ U < (g + 1) * V /\ g * V <= U + V
theorem div_of {U V q : Nat} (h1 : q * V <= U) (h2 : U < (q + 1) * V) : U / V = q /\ U % V = U - q * V := by
 have hV : 0 < V := by
  apply Nat.pos_of_ne_zero; intro e; subst e; simp at h2
 have e1 : U / V = q := by
  apply Nat.le_antisymm
  ·exact Nat.le_of_lt_succ ((Nat.div_lt_iff_lt_mul hV).2 (by rw [Nat.succ_eq_add_one]; exact h2))
  ·exact (Nat.le_div_iff_mul_le hV).2 h1
 refine ⟨e1, ?_⟩
 have := Nat.div_add_mod U V
 rw [e1, Nat.mul_comm] at this
 omega
theorem dig_ok {B U V g L M : Nat} (h : Gs B U V g) (hL : L < M) (hU : U < M) (he : U = L + g * V) : U / V = g /\ L = U % V := by
 obtain ⟨h1, h2⟩ := div_of (U := U) (V := V) (q := g) (by omega) h.2.1
 exact ⟨h1, by omega⟩
theorem dig_back {B U V g L L2 c M : Nat} (h : Gs B U V g) (hV : V < M) (hL : L < M) (he : U + M = L + g * V) (hL2 : L2 < M) (hc : c <= 1) (ha : L2 + M * c = L + V) : 0 < g /\ U / V = g - 1 /\ L2 = U % V := by
 obtain ⟨hb, h1, h2⟩ := h
 have hg : 0 < g := by
  apply Nat.pos_of_ne_zero; intro e; subst e; simp at he; omega
 obtain ⟨k, rfl⟩ : ∃ k, g = k + 1 := ⟨g - 1, by omega⟩
 rw [Nat.add_mul, Nat.one_mul] at h2 he
 obtain ⟨e1, e2⟩ := div_of (U := U) (V := V) (q := k) (by omega) (by rw [Nat.add_mul, Nat.one_mul]; omega)
 refine ⟨hg, by omega, ?_⟩
 have : c = 0 \/ c = 1 := by omega
 rcases this with rfl | rfl <;> omega
theorem val_part {B m k : Nat} {L : List Nat} (hm : m + k <= L.length) (hd : Dg B L) (h : val B (L.drop m) < B ^ k) (hB : 0 < B) : val B ((L.drop m).take k) = val B (L.drop m) /\ val B (L.drop (m + k)) = 0 := by
 have e := val_split B (L.drop m) k (by rw [List.length_drop]; omega)
 rw [List.drop_drop] at e
 have h0 : val B (L.drop (m + k)) = 0 := by
  apply Nat.eq_zero_of_not_pos; intro hp
  have : B ^ k * 1 <= B ^ k * val B (L.drop (m + k)) := Nat.mul_le_mul_left _ hp
  omega
 refine ⟨?_, h0⟩
 rw [h0] at e; omega
theorem div_round {A B V Q R x U : Nat} (h : A = Q * V + R) (hU : U = x + B * R) : x + B * A = (U / V + B * Q) * V + U % V := by
 have := Nat.div_add_mod U V
 have e : (U / V + B * Q) * V = V * (U / V) + B * (Q * V) := by grind
 rw [e, h, Nat.mul_add]
 omega
theorem unshift {a b s2 Q R : Nat} (hs : 0 < s2) (h : a * s2 = Q * (b * s2) + R) (hR : R < b * s2) : Q = a / b /\ R / s2 = a % b := by
 have h0 : Q * (b * s2) = Q * b * s2 := by grind
 have h1 : Q * b <= a := by
  apply Nat.le_of_mul_le_mul_right _ hs; omega
 obtain ⟨r, rfl⟩ : ∃ r, a = Q * b + r := ⟨a - Q * b, by omega⟩
 rw [Nat.add_mul] at h
 have h2 : R = r * s2 := by omega
 subst h2
 have h3 : r < b := Nat.lt_of_mul_lt_mul_right hR
 obtain ⟨e1, e2⟩ := div_of (U := Q * b + r) (V := b) (q := Q) (by omega) (by rw [Nat.add_mul]; omega)
 refine ⟨e1.symm, ?_⟩
 rw [Nat.mul_div_cancel _ hs]; omega
end Go.Proofs.YtdekkieajffblaaGreatDoor
