import Derived.Test.YtdekkieajffblaaGreatDoorW3
set_option linter.unusedVariables false
set_option linter.unusedSimpArgs false
namespace Go.Proofs.YtdekkieajffblaaGreatDoor
open Go.RowKit
def DivPost (w : World) (l l' : List Nat) (e : Ending) (w' : World) : Prop :=
 ∃ aq nq cq ar nr cr q r, e = .returned (.tuple #[.slice aq nq cq, .slice ar nr cr]) /\ Row .u32 B32 w' aq nq cq q /\ Row .u32 B32 w' ar nr cr r /\ val B32 q = val B32 l / val B32 l' /\ val B32 r = val B32 l % val B32 l' /\ nq <= 100 /\ nr <= 100 /\ Below w.heap.size w w'
theorem compareRows_bel (ao ao' : Option Addr) (n cap n' cap' : Nat) (l l' : List Nat) (w : World) (R : Row .u32 B32 w ao n cap l) (R' : Row .u32 B32 w ao' n' cap' l') (t : Tr l) (t' : Tr l') :
  Calls Tryz.prog 38 #[.slice ao n cap, .slice ao' n' cap'] w fun e w' => e = .returned (.int .i64 (cmpN (val B32 l) (val B32 l'))) /\ Below w.heap.size w w' :=
 (compareRows_any ao ao' n cap n' cap' l l' w R R' t t').mono fun e w' ⟨h1, k, h2⟩ => ⟨h1, h2 ▸ Bd w k⟩
theorem Onto.row_ {k : IntKind} {e : TypeId} {g n : Nat} {w w' : World} {cur : Array Value} {l : List Nat} {B cap : Nat} (h : Onto k e g 0 n w w' cur l) (hd : Dg B l) (h1 : n <= cap) (h2 : cap <= maxLen) : Row k B w' (some ⟨g, 0, none⟩) n cap l := by
 obtain ⟨c, hw⟩ := h.win
 exact ⟨hw.len, h1, h2, fun h => (by cases h), hd, hw.rd⟩
set_option maxHeartbeats 1000000 in
theorem divRows_any (ao ao' : Option Addr) (n cap n' cap' : Nat) (l l' : List Nat) (w : World) (R : Row .u32 B32 w ao n cap l) (R' : Row .u32 B32 w ao' n' cap' l') (t : Tr l) (t' : Tr l') (h0 : n' ≠ 0) (hs : n <= 40)
  (HL : Hid (2 <= n' -> val B32 l' <= val B32 l -> ∀ wx, Row .u32 B32 wx ao n cap l -> Row .u32 B32 wx ao' n' cap' l' -> Calls Tryz.prog 77 #[.slice ao n cap, .slice ao' n' cap'] wx (DivPost wx l l'))) :
  Calls Tryz.prog 51 #[.slice ao n cap, .slice ao' n' cap'] w (DivPost w l l') := by
 have HR := hid R
 have HR' := hid R'
 have HT := hid t
 have HT' := hid t'
 have hmx := R'.most
 have hft := R'.fits
 unfold maxLen at hmx
 have hb32 : 0 < B32 := by decide
 have hpos : Hid (0 < val B32 l') := by
  have := t'.ne_zero hb32 (fun e => h0 (by rw [<- R'.len, e]; rfl))
  unfold Hid; omega
 clear R R' t t' hb32
 go_enter Tryz.func51, Tryz.ntmps51
 go_wp2_with fail
 refine (compareRows_bel ao ao' n cap n' cap' l l' _ HR.out HR'.out HT.out HT'.out).mono ?_
 rintro e w1 ⟨rfl, hb1⟩
 have R1 := hid (HR.out.below hb1)
 have R1' := hid (HR'.out.below hb1)
 have HB1 := hid hb1
 clear hb1
 by_cases hlt : val B32 l < val B32 l'
 ·have ec : cmpN (val B32 l) (val B32 l') = -1 := by simp [cmpN, hlt]
  rw [ec]
  have HLT := hid hlt
  clear hlt ec
  go_wp2_with (go_at_call 74; refine (clone_any ao n cap l _ R1.out (by omega)).mono ?_; rintro e w2 ⟨ao2, cap2, rfl, hO, hb2⟩; have HO := hid hO; have HB2 := hid hb2; clear hO hb2)
  go_ret2
  refine ⟨none, 0, 0, ao2, n, cap2, [], l, rfl, Row.nil _ _ _ _, HO.out.row, ?_, ?_, by omega, by omega, Bt HB1.out HB2.out⟩
  ·rw [Nat.div_eq_of_lt HLT.out]; rfl
  ·rw [Nat.mod_eq_of_lt HLT.out]
 ·have hN : 0 <= cmpN (val B32 l) (val B32 l') := by unfold cmpN; rw [if_neg hlt]; split <;> omega
  have hN2 := (cmpN_bd (val B32 l) (val B32 l')).2
  generalize cmpN (val B32 l) (val B32 l') = N at *
  have HGE : Hid (val B32 l' <= val B32 l) := by unfold Hid; omega
  clear hlt
  by_cases h1 : n' = 1
  ·subst h1
   have hn0 : n ≠ 0 := by
    intro e
    subst e
    have hl : l = [] := List.length_eq_zero_iff.1 HR.out.len
    have h1 := HGE.out
    have h2 := hpos.out
    rw [hl] at h1
    simp [val] at h1; omega
   obtain ⟨v, hv⟩ : ∃ v, l' = [v] := by
    have := HR'.out.len
    match l', this with
    | [v], _ => exact ⟨v, rfl⟩
   subst hv
   obtain ⟨b, o, rfl, hl, hc⟩ := R1'.out.rd.some (by simp)
   have hcv : w1.cell? ⟨b, o, none⟩ = some (.int .u32 v) := by simpa using hc 0 (by simp)
   have hvb : v < B32 := HR'.out.dg v (by simp)
   have hv0 : 0 < v := by have := hpos.out; simp [val] at this; exact this
   have hval1 : Hid (val B32 [v] = v) := by simp [Hid, val]
   clear hc
   go_wp2_with (go_at_call 74; refine (clone_any ao n cap l _ R1.out (by omega)).mono ?_; rintro e w2 ⟨ao2, cap2, rfl, hO, hb2⟩; have hcv2 := (hb2.cell (p := ⟨b, o, none⟩) hl).trans hcv; obtain ⟨g, cur, rfl, hg, hW⟩ := hO.own.resolve_left hn0; have HO := hid hO; have HB2 := hid hb2; have HW := hid hW; have HG := hid hg; clear hO hb2 hW hg)
   have hcf := HO.out.row.fits
   have hcm := HO.out.row.most
   refine (divSmall_any g 0 n cap2 cur l v w2 HW.out HO.out.row.dg (Nat.le_trans hcf hcm) hv0 hvb).mono ?_
   rintro e w3 ⟨rfl, l3, hT, hD3, hV3⟩
   have R3 := hid (hT.row_ hD3 hcf hcm)
   have HB3 : Hid (Below w.heap.size w w3) := (Bt HB1.out HB2.out).trans (hT.below (Nat.le_trans HB1.out.size HG.out))
   obtain ⟨m, hm⟩ : ∃ m, m = val B32 l % v := ⟨_, rfl⟩
   rw [<- hm]
   have hmb : m < B32 := by rw [hm]; exact Nat.lt_trans (Nat.mod_lt _ hv0) hvb
   have HM := hid hm
   have HV3 := hid hV3
   clear hm hT hD3 hV3
   go_wp2
   go_ret2
   refine ⟨some ⟨g, 0, none⟩, n, cap2, some ⟨w3.heap.size, 0, none⟩, 1, 1, l3, [m], rfl, R3.out.below (Ba _ _), ⟨rfl, Nat.le_refl _, by unfold maxLen; omega, fun h => (by cases h), Dg.one hmb, .inr ⟨w3.heap.size, 0, rfl, by simp, ?_⟩⟩, ?_, ?_, by omega, by omega, HB3.out.alloc HB3.out.size _⟩
   ·intro i hi
    obtain rfl : i = 0 := by simp at hi; omega
    rw [cell_at _ _ _ _ _ rfl]; simp
   ·rw [HV3.out, hval1.out]
   ·rw [hval1.out, <- HM.out]; simp [val]
  ·have h2 : 2 <= n' := by omega
   have e1 : ((n' : Int) == 1) = false := by simp; omega
   go_wp2_with (go_at_call 77; refine (HL.out h2 HGE.out _ R1.out R1'.out).mono ?_; rintro e w2 hp; obtain ⟨aq, nq, cq, ar, nr, cr, q, r, rfl, hq, hr, hvq, hvr, hn1, hn2, hb2⟩ := hp; have H1 := hid hq; have H2 := hid hr; have H3 := hid hvq; have H4 := hid hvr; have H5 := hid hb2; clear hq hr hvq hvr hb2)
   go_ret2
   exact ⟨aq, nq, cq, ar, nr, cr, q, r, rfl, H1.out, H2.out, H3.out, H4.out, hn1, hn2, Bt HB1.out H5.out⟩
theorem keep2 {wx wy : World} {p q : Nat} {u v : Value} (h : wx.cell? ⟨p, 0, none⟩ = some u /\ wx.cell? ⟨q, 0, none⟩ = some v) (hb : Below wx.heap.size wx wy) : wy.cell? ⟨p, 0, none⟩ = some u /\ wy.cell? ⟨q, 0, none⟩ = some v :=
 ⟨(hb.cell (p := ⟨p, 0, none⟩) (cell_lt h.1)).trans h.1, (hb.cell (p := ⟨q, 0, none⟩) (cell_lt h.2)).trans h.2⟩
theorem keep2s {wx : World} {p q s : Nat} {u v u' v' : Value} (h : wx.cell? ⟨p, 0, none⟩ = some u /\ wx.cell? ⟨q, 0, none⟩ = some v) (hp : p ≠ s) (hq : q ≠ s) :
  ((wx.setCell ⟨s, 0, none⟩ u').setCell ⟨s, 1, none⟩ v').cell? ⟨p, 0, none⟩ = some u /\ ((wx.setCell ⟨s, 0, none⟩ u').setCell ⟨s, 1, none⟩ v').cell? ⟨q, 0, none⟩ = some v :=
 ⟨(World.cell?_of_block (w := wx) (a := ⟨p, 0, none⟩) ((Below.heap_setCell _ _ _ _ hp).trans (Below.heap_setCell _ _ _ _ hp))).trans h.1, (World.cell?_of_block (w := wx) (a := ⟨q, 0, none⟩) ((Below.heap_setCell _ _ _ _ hq).trans (Below.heap_setCell _ _ _ _ hq))).trans h.2⟩
def DivAns (w : World) (neg neg' : Bool) (x y : Nat) (e : Ending) (w' : World) : Prop :=
 ∃ xq xr lq lr, e = .returned (.tuple #[xq, xr, .int .i64 0]) /\ IntIs w' xq ((neg != neg') && decide (lq ≠ [])) lq /\ Tr lq /\ val B32 lq = x / y /\ IntIs w' xr (neg && decide (lr ≠ [])) lr /\ Tr lr /\ val B32 lr = x % y /\ Below w.heap.size w w'
set_option maxHeartbeats 2000000 in
theorem div_any (neg neg' : Bool) (ao ao' : Option Addr) (n cap n' cap' : Nat) (l l' : List Nat) (w : World) (R : Row .u32 B32 w ao n cap l) (R' : Row .u32 B32 w ao' n' cap' l') (g1 : goodB neg l = true) (g2 : goodB neg' l' = true) (h0 : n' ≠ 0)
  (HL : Hid (2 <= n' -> val B32 l' <= val B32 l -> ∀ wx, Row .u32 B32 wx ao n cap l -> Row .u32 B32 wx ao' n' cap' l' -> Calls Tryz.prog 77 #[.slice ao n cap, .slice ao' n' cap'] wx (DivPost wx l l'))) :
  Calls Tryz.prog 30 #[.agg #[.bool neg, .slice ao n cap], .agg #[.bool neg', .slice ao' n' cap']] w (DivAns w neg neg' (val B32 l) (val B32 l')) := by
 have HR := hid R
 have HR' := hid R'
 have G1 := hid g1
 have G2 := hid g2
 have hn40 : n <= 40 := by rw [<- R.len]; exact goodB_len g1
 have hmx := R'.most
 have hft := R'.fits
 unfold maxLen at hmx
 have e1 : ((n' : Int) == 0) = false := by simp; omega
 clear R R' g1 g2
 go_enter Tryz.func30, Tryz.ntmps30
 go_wp2_with fail
 obtain ⟨x1, x2, x3, x4, hb0⟩ := four_boxes 24 w neg neg' false false ao ao' none none n cap n' cap' 0 0 0 0 _ rfl
 generalize hW0 : ((((w.alloc (.cells #[.bool neg, .slice ao n cap] 24)).alloc (.cells #[.bool neg', .slice ao' n' cap'] 24)).alloc (.cells #[.bool false, .slice none 0 0] 24)).alloc (.cells #[.bool false, .slice none 0 0] 24)) = W0 at *
 clear hW0
 refine (good_any neg ao n cap l W0 (HR.out.below hb0)).mono ?_
 rintro e w1 ⟨rfl, hb1⟩
 rw [G1.out]
 obtain ⟨c20, c21⟩ := (x2.on hb1).c
 have X1 := hid (x1.on hb1)
 have X2 := hid (x2.on hb1)
 have X3 := hid (x3.on hb1)
 have X4 := hid (x4.on hb1)
 have HB1 := hid (Bt hb0 hb1)
 clear x1 x2 x3 x4 hb0 hb1
 go_wp2_with fail
 refine (good_any neg' ao' n' cap' l' w1 (HR'.out.below HB1.out)).mono ?_
 rintro e w2 ⟨rfl, hb2⟩
 rw [G2.out]
 clear c20 c21
 obtain ⟨c10, c11⟩ := (X1.out.on hb2).c
 obtain ⟨c20, c21⟩ := (X2.out.on hb2).c
 have Y1 := hid (X1.out.on hb2)
 have Y2 := hid (X2.out.on hb2)
 have Y3 := hid (X3.out.on hb2)
 have Y4 := hid (X4.out.on hb2)
 have HB2 := hid (Bt HB1.out hb2)
 clear hb2 X1 X2 X3 X4 HB1
 go_wp2_with fail
 refine (divRows_any ao ao' n cap n' cap' l l' w2 (HR.out.below HB2.out) (HR'.out.below HB2.out) (goodB_tr G1.out) (goodB_tr G2.out) h0 hn40 HL).mono ?_
 rintro e w3 ⟨aq, nq, cq, ar, nr, cr, q, r, rfl, hq, hr, hvq, hvr, hn1, hn2, hb3⟩
 clear c10 c11 c20 c21
 obtain ⟨c10, _⟩ := (Y1.out.on hb3).c
 obtain ⟨c20, _⟩ := (Y2.out.on hb3).c
 have X3 := hid (Y3.out.on hb3)
 have X4 := hid (Y4.out.on hb3)
 have HB3 := hid (Bt HB2.out hb3)
 have HQ := hid hq
 have HRr := hid hr
 have HVQ := hid hvq
 have HVR := hid hvr
 clear hb3 Y1 Y2 Y3 Y4 HB2 hq hr hvq hvr
 go_wp2
 go_region_held3 (fun wx => wx.cell? ⟨w.heap.size, 0, none⟩ = some (.bool neg) /\ wx.cell? ⟨w.heap.size + 1, 0, none⟩ = some (.bool neg'))
  (first | exact ⟨c10, c20⟩ | exact keep2 (by assumption) (by assumption) | exact keep2s (by assumption) (by omega) (by omega))
  (first
   | (go_at_call_of 52 (Value.slice aq nq cq); refine (whole_any (neg != neg') aq nq cq q _ ?_).mono ?_; (exact HQ.out.below (Bd w3 1)); rintro e wa ⟨xq, lq, rfl, hIq, htq, hvq2, hlq, hba⟩; obtain ⟨aq', nq', cq', sq, rfl, HSq, Rq⟩ := hIq.open_; have HTq := hid htq; have HVq := hid hvq2; have HRq := hid Rq; clear hIq htq hvq2 hlq Rq)
   | (go_at_call_of 52 (Value.slice ar nr cr); refine (whole_any neg ar nr cr r _ ?_).mono ?_; (exact (HRr.out.below (Bd w3 1)).below hba); rintro e wb ⟨xr, lr, rfl, hIr, htr, hvr2, hlr, hbb⟩; obtain ⟨ar', nr', cr', sr, rfl, HSr, Rr⟩ := hIr.open_; have HTr := hid htr; have HVr := hid hvr2; have HRr2 := hid Rr; have Z3 := ((X3.out.on (Bd w3 1)).on hba).on hbb; have Z4 := ((X4.out.on (Bd w3 1)).on hba).on hbb; obtain ⟨z30, z31⟩ := Z3.c; obtain ⟨z40, z41⟩ := Z4.c; obtain ⟨f30, f31⟩ := Z3.f; obtain ⟨f40, f41⟩ := Z4.f; have HZ3 := hid Z3; have HZ4 := hid Z4; clear hIr htr hvr2 hlr Rr Z3 Z4))
 have b3 := (HZ3.out.set2 sq aq' nq' cq').far2 (q := w.heap.size + 1 + 1 + 1) (by omega) (.bool sr) (.slice ar' nr' cr')
 have b4' := HZ4.out.far2 (q := w.heap.size + 1 + 1) (by omega) (.bool sq) (.slice aq' nq' cq')
 have b4 := b4'.set2 sr ar' nr' cr'
 have rq := ((HRq.out.below hbb).setBox2 HZ3.out sq (.slice aq' nq' cq')).setBox2 b4' sr (.slice ar' nr' cr')
 have rr := (HRr2.out.setBox2 HZ3.out sq (.slice aq' nq' cq')).setBox2 b4' sr (.slice ar' nr' cr')
 have hbW : Below w.heap.size w wb := Bt (Bt (Bt HB3.out (Bd w3 1)) hba) hbb
 have bF := (((hbW.setCell (p := ⟨w.heap.size + 1 + 1, 0, none⟩) (by simp; omega) (.bool sq)).setCell (p := ⟨w.heap.size + 1 + 1, 1, none⟩) (by simp; omega) (.slice aq' nq' cq')).setCell (p := ⟨w.heap.size + 1 + 1 + 1, 0, none⟩) (by simp; omega) (.bool sr)).setCell (p := ⟨w.heap.size + 1 + 1 + 1, 1, none⟩) (by simp; omega) (.slice ar' nr' cr')
 rename_i hHeld
 clear hHeld
 generalize hF : ((((wb.setCell ⟨w.heap.size + 1 + 1, 0, none⟩ (.bool sq)).setCell ⟨w.heap.size + 1 + 1, 1, none⟩ (.slice aq' nq' cq')).setCell ⟨w.heap.size + 1 + 1 + 1, 0, none⟩ (.bool sr)).setCell ⟨w.heap.size + 1 + 1 + 1, 1, none⟩ (.slice ar' nr' cr')) = F at *
 have ⟨c30, c31⟩ := b3.c
 have ⟨c40, c41⟩ := b4.c
 have RQ := hid rq
 have RR := hid rr
 have BF := hid bF
 clear hF b3 b4 rq rr bF b4' hbW z30 z31 z40 z41 f30 f31 f40 f41 HZ3 HZ4 hba hbb c10 c20 HRq HRr2
 go_wp2
 exact bodyPost_ret (v := .tuple #[.agg #[.bool sq, .slice aq' nq' cq'], .agg #[.bool sr, .slice ar' nr' cr'], .int .i64 0]) (by simp [results, Tryz.results30, go_sem, c30, c31, c40, c41]) rfl
  ⟨_, _, lq, lr, rfl, ⟨aq', nq', cq', by rw [HSq.out], RQ.out⟩, HTq.out, by rw [HVq.out, HVQ.out], ⟨ar', nr', cr', by rw [HSr.out], RR.out⟩, HTr.out, by rw [HVr.out, HVR.out], BF.out⟩
set_option maxHeartbeats 400000 in
theorem isRadix_any (r : Int) (w : World) :
  Calls Tryz.prog 141 #[.int .i64 r] w fun e w' => e = .returned (.bool (decide (2 <= r /\ r <= 36))) /\ w' = w := by
 by_cases h1 : 2 <= r
 ·have e1 : decide ((2 : Int) <= r) = true := by simp [h1]
  go_enter Tryz.func141, Tryz.ntmps141
  go_wp2
  go_ret
  exact ⟨ret_bool (by simp [h1]), rfl⟩
 ·have e1 : decide ((2 : Int) <= r) = false := by simp; omega
  go_enter Tryz.func141, Tryz.ntmps141
  go_wp2
  go_ret
  exact ⟨ret_bool (by simp [h1]), rfl⟩
def dgt (c : Nat) : Nat := if 48 <= c /\ c <= 57 then c - 48 else if 97 <= c /\ c <= 122 then c - 87 else if 65 <= c /\ c <= 90 then c - 55 else 36
theorem dgt_le (c : Nat) : dgt c <= 36 := by unfold dgt; split <;>(try split) <;>(try split) <;> omega
set_option maxHeartbeats 800000 in
theorem digitOf_any (c : Nat) (hc : c < 256) (w : World) :
  Calls Tryz.prog 164 #[.int .u8 c] w fun e w' => e = .returned (.int .i64 (dgt c)) /\ w' = w := by
 by_cases a1 : 48 <= c /\ c <= 57
 ·obtain ⟨a, b⟩ := a1
  have HV : Hid (dgt c = c - 48) := by unfold Hid dgt; rw [if_pos ⟨a, b⟩]
  go_enter Tryz.func164, Tryz.ntmps164
  go_wp2
  go_ret
  exact ⟨ret_i64 (by rw [HV.out]; omega), rfl⟩
 ·by_cases a2 : 97 <= c /\ c <= 122
  ·obtain ⟨a, b⟩ := a2
   have HV : Hid (dgt c = c - 87) := by unfold Hid dgt; rw [if_neg a1, if_pos ⟨a, b⟩]
   clear a1
   go_enter Tryz.func164, Tryz.ntmps164
   go_wp2
   go_ret
   exact ⟨ret_i64 (by rw [HV.out]; omega), rfl⟩
  ·by_cases a3 : 65 <= c /\ c <= 90
   ·obtain ⟨a, b⟩ := a3
    have HV : Hid (dgt c = c - 55) := by unfold Hid dgt; rw [if_neg a1, if_neg a2, if_pos ⟨a, b⟩]
    clear a1 a2
    go_enter Tryz.func164, Tryz.ntmps164
    go_wp2
    go_ret
    exact ⟨ret_i64 (by rw [HV.out]; omega), rfl⟩
   ·have HV : Hid (dgt c = 36) := by unfold Hid dgt; rw [if_neg a1, if_neg a2, if_neg a3]
    have hr : c < 48 \/ (57 < c /\ c < 65) \/ (90 < c /\ c < 97) \/ 122 < c := by omega
    clear a1 a2 a3
    rcases hr with h | ⟨h, h'⟩ | ⟨h, h'⟩ | h
    all_goals
     go_enter Tryz.func164, Tryz.ntmps164
     go_wp2
     go_ret
     exact ⟨ret_i64 (by rw [HV.out]; rfl), rfl⟩
theorem mulStep {B f vq P vt d x cc : Nat} (h : vq + P * cc = vt * f + d) : vq + P * ((x * f + cc) % B) + P * B * ((x * f + cc) / B) = (vt + P * x) * f + d := by
 have h1 := Nat.div_add_mod (x * f + cc) B
 have h2 : P * ((x * f + cc) % B) + P * B * ((x * f + cc) / B) = P * (x * f + cc) := by
  rw [Nat.mul_assoc, <- Nat.mul_add, Nat.add_comm ((x * f + cc) % B), h1]
 rw [Nat.add_assoc, h2, Nat.mul_add, Nat.add_mul, Nat.mul_assoc P x f]
 omega
theorem set_append_drop {q l : List Nat} {m x : Nat} (hq : q.length = m) (hm : m < l.length) : (q ++ l.drop m).set m x = q ++ [x] ++ l.drop (m + 1) := by
 rw [drop_cons l m hm, List.set_append, if_neg (by omega), hq, Nat.sub_self]
 simp
set_option maxHeartbeats 1000000 in
theorem mulSmall_any (g o n cap : Nat) (cur : Array Value) (l : List Nat) (f d : Nat) (w : World) (W : Win .u32 58 w g o n cur l) (hdg : Dg B32 l) (hn : n <= maxLen) (hf : f < B32) (hd : d < B32) :
  Calls Tryz.prog 165 #[.slice (some ⟨g, o, none⟩) n cap, .int .u32 f, .int .u32 d] w fun e w' => ∃ l' c, e = .returned (.int .u32 (c : Nat)) /\ Onto .u32 58 g o n w w' cur l' /\ Dg B32 l' /\ c < B32 /\ val B32 l' + B32 ^ n * c = val B32 l * f + d := by
 have HW := hid W
 have HD := hid hdg
 have HL := hid W.len
 unfold maxLen at hn
 unfold B32 at hf hd
 clear W hdg
 go_enter Tryz.func165, Tryz.ntmps165
 go_wp2
 go_loopw [7, 8, 9, 10, 15] (fun c _ _ _ i wr => ∃ m : Nat, ∃ cc : Nat, ∃ q : List Nat, m <= n /\ i = .int .i64 m /\ c = .int .u64 cc /\ cc < 4294967296 /\ Hid (q.length = m /\ Dg B32 q /\ val B32 q + B32 ^ m * cc = val B32 (l.take m) * f + d /\ Onto .u32 58 g o n w wr cur (q ++ l.drop m))) (fun _ _ _ _ i _ => n - (intOf i).toNat)
 case atStart => exact ⟨0, d, [], Nat.zero_le _, rfl, rfl, hd, rfl, Dg.nil _, by simp [val], by simpa using HW.out.onto⟩
 case round =>
  obtain ⟨m, cc, q, hm, rfl, rfl, hcc, hI⟩ := hrel
  by_cases hlt : m < n
  ·obtain ⟨x, hx⟩ : ∃ x, x = l.getD m 0 := ⟨_, rfl⟩
   have hll : m < l.length := by rw [HL.out]; exact hlt
   have hxb : x < 4294967296 := by rw [hx]; exact HD.out.getD _ hll
   have hc : wr.cell? ⟨g, o + m, none⟩ = some (.int .u32 x) := by
    have := hI.out.2.2.2.cell (i := m) hlt
    rw [List.getD_eq_getElem?_getD, List.getElem?_append_right (by rw [hI.out.1]; omega), hI.out.1, Nat.sub_self, List.getElem?_drop, Nat.add_zero, <- List.getD_eq_getElem?_getD, <- hx] at this
    exact this
   have hfz : wr.frozen? ⟨g, o + m, none⟩ = false := hI.out.2.2.2.frozen _
   have HX := hid hx
   have HLL := hid hll
   clear hx hll
   have hb : x * f + cc <= 18446744073709551615 := by
    have : x * f <= 4294967295 * 4294967295 := Nat.mul_le_mul (by omega) (by omega)
    omega
   obtain ⟨t, ht⟩ : ∃ t, t = x * f + cc := ⟨_, rfl⟩
   have HT := hid ht
   clear ht
   go_wp2
   obtain ⟨h1, h2, h3, h4⟩ := hI.out
   have e1 : ((x : Int) * f + cc) / 4294967296 = ((t / 4294967296 : Nat) : Int) := by rw [HT.out]; omega
   have e2 : ((x : Int) * f + cc) % 4294967296 = ((t % 4294967296 : Nat) : Int) := by rw [HT.out]; omega
   rw [e1, e2]
   refine ⟨⟨m + 1, t / 4294967296, q ++ [t % 4294967296], by omega, by go_num, rfl, ?_, ?_, ?_, ?_, ?_⟩, by simp [intOf]; omega⟩
   ·rw [HT.out]; omega
   ·simp [h1]
   ·exact h2.append (Dg.one (Nat.mod_lt _ (by decide)))
   ·rw [val_snoc, h1, val_take_succ B32 l m HLL.out, <- HX.out, HT.out, Nat.pow_succ]
    exact mulStep h3
   ·rw [<- set_append_drop h1 HLL.out]
    exact h4.store hlt _
  ·obtain rfl : m = n := by omega
   go_wp2
   go_ret
   obtain ⟨h1, h2, h3, h4⟩ := hI.out
   refine ⟨q, cc, rfl, ?_, h2, hcc, ?_⟩
   ·rw [List.drop_eq_nil_of_le (by rw [HL.out]; omega), List.append_nil] at h4; exact h4
   ·rw [List.take_of_length_le (by rw [HL.out]; omega)] at h3; exact h3
end Go.Proofs.YtdekkieajffblaaGreatDoor
