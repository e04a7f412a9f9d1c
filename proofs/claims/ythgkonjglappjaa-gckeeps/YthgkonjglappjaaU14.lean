/-
  Walk: GcOrder.
-/
import Derived.Test.YthgkonjglappjaaU13
set_option linter.unusedVariables false
set_option linter.unusedSimpArgs false
set_option maxRecDepth 100000
namespace Go.Proofs.Ythgkonjglappjaa
open Go.RowKit

theorem h1g_on {w1 wx wy : World} {p o : Nat} {a : Value} (h : wx.cell? ⟨p, o, none⟩ = some a ∧ Below w1.heap.size w1 wx) (hb : Below wx.heap.size wx wy) : wy.cell? ⟨p, o, none⟩ = some a ∧ Below w1.heap.size w1 wy :=
  ⟨(hb.cell (p := ⟨p, o, none⟩) (cell_lt h.1)).trans h.1, Bt h.2 hb⟩
set_option maxHeartbeats 16000000 in
theorem gcOrder_walk (ao : Option Addr) (n cap : Nat) (xs : List Oj) (fo : Option Addr) (m fc : Nat) (fs : List Fd) (w : World) (R : ORow w ao n cap xs) (Q : FRow w fo m fc fs) :
    Calls Try.prog 7 #[.slice ao n cap, .slice fo m fc] w fun e w' => e = .returned (.bool true) ∧ Below w.heap.size w w' := by
  have C0 := hid (fewg_any ao n cap xs fo m fc fs w R Q)
  have CA := hid gawake_any
  obtain ⟨fb, hfb⟩ : ∃ b, b = fewG xs fs := ⟨_, rfl⟩
  rw [← hfb] at C0
  cases fb
  · clear hfb
    go_enter Try.func7, Try.ntmps7
    go_wp2_with (go_at_call 9; (refine C0.out.mono ?_); rintro e w9 ⟨rfl, hw9⟩; rw [hw9]; clear hw9)
    go_ret
    exact ⟨rfl, Below.refl _ _⟩
  have hus := made_used hfb.symm
  have hm60 : m ≤ 60 := by have := (few_parts_g hfb.symm).2.1; have := Q.len; omega
  have C1 := hid (made_any ao n cap xs fo m fc fs w R Q hfb.symm)
  clear hfb R Q
  obtain ⟨os, hos⟩ : ∃ os, os = madeL xs := ⟨_, rfl⟩
  obtain ⟨rs, hrs⟩ : ∃ rs, rs = fs.map (saysM (atsL xs)) := ⟨_, rfl⟩
  rw [← hos] at hus
  rw [← hos, ← hrs] at C1
  clear hos hrs
  go_enter Try.func7, Try.ntmps7
  go_wp2_with (first
    | (go_at_call 9; (refine C0.out.mono ?_); rintro e w9 ⟨rfl, hw9⟩; rw [hw9]; clear hw9)
    | (go_at_call 10; (refine C1.out.mono ?_); rintro e W1 ⟨v, F, g, vL, ls, ra, rc, rfl, hmx, hU, hra, b1⟩; obtain ⟨gh, rfl⟩ := hmx.ph.ptr; have HMX := hid hmx; have HUR := hid hU; have HB1 := hid b1; have HRA := hid hra; clear hmx hU hra b1))
  have CL := hid (rlives_any ra m rc rs W1 HMX.out.rh HUR.out)
  rw [HMX.out.mp] at CL
  go_wp2_with fail
  with_reducible refine CL.out.mono ?_
  rintro e W2 ⟨gb, rfl, hgb, hbr, b2⟩
  have HM2 := hid (HMX.out.on b2)
  have HU2 := hid (HUR.out.on b2)
  have HBR := hid hbr
  have HB2 := hid (Bt HB1.out b2)
  have HGF : Hid (¬ F gb) := fun e => by have := (HMX.out.ph.ge _ e).2; omega
  clear hbr b2 hgb CL
  have CC := hid (pcollect_any HM2.out.okP ra m rc rs W2 HM2.out.ph HU2.out HM2.out.bw (fun a ha => (HRA.out a ha).2.1) (by omega))
  have HLl := lvL_length os rs
  have HOK := hid (coll_ok HMX.out.okP (by omega) HLl)
  obtain ⟨l, hl⟩ : ∃ l, l = lvL os rs := ⟨_, rfl⟩
  rw [← hl] at CC HBR HLl HOK
  clear hl
  go_wp2_with fail
  with_reducible refine CC.out.mono ?_
  rintro e W3 ⟨sa, sc, rfl, _, _, F3, hp3, hf3, _, hm3⟩
  have HP3 := hid hp3
  have HBR3 : Hid (BR gb l W3) := (hm3.block gb (Array.getElem?_eq_some_iff.1 HBR.out).1 HGF.out).trans HBR.out
  have HRH3 := hid (HM2.out.rh.mod hm3 (fun b hb hf => HM2.out.dj b hf hb))
  have HB3 : Hid (Below w.heap.size w W3) := HB2.out.trans (hm3.below (fun b hb => (HM2.out.ph.ge b hb).1) HM2.out.bw)
  clear hp3 hf3 hm3 CC
  have hlo : ls.length = os.length := by rw [← HMX.out.mp, List.length_map]
  have hcu : usedL (collO os l) ≤ 1860 := by
    have h1 := toM_le HLl (i := os.length) (Nat.le_refl _)
    have h2 := at_all os
    unfold toM at h1
    rw [keep_all _ _ HLl] at h1
    rw [coll_used]; omega
  have hcl := len_le_used (collO os l)
  have CO := hid (pobjects_any HOK.out W3 HP3.out)
  go_wp2_with fail
  with_reducible refine CO.out.mono ?_
  rintro e W4 ⟨oa, oc, rfl, hU4, _, b4⟩
  have HU4 := hid hU4
  have hof := hU4.fits
  have hom := hU4.most
  unfold maxLen at hom
  have HP4 := hid (HP3.out.keep (fun b hf => b4.block b (HP3.out.ge b hf).2))
  have HBR4 := hid (HBR3.out.on b4)
  have HRH4 := hid (HRH3.out.on b4)
  have HB4 := hid (Bt HB3.out b4)
  clear hU4 b4 CO
  obtain ⟨gl0, cp0, rfl⟩ := vl_slice HRH4.out
  obtain ⟨wl, hwl⟩ : ∃ x, x = (collO os l).length := ⟨_, rfl⟩
  rw [← hwl] at HU4 hof hcl ⊢
  have HWL := hid hwl
  have hol := len_le_used os
  have HLO := hid hlo
  have hll2 : l.length = os.length := HLl
  have hls : os.length ≤ 1860 := by omega
  have HLL := hid HLl
  have CPt : Hid (∀ T : Nat, T ≤ 1860 → ∀ wx, Calls Try.prog 23 #[.int .i64 (T : Nat)] wx fun e w' => e = .returned (.int .u64 (wordR 2 (T : Nat) 0)) ∧ Below wx.heap.size wx w') := fun T hT wx => rptr_any T (by omega) wx
  have CUs : Hid (∀ wx, Below W4.heap.size W4 wx → Calls Try.prog 26 #[.pointer (some ⟨gh, 0, none⟩)] wx fun e w' => e = .returned (.int .i64 (toM os l os.length : Nat)) ∧ Below wx.heap.size wx w') := fun wx hb => by
    have := pused_any wx (HP4.out.keep (fun b hf => hb.block b (HP4.out.ge b hf).2))
    rw [wordsL_length, coll_used] at this
    have e : toM os l os.length = usedL (keepL os l) := by unfold toM; rw [keep_all _ _ HLL.out]
    rw [e]; exact this
  have HCE : Hid (cntM os l os.length = wl) := by unfold Hid; rw [cntM_all HLL.out, hwl]
  clear hlo HLl hwl hol
  go_wp2_with fail
  go_loopw [10, 12, 13] (fun va vn vi wr => ∃ q : Nat, q ≤ os.length ∧ va = .int .i64 (toM os l q : Nat) ∧ vn = .int .i64 (cntM os l q : Nat) ∧ vi = .int .i64 q ∧ Hid (Below W4.heap.size W4 wr)) (fun _ _ vi _ => os.length - (intOf vi).toNat)
  case atStart => exact ⟨0, Nat.zero_le _, by rw [toM_zero]; rfl, by simp [cntM, keepL], rfl, Below.refl _ _⟩
  case round =>
    obtain ⟨q, hq, rfl, rfl, rfl, hb⟩ := hrel
    by_cases hlt : q < os.length
    · have hlto : q < os.length := hlt
      obtain ⟨gl, xa, xc, rfl, hc1, hc2, d1, d2, d3, dU⟩ := (HRH4.out.on hb.out).fld (by rw [HLO.out]; exact hlt)
      rw [HMX.out.mp] at d2 d3 dU
      rw [HLO.out] at d1 hc1
      have HD : Hid (∀ wx, Below wr.heap.size wr wx → wx.cell? ⟨g, 1, none⟩ = some (.slice (some ⟨gl, 0, none⟩) os.length cp0) ∧ wx.cell? ⟨gl, q * 3 + 1, none⟩ = some (.int .i64 (os.getD q default).kind) ∧ wx.cell? ⟨gl, q * 3 + 2, none⟩ = some (.slice xa (os.getD q default).f.length xc)) := fun wx hb' =>
        ⟨(hb'.cell (p := ⟨g, 1, none⟩) (cell_lt d1)).trans d1, (hb'.cell (p := ⟨gl, q * 3 + 1, none⟩) (cell_lt d2)).trans d2, (hb'.cell (p := ⟨gl, q * 3 + 2, none⟩) (cell_lt d3)).trans d3⟩
      have hxf := dU.fits
      have hxm := dU.most
      unfold maxLen at hc2 hxm
      have cb := (HBR4.out.on hb.out).get (i := q) (by omega)
      have hts := toM_succ (i := q) hlto HLL.out
      have hcs := cntM_succ (q := q) hlto HLL.out
      have htl : toM os l (q + 1) ≤ 1860 := by
        have h1 := toM_le HLL.out (i := q + 1) (by omega)
        have h2 := used_take_le os (q + 1)
        unfold atO at h1 h2; omega
      obtain ⟨bq, hbq⟩ : ∃ b, b = l.getD q false := ⟨_, rfl⟩
      rw [← hbq] at cb hts hcs
      cases bq
      · have e1 : toM os l (q + 1) = toM os l q := by simpa using hts
        have e2 : cntM os l (q + 1) = cntM os l q := by simpa using hcs
        have HE1 := hid e1
        have HE2 := hid e2
        clear hts hcs e1 e2 hbq htl dU d2 d3
        obtain ⟨T, hT⟩ : ∃ T, T = toM os l q := ⟨_, rfl⟩
        obtain ⟨c, hc⟩ : ∃ c, c = cntM os l q := ⟨_, rfl⟩
        rw [← hT] at HE1
        rw [← hc] at HE2
        rw [← hT, ← hc]
        clear hT hc
        go_wp2_with fail
        exact ⟨⟨q + 1, by omega, by rw [HE1.out], by rw [HE2.out], by go_num, hb⟩, by simp [intOf] <;> omega⟩
      · obtain ⟨k1, k2, k3⟩ := coll_at hlto HLL.out hbq.symm
        have e1 : toM os l (q + 1) = toM os l q + (1 + (os.getD q default).f.length) := by simpa using hts
        have e2 : cntM os l (q + 1) = cntM os l q + 1 := by simpa using hcs
        rw [← HWL.out] at k1
        obtain ⟨ob, oo, rfl, hob, hoc⟩ := HU4.out.some (by omega)
        have hcc := (hb.out.cell (p := ⟨ob, oo + cntM os l q, none⟩) hob).trans (hoc _ k1)
        have hcl2 : cntM os l q < (collO os l).length := by rw [← HWL.out]; exact k1
        rw [ptrs_get hcl2, k3] at hcc
        have hfp := find_ptr hcl2 (by omega)
        rw [k3] at hfp
        have HFP := hid hfp
        have HK2 := hid k2
        have CK : Hid (∀ wx, Below W4.heap.size W4 wx → Calls Try.prog 24 #[.pointer (some ⟨gh, 0, none⟩), .int .u64 (wordR 2 (toM os l q : Nat) 0)] wx fun e w' => e = .returned (.tuple #[.int .i64 (os.getD q default).kind, .int .i64 0]) ∧ Below wx.heap.size wx w') := fun wx hb' => by
          have := pkind_any HOK.out (wordR 2 (toM os l q : Nat) 0) (wordR_rng _ _ _) wx (HP4.out.keep (fun b hf => hb'.block b (HP4.out.ge b hf).2))
          unfold kindM at this
          rw [HFP.out] at this
          simp only [HK2.out, movOb] at this
          exact this
        have CZ : Hid (∀ wx, Below W4.heap.size W4 wx → Calls Try.prog 25 #[.pointer (some ⟨gh, 0, none⟩), .int .u64 (wordR 2 (toM os l q : Nat) 0)] wx fun e w' => e = .returned (.tuple #[.int .i64 ((os.getD q default).f.length : Nat), .int .i64 0]) ∧ Below wx.heap.size wx w') := fun wx hb' => by
          have := psize_any HOK.out (wordR 2 (toM os l q : Nat) 0) (wordR_rng _ _ _) wx (HP4.out.keep (fun b hf => hb'.block b (HP4.out.ge b hf).2))
          unfold sizeM at this
          rw [HFP.out] at this
          simp only [HK2.out, movOb, List.length_map] at this
          exact this
        have htq : toM os l q ≤ 1860 := by omega
        have CP := hid (CPt.out (toM os l q) htq)
        have HE1 := hid e1
        have HE2 := hid e2
        obtain ⟨x, hx⟩ : ∃ x, x = os.getD q default := ⟨_, rfl⟩
        rw [← hx] at d2 d3 hxf CK CZ HE1 HD e1
        obtain ⟨xk, xfl⟩ := x
        simp only at d2 d3 hxf CK CZ HE1 HD e1
        obtain ⟨T, hT⟩ : ∃ T, T = toM os l q := ⟨_, rfl⟩
        obtain ⟨c, hc⟩ : ∃ c, c = cntM os l q := ⟨_, rfl⟩
        rw [← hT] at HE1 CK CZ CP hcc htq e1
        rw [← hc] at HE2 hcc k1
        rw [← hT, ← hc]
        obtain ⟨P, hP⟩ : ∃ P, P = wordR 2 (T : Nat) 0 := ⟨_, rfl⟩
        rw [← hP] at CK CZ CP hcc
        obtain ⟨fl, hfl⟩ : ∃ n, n = xfl.length := ⟨_, rfl⟩
        rw [← hfl] at d3 hxf CZ HE1 HD e1
        have hfb : T + (1 + fl) ≤ 1860 := by omega
        clear hts hcs e1 e2 hbq htl dU hx hT hc hP hfl k2 k3 hfp hoc hcl2
        have hk0 : (c : Int) < (wl : Int) := by omega
        have hk1 : ¬ (wl : Int) ≤ (c : Int) := by omega
        have hk2 : decide ((wl : Int) ≤ (c : Int)) = false := by simpa using hk1
        have hk3 : (0 : Int) ≤ (c : Int) := by omega
        have ep : (P == P) = true := by simp
        have ek : (xk == xk) = true := by simp
        have ef : ((fl : Int) == (fl : Int)) = true := by simp
        have HS0 : Hid (wr.cell? ⟨ob, oo + c, none⟩ = some (.int .u64 P) ∧ Below wr.heap.size wr wr) := ⟨hcc, Below.refl _ _⟩
        go_wp2_with fail
        refine wp_region_held_drew (S := fun wx => wx.cell? ⟨ob, oo + c, none⟩ = some (.int .u64 P) ∧ Below wr.heap.size wr wx) (by kernel_rfl) (h1g_on HS0.out (Bd wr 1)) (fun hHeld => ?_)
        refine htake 0 (some 54) (.int .i64 (c : Nat)) rfl rfl (by kernel_rfl) (by kernel_rfl) (by kernel_rfl) (fun _ _ _ h => h) (Or.inl ⟨by rfl, fun wx hSw => ?_⟩) (by assumption) ?_
        · go_simp
        simp only [Act.put, List.setIfInBounds_toArray, List.set_cons_zero, List.set_cons_succ]
        refine htake 1 (some 55) (.slice (some ⟨ob, oo, none⟩) wl oc) rfl rfl (by kernel_rfl) (by kernel_rfl) (by kernel_rfl) (fun _ _ _ h => h) (Or.inl ⟨by rfl, fun wx hSw => ?_⟩) (by assumption) ?_
        · go_simp
        simp only [Act.put, List.setIfInBounds_toArray, List.set_cons_zero, List.set_cons_succ]
        refine htake 2 (some 56) (.int .i64 (wl : Nat)) rfl rfl (by kernel_rfl) (by kernel_rfl) (by kernel_rfl) (fun _ _ _ h => h) (Or.inl ⟨by rfl, fun wx hSw => ?_⟩) (by assumption) ?_
        · go_simp
        simp only [Act.put, List.setIfInBounds_toArray, List.set_cons_zero, List.set_cons_succ]
        refine htake 3 (some 57) (.bool false) rfl rfl (by kernel_rfl) (by kernel_rfl) (by kernel_rfl) (fun _ _ _ h => h) (Or.inl ⟨by rfl, fun wx hSw => ?_⟩) (by assumption) ?_
        · go_simp
        simp only [Act.put, List.setIfInBounds_toArray, List.set_cons_zero, List.set_cons_succ]
        refine htake 4 (some 58) (.bool false) rfl rfl (by kernel_rfl) (by kernel_rfl) (by kernel_rfl) (fun _ _ _ h => h) (Or.inl ⟨by rfl, fun wx hSw => ?_⟩) (by assumption) ?_
        · go_simp
        simp only [Act.put, List.setIfInBounds_toArray, List.set_cons_zero, List.set_cons_succ]
        refine htake 5 (some 59) (.slice (some ⟨ob, oo, none⟩) wl oc) rfl rfl (by kernel_rfl) (by kernel_rfl) (by kernel_rfl) (fun _ _ _ h => h) (Or.inl ⟨by rfl, fun wx hSw => ?_⟩) (by assumption) ?_
        · go_simp
        simp only [Act.put, List.setIfInBounds_toArray, List.set_cons_zero, List.set_cons_succ]
        refine htake 6 (some 60) (.int .i64 (c : Nat)) rfl rfl (by kernel_rfl) (by kernel_rfl) (by kernel_rfl) (fun _ _ _ h => h) (Or.inl ⟨by rfl, fun wx hSw => ?_⟩) (by assumption) ?_
        · go_simp
        simp only [Act.put, List.setIfInBounds_toArray, List.set_cons_zero, List.set_cons_succ]
        refine htake 7 (some 61) (.pointer (some ⟨ob, oo + c, none⟩)) rfl rfl (by kernel_rfl) (by kernel_rfl) (by kernel_rfl) (fun _ _ _ h => h) (Or.inl ⟨by rfl, fun wx hSw => ?_⟩) (by assumption) ?_
        · go_simp
        simp only [Act.put, List.setIfInBounds_toArray, List.set_cons_zero, List.set_cons_succ]
        refine htake 8 (some 62) (.int .u64 P) rfl rfl (by kernel_rfl) (by kernel_rfl) (by kernel_rfl) (fun _ _ _ h => h) (Or.inl ⟨by rfl, fun wx hSw => ?_⟩) (by assumption) ?_
        · obtain ⟨s1, s2⟩ := hSw; go_simp
        simp only [Act.put, List.setIfInBounds_toArray, List.set_cons_zero, List.set_cons_succ]
        refine htake 9 (some 63) (.int .i64 (T : Nat)) rfl rfl (by kernel_rfl) (by kernel_rfl) (by kernel_rfl) (fun _ _ _ h => h) (Or.inl ⟨by rfl, fun wx hSw => ?_⟩) (by assumption) ?_
        · go_simp
        simp only [Act.put, List.setIfInBounds_toArray, List.set_cons_zero, List.set_cons_succ]
        refine hone 10 _ rfl (by kernel_rfl) (fun K hK => ?_)
        go_simp
        go_at_call 23
        with_reducible refine (CP.out _).mono ?_
        rintro e wa ⟨rfl, ba⟩
        have hS1 := h1g_on hHeld ba
        refine hK.out _ _ hS1 (fun _ => ?_)
        clear hK K hHeld
        try simp only [Act.put, List.setIfInBounds_toArray, List.set_cons_zero, List.set_cons_succ]
        refine hone 11 _ rfl (by kernel_rfl) (fun K hK => ?_)
        go_simp
        refine hK.out _ _ hS1 (fun _ => ?_)
        clear hK K
        try simp only [Act.put, List.setIfInBounds_toArray, List.set_cons_zero, List.set_cons_succ]
        refine hone 12 _ rfl (by kernel_rfl) (fun K hK => ?_)
        go_simp
        refine hK.out _ _ hS1 (fun _ => ?_)
        clear hK K
        refine wpAnyH_done (by kernel_rfl) ?_ _
        try simp only [Act.put, List.setIfInBounds_toArray, List.set_cons_zero, List.set_cons_succ]
        have h1 := hS1.1
        have HBH := hid hS1.2
        have HB5 := hid (Bt hb.out hS1.2)
        clear hS1 ba
        go_wp2_with (first
          | (go_at_call 24; (with_reducible refine (CK.out _ HB5.out).mono ?_); rintro e W6 ⟨rfl, b6⟩; have HB6 := hid (Bt HB5.out b6); have HH6 := hid (Bt HBH.out b6); have h2 := (b6.cell (p := ⟨ob, oo + c, none⟩) (cell_lt h1)).trans h1; clear b6)
          | (go_at_call 25; (with_reducible refine (CZ.out _ HB6.out).mono ?_); rintro e W7 ⟨rfl, b7⟩; have HB7 := hid (Bt HB6.out b7); obtain ⟨e1, e2, e3⟩ := HD.out W7 (Bt HH6.out b7); clear b7))
        exact ⟨⟨q + 1, by omega, by rw [HE1.out]; go_num, by rw [HE2.out]; go_num, by go_num, HB7.out⟩, by simp [intOf] <;> omega⟩
    · obtain rfl : q = os.length := by omega
      rw [HCE.out]
      have hcg := blk_cell (HRH4.out.on hb.out).box 1
      rw [show (#[Value.int .i64 4000, .slice gl0 ls.length cp0])[1]? = some (.slice gl0 ls.length cp0) from rfl, HLO.out] at hcg
      have ewl : ((wl : Int) == (wl : Int)) = true := by simp
      have C9 := hid (CUs.out _ hb.out)
      obtain ⟨T, hT⟩ : ∃ T, T = toM os l os.length := ⟨_, rfl⟩
      rw [← hT] at C9
      rw [← hT]
      have eT : ((T : Int) == (T : Int)) = true := by simp
      clear hT
      go_wp2_with (first
        | (go_at_call 26; (with_reducible refine C9.out.mono ?_); rintro e W6 ⟨rfl, b6⟩; have HB6 := hid (Bt hb.out b6); clear b6)
        | (go_at_call 16; (refine (CA.out _).mono ?_); rintro e w9 ⟨rfl, b9⟩))
      go_ret
      exact ⟨rfl, Bt (Bt HB4.out HB6.out) b9⟩
end Go.Proofs.Ythgkonjglappjaa
