/-
  Walk: GcKeeps.
-/
import Derived.Test.YthgkonjglappjaaU22
set_option linter.unusedVariables false
set_option linter.unusedSimpArgs false
set_option maxRecDepth 100000
namespace Go.Proofs.Ythgkonjglappjaa
open Go.RowKit

theorem zero_no_place : (ofR 0).1 ≠ 2 := by
  simp [ofR, ofRaw, rightB]; split <;> simp
theorem made_sh (xs : List Oj) : (madeL xs).map sh = (blankL xs).map sh := by
  unfold madeL blankL
  rw [List.map_map, List.map_map]
  apply List.map_congr_left
  intro x _
  show sh (madeOb (atsL xs) x) = sh (blankO x)
  rw [sh_made, sh_blank]
theorem whole_says {xs : List Oj} (hu : usedL (blankL xs) ≤ 1099511627776) {f : Fd} (h : okF xs.length f) : Whole (madeL xs) (saysM (atsL xs) f) := by
  unfold saysM
  rw [atsL_len]
  by_cases h1 : f.is = true ∧ 0 < xs.length
  · rw [if_pos h1]
    left
    have hr := (round_at h1.2 f.to).1
    refine ⟨roundI f.to xs.length, ?_⟩
    rw [atsL_get hr, sh_find (made_sh xs)]
    exact find_ptr (by unfold blankL; rw [List.length_map]; exact hr) hu
  · rw [if_neg h1]
    right
    split
    · exact zero_no_place
    · rcases h with h | h
      · exact of_decide_eq_false h
      · exact absurd h h1
set_option maxHeartbeats 8000000 in
theorem gcKeeps_walk (ao : Option Addr) (n cap : Nat) (xs : List Oj) (fo : Option Addr) (m fcap : Nat) (fs : List Fd) (w : World) (R : ORow w ao n cap xs) (Q : FRow w fo m fcap fs) :
    Calls Try.prog 5 #[.slice ao n cap, .slice fo m fcap] w fun e w' => e = .returned (.bool true) ∧ Below w.heap.size w w' := by
  have C0 := hid (fewg_any ao n cap xs fo m fcap fs w R Q)
  have CA := hid gawake_any
  obtain ⟨fb, hfb⟩ : ∃ b, b = fewG xs fs := ⟨_, rfl⟩
  rw [← hfb] at C0
  cases fb
  · clear hfb
    go_enter Try.func5, Try.ntmps5
    go_wp2_with (first
      | (go_at_call 9; (refine C0.out.mono ?_); rintro e w9 ⟨rfl, hw9⟩; rw [hw9]; clear hw9)
      | (go_at_call 16; (refine (CA.out _).mono ?_); rintro e w9 ⟨rfl, b9⟩))
    go_ret
    exact ⟨rfl, b9⟩
  have hus := made_used hfb.symm
  have hub : usedL (blankL xs) ≤ 1099511627776 := by rw [← sh_used (made_sh xs)]; omega
  have hm60 : m ≤ 60 := by have := (few_parts_g hfb.symm).2.1; have := Q.len; omega
  have CT := hid (stray_tells ao n cap xs fo m fcap fs w R Q hfb.symm)
  have C1 : Hid (∀ wx, Below w.heap.size w wx → _) := fun wx hb => made_any ao n cap xs fo m fcap fs wx (R.on hb) (Q.on hb) hfb.symm
  have HWH : Hid ((∀ f ∈ fs ++ xs.flatMap (·.l), okF xs.length f) → (∀ x ∈ madeL xs, ∀ z ∈ x.f, Whole (madeL xs) z) ∧ ∀ z ∈ fs.map (saysM (atsL xs)), Whole (madeL xs) z) := fun h => by
    refine ⟨fun x hx z hz => ?_, fun z hz => ?_⟩
    · obtain ⟨y, hy, rfl⟩ := List.mem_map.1 hx
      obtain ⟨f, hf, rfl⟩ := List.mem_map.1 hz
      exact whole_says hub (h f (List.mem_append_right _ (List.mem_flatMap.2 ⟨y, hy, hf⟩)))
    · obtain ⟨f, hf, rfl⟩ := List.mem_map.1 hz
      exact whole_says hub (h f (List.mem_append_left _ hf))
  clear hfb R Q hub
  obtain ⟨os, hos⟩ : ∃ os, os = madeL xs := ⟨_, rfl⟩
  obtain ⟨rs, hrs⟩ : ∃ rs, rs = fs.map (saysM (atsL xs)) := ⟨_, rfl⟩
  rw [← hos] at hus
  rw [← hos, ← hrs] at C1 HWH
  clear hos hrs
  go_enter Try.func5, Try.ntmps5
  go_wp2_with (first
    | (go_at_call 9; (refine C0.out.mono ?_); rintro e w9 ⟨rfl, hw9⟩; rw [hw9]; clear hw9))
  with_reducible refine CT.out.mono ?_
  rintro e W0 ⟨sb, rfl, hsb, b0⟩
  have HB0 := hid b0
  have HSB := hid hsb
  clear b0 hsb
  cases sb
  case true =>
    go_wp2_with (go_at_call 16; (refine (CA.out _).mono ?_); rintro e w9 ⟨rfl, b9⟩)
    go_ret
    exact ⟨rfl, Bt HB0.out b9⟩
  have HW := hid (HWH.out (HSB.out rfl))
  clear HWH HSB
  go_wp2_with (go_at_call 10; (refine (C1.out _ HB0.out).mono ?_); rintro e W1 ⟨v, F, g, vL, ls, ra, rc, rfl, hmx, hU, hra, b1⟩; obtain ⟨gh, rfl⟩ := hmx.ph.ptr; have HMX := hid hmx; have HUR := hid hU; have HB1 := hid (Bt HB0.out b1); have HRA := hid hra; have HRU := hid hU.bd; clear hmx hU hra b1)
  have HSC := hid (shape_coll (os := os) (rs := rs) (by omega) (fun x hx z hz => ⟨HMX.out.okP.uf x hx z hz, HW.out.1 x hx z hz⟩) (fun z hz => ⟨HRU.out z hz, HW.out.2 z hz⟩) 5000)
  have HOK1 := hid (coll_ok HMX.out.okP (by omega) (lvL_length os rs))
  have HCL : Hid (usedL (collO os (lvL os rs)) ≤ 1860) := by
    have h1 := toM_le (lvL_length os rs) (i := os.length) (Nat.le_refl _)
    have h2 := at_all os
    unfold toM at h1
    rw [keep_all _ _ (lvL_length os rs)] at h1
    unfold Hid; rw [coll_used]; omega
  have CH1 := hid (shape_any HMX.out.okP (by omega) ra m rc rs W1 HMX.out.ph HUR.out (by omega) 5000 (by omega))
  have CC : Hid (∀ wx, Below W1.heap.size W1 wx → _) := fun wx hb => pcollect_any HMX.out.okP ra m rc rs wx (HMX.out.on hb).ph (HUR.out.on hb) (HMX.out.on hb).bw (fun a ha => (HRA.out a ha).2.1) (by omega)
  have CH2 : Hid (∀ wx F' ra' rc', PH W0.heap.size (.pointer (some ⟨gh, 0, none⟩)) 4000 (wordsL (collO os (lvL os rs))) F' wx → URow wx ra' m rc' (collR os (lvL os rs) rs) → Calls Try.prog 20 #[.pointer (some ⟨gh, 0, none⟩), .slice ra' m rc'] wx fun e w' => ∃ ao n cap, e = .returned (.slice ao n cap) ∧ URow w' ao n cap (shapeM os rs 5000) ∧ Below wx.heap.size wx w') := fun wx F' ra' rc' h hu => by
    refine (shape_any HOK1.out (by have := HCL.out; omega) ra' m rc' _ wx h hu (by omega) 5000 (by omega)).mono ?_
    rintro e w' ⟨ao, n, cap, rfl, h1, _, h3⟩
    rw [HSC.out] at h1
    exact ⟨ao, n, cap, rfl, h1, h3⟩
  have CS : Hid (∀ l a1 n1 c1 a2 n2 c2 wx, URow wx a1 n1 c1 l → URow wx a2 n2 c2 l → Calls Try.prog 13 #[.slice a1 n1 c1, .slice a2 n2 c2] wx fun e w' => e = .returned (.bool true) ∧ Below wx.heap.size wx w') := fun l a1 n1 c1 a2 n2 c2 wx h1 h2 => by
    have := samew_any a1 _ c1 _ a2 _ c2 _ wx h1 h2
    rw [decide_eq_true rfl] at this; exact this
  obtain ⟨S, hS⟩ : ∃ x, x = shapeM os rs 5000 := ⟨_, rfl⟩
  rw [← hS] at CH1 CH2
  obtain ⟨os1, hos1⟩ : ∃ x, x = collO os (lvL os rs) := ⟨_, rfl⟩
  obtain ⟨rs1, hrs1⟩ : ∃ x, x = collR os (lvL os rs) rs := ⟨_, rfl⟩
  rw [← hos1, ← hrs1] at CC CH2
  clear hS hos1 hrs1 HSC HOK1 HCL
  have eM : ((m : Int) == (m : Int)) = true := by simp
  go_wp2_with (go_at_call 20; (with_reducible refine CH1.out.mono ?_); rintro e W2 ⟨wa, wn, wc, rfl, hu2, ha2, b2⟩; have HWAS := hid hu2; have HB2 := hid b2; have HNW : Hid (∀ a, wa = some a → ¬ F a.block) := (fun a ha e => by have h1 := ha2 a ha; have h2 := (HMX.out.ph.ge _ e).2; omega); clear hu2 ha2 b2)
  with_reducible refine (CC.out W2 HB2.out).mono ?_
  rintro e W3 ⟨sa, sc, rfl, hU3, hs3, F3, hp3, hf3, hn3, hm3⟩
  have HP3 := hid hp3
  have HU3 := hid hU3
  have HWS := hid (HWAS.out.mod hm3 HNW.out)
  have HWW : Hid (w.heap.size ≤ W0.heap.size) := HB0.out.size
  have HB3 : Hid (Below w.heap.size w W3) := (HB1.out.trans (HB2.out.mono HB1.out.size)).trans ((hm3.below (fun b hb => (HMX.out.ph.ge b hb).1) (HMX.out.on HB2.out).bw).mono HWW.out)
  have hwf := HWS.out.fits
  have hwm := HWS.out.most
  unfold maxLen at hwm
  have hsf := HU3.out.fits
  have hsm := HU3.out.most
  unfold maxLen at hsm
  clear hU3 hs3 hp3 hf3 hn3 hm3
  have C4 := hid (CH2.out W3 F3 sa sc HP3.out HU3.out)
  go_wp2_with (go_at_call 20; (with_reducible refine C4.out.mono ?_); rintro e W4 ⟨ha, hn, hc, rfl, hu4, b4⟩; have HU4 := hid hu4; have HB4 := hid b4; clear hu4 b4)
  with_reducible refine (CS.out S _ _ _ _ _ _ _ (HWS.out.on HB4.out) HU4.out).mono ?_
  rintro e W5 ⟨rfl, b5⟩
  have HB5 := hid (Bt HB4.out b5)
  clear b5
  go_wp2_with (go_at_call 16; (refine (CA.out _).mono ?_); rintro e w9 ⟨rfl, b9⟩)
  go_ret
  exact ⟨rfl, Bt (Bt HB3.out HB5.out) b9⟩
end Go.Proofs.Ythgkonjglappjaa
