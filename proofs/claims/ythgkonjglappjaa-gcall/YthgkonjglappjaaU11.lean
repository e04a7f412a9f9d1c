/-
  Walks: GcLive, GcCollects.
-/
import Derived.Test.YthgkonjglappjaaU10
import Derived.Test.YthgkonjglappjaaU4
set_option linter.unusedVariables false
set_option linter.unusedSimpArgs false
set_option maxRecDepth 100000
namespace Go.Proofs.Ythgkonjglappjaa
open Go.RowKit

theorem made_used {xs : List Oj} {fs : List Fd} (h : fewG xs fs = true) : usedL (madeL xs) ≤ 1860 := by
  obtain ⟨h1, _, h3⟩ := few_parts_g h
  have h4 := small_used h1 h3
  have h5 : (madeL xs).map sh = (blankL xs).map sh := by
    unfold madeL blankL
    rw [List.map_map, List.map_map]
    apply List.map_congr_left
    intro x _
    simp [Function.comp, sh_made, sh_blank]
  rw [sh_used h5]; omega
set_option maxHeartbeats 8000000 in
theorem gcLive_walk (ao : Option Addr) (n cap : Nat) (xs : List Oj) (fo : Option Addr) (m fc : Nat) (fs : List Fd) (w : World) (R : ORow w ao n cap xs) (Q : FRow w fo m fc fs) :
    Calls Try.prog 4 #[.slice ao n cap, .slice fo m fc] w fun e w' => e = .returned (.bool true) ∧ Below w.heap.size w w' := by
  have C0 := hid (fewg_any ao n cap xs fo m fc fs w R Q)
  have CA := hid gawake_any
  obtain ⟨fb, hfb⟩ : ∃ b, b = fewG xs fs := ⟨_, rfl⟩
  rw [← hfb] at C0
  cases fb
  · clear hfb
    go_enter Try.func4, Try.ntmps4
    go_wp2_with (go_at_call 9; (refine C0.out.mono ?_); rintro e w9 ⟨rfl, hw9⟩; rw [hw9]; clear hw9)
    go_ret
    exact ⟨rfl, Below.refl _ _⟩
  have hus := made_used hfb.symm
  have hm60 : m ≤ 60 := by have := (few_parts_g hfb.symm).2.1; have := Q.len; omega
  have C1 := hid (made_any ao n cap xs fo m fc fs w R Q hfb.symm)
  clear hfb R Q
  obtain ⟨os, hos⟩ : ∃ os, os = madeL xs := ⟨_, rfl⟩
  obtain ⟨rs, hrs⟩ : ∃ rs, rs = fs.map (saysM (atsL xs)) := ⟨_, rfl⟩
  rw [← hos] at hus
  rw [← hos, ← hrs] at C1
  clear hos hrs
  go_enter Try.func4, Try.ntmps4
  go_wp2_with (first
    | (go_at_call 9; (refine C0.out.mono ?_); rintro e w9 ⟨rfl, hw9⟩; rw [hw9]; clear hw9)
    | (go_at_call 10; (refine C1.out.mono ?_); rintro e W1 ⟨v, F, g, vL, ls, ra, rc, rfl, hmx, hU, hra, b1⟩; obtain ⟨gh, rfl⟩ := hmx.ph.ptr; have HMX := hid hmx; have HUR := hid hU; have HB1 := hid b1; clear hmx hU hra b1))
  have CL := hid (plive_any HMX.out.okP ra m rc rs W1 HMX.out.ph HUR.out (by omega))
  have CR : Hid (∀ wx, Below W1.heap.size W1 wx → Calls Try.prog 18 #[.pointer (some ⟨g, 0, none⟩), .slice ra m rc] wx fun e w' => e = .returned (.int .i64 (usedL (keepL os (lvL os rs)) : Nat)) ∧ Below wx.heap.size wx w') := fun wx hb => by
    have := rlive_any ra m rc rs wx (HMX.out.rh.on hb) (HUR.out.on hb)
    rw [HMX.out.mp] at this; exact this
  obtain ⟨U, hU⟩ : ∃ u, u = usedL (keepL os (lvL os rs)) := ⟨_, rfl⟩
  rw [← hU] at CL CR
  clear hU
  have CW : Hid (∀ wx, Below W1.heap.size W1 wx → _) := fun wx hb => words_any wx (HMX.out.on hb).ph (by rw [wordsL_length]; omega)
  have CX : Hid (∀ wx, Below W1.heap.size W1 wx → Calls Try.prog 15 #[.pointer (some ⟨g, 0, none⟩)] wx fun e w' => ∃ ao cap, e = .returned (.slice ao (wordsL os).length cap) ∧ URow w' ao (wordsL os).length cap (wordsL os) ∧ Below wx.heap.size wx w') := fun wx hb => by
    refine (rwords_any wx (HMX.out.rh.on hb)).mono ?_
    rintro e w' ⟨ao, cap, rfl, h1, _, h3⟩
    rw [HMX.out.mp, ← wordsL_length] at h1 ⊢
    exact ⟨ao, cap, rfl, h1, h3⟩
  have CS : Hid (∀ a1 c1 a2 c2 wx, URow wx a1 (wordsL os).length c1 (wordsL os) → URow wx a2 (wordsL os).length c2 (wordsL os) → Calls Try.prog 13 #[.slice a1 (wordsL os).length c1, .slice a2 (wordsL os).length c2] wx fun e w' => e = .returned (.bool true) ∧ Below wx.heap.size wx w') := fun a1 c1 a2 c2 wx h1 h2 => by
    have := samew_any a1 _ c1 _ a2 _ c2 _ wx h1 h2
    rw [decide_eq_true rfl] at this; exact this
  obtain ⟨wl, hwl⟩ : ∃ l, l = (wordsL os).length := ⟨_, rfl⟩
  rw [← hwl] at CW CX CS
  clear hwl
  have eu : ((U : Int) == (U : Int)) = true := by simp
  go_wp2_with (first
    | (go_at_call 17; (with_reducible refine CL.out.mono ?_); rintro e W2 ⟨rfl, b2⟩; have HB2 := hid b2; clear b2)
    | (go_at_call 18; (with_reducible refine (CR.out _ HB2.out).mono ?_); rintro e W3 ⟨rfl, b3⟩; have HB3 := hid (Bt HB2.out b3); clear b3)
    | (go_at_call 14; (with_reducible refine (CW.out _ HB3.out).mono ?_); rintro e W4 ⟨a4, c4, rfl, hu4, _, b4⟩; have HB4 := hid (Bt HB3.out b4); have HU4 := hid hu4; clear b4 hu4)
    | (go_at_call 15; (with_reducible refine (CX.out _ HB4.out).mono ?_); rintro e W5 ⟨a5, c5, rfl, hu5, b5⟩; have HB5 := hid (Bt HB4.out b5); have HU5 := hid hu5; have HU4b := hid (HU4.out.on b5); clear b5 hu5)
    | (go_at_call 13; (with_reducible refine (CS.out _ _ _ _ _ HU4b.out HU5.out).mono ?_); rintro e W6 ⟨rfl, b6⟩; have HB6 := hid (Bt HB5.out b6); clear b6)
    | (go_at_call 16; (refine (CA.out _).mono ?_); rintro e w9 ⟨rfl, b9⟩))
  go_ret
  exact ⟨rfl, Bt (Bt HB1.out HB6.out) b9⟩
end Go.Proofs.Ythgkonjglappjaa
