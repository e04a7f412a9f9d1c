/-
  Walk: GcCollects.
-/
import Derived.Test.YthgkonjglappjaaU11
set_option linter.unusedVariables false
set_option linter.unusedSimpArgs false
set_option maxRecDepth 100000
namespace Go.Proofs.Ythgkonjglappjaa
open Go.RowKit

theorem URow.mod {w w' : World} {ao : Option Addr} {n cap : Nat} {l : List Int} {F : Nat → Prop} (h : URow w ao n cap l) (hm : Mod F w w') (hF : ∀ a, ao = Option.some a → ¬ F a.block) : URow w' ao n cap l :=
  h.keep hm.size (fun hne a ha => by
    rcases h.rd with e | ⟨b, o, e, h1, _⟩
    · exact absurd e hne
    · rw [e] at ha; cases ha; exact hm.block b h1 (hF _ e))
set_option maxHeartbeats 8000000 in
theorem gcCollects_walk (ao : Option Addr) (n cap : Nat) (xs : List Oj) (fo : Option Addr) (m fc : Nat) (fs : List Fd) (w : World) (R : ORow w ao n cap xs) (Q : FRow w fo m fc fs) :
    Calls Try.prog 3 #[.slice ao n cap, .slice fo m fc] w fun e w' => e = .returned (.bool true) ∧ Below w.heap.size w w' := by
  have C0 := hid (fewg_any ao n cap xs fo m fc fs w R Q)
  have CA := hid gawake_any
  obtain ⟨fb, hfb⟩ : ∃ b, b = fewG xs fs := ⟨_, rfl⟩
  rw [← hfb] at C0
  cases fb
  · clear hfb
    go_enter Try.func3, Try.ntmps3
    go_wp2_with (go_at_call 9; (refine C0.out.mono ?_); rintro e w9 ⟨rfl, hw9⟩; rw [hw9]; clear hw9)
    go_ret
    exact ⟨rfl, Below.refl _ _⟩
  have hus := made_used hfb.symm
  have hm60 : m ≤ 60 := by have := (few_parts_g hfb.symm).2.1; have := Q.len; omega
  have C1 := hid (made_any ao n cap xs fo m fc fs w R Q hfb.symm)
  clear hfb R Q
  obtain ⟨os, hos⟩ : ∃ os, os = madeL xs := ⟨_, rfl⟩
  obtain ⟨rs, hrs⟩ : ∃ rs, rs = fs.map (saysM (atsL xs)) := ⟨_, rfl⟩
  rw [← hos] at hus
  rw [← hos, ← hrs] at C1
  clear hos hrs
  go_enter Try.func3, Try.ntmps3
  go_wp2_with (first
    | (go_at_call 9; (refine C0.out.mono ?_); rintro e w9 ⟨rfl, hw9⟩; rw [hw9]; clear hw9)
    | (go_at_call 10; (refine C1.out.mono ?_); rintro e W1 ⟨v, F, g, vL, ls, ra, rc, rfl, hmx, hU, hra, b1⟩; obtain ⟨gh, rfl⟩ := hmx.ph.ptr; have HMX := hid hmx; have HUR := hid hU; have HB1 := hid b1; have HRA := hid hra; have HRU := hid hU.bd; have hrl := hU.len; have HSE : Hid ((W1.alloc (.cells #[] 46)).ownsRow W1.heap.size 46 1 (.slice (some ⟨W1.heap.size, 0, none⟩) 0 0) 0 (uz [])) := ⟨rfl, .inr ⟨W1.heap.size, 0, #[], rfl, Nat.le_refl _, blk_new _ _ _, Nat.le_refl _, by unfold maxLen; omega, rfl, rfl⟩⟩; have HUE := hid (hU.on (Ba W1 (.cells #[] 46))); have HZ1 : Hid (W1.heap.size ≤ (W1.alloc (.cells #[] 46)).heap.size) := (Ba W1 _).size; clear hmx hU hra b1)
    | (at_builtin; refine appU rfl _ _ 27 rfl W1.heap.size 46 Try.underlying27 info_word _ 0 [] rfl HSE.out ra m rc rs rfl HUE.out (by omega) HZ1.out ?_; intro v2 W2 ho2 hg2; rw [Nat.zero_add, List.nil_append] at ho2; have HO2 := hid ho2; have HB2 : Hid (Below W1.heap.size W1 W2) := (Ba W1 (.cells #[] 46)).grown hg2 HZ1.out (fun k hk => (HSE.out.lt k hk).1); have ho2' := ho2; rw [← hrl] at ho2'; obtain ⟨ga, gc, hgv, hgU⟩ := urow_own ho2' HRU.out; rw [hrl] at hgv hgU; obtain rfl := hgv; have HUG := hid hgU; have HGA : Hid (∀ a, ga = some a → W1.heap.size ≤ a.block) := (fun a ha => (HO2.out.lt a.block (by rw [ha]; rfl)).1); clear ho2 hg2 ho2' hgU))
  have HM2 := hid (HMX.out.on HB2.out)
  have HGF : Hid (∀ a, ga = some a → ¬ F a.block) := fun a ha e => by have h1 := HGA.out a ha; have h2 := (HMX.out.ph.ge _ e).2; omega
  with_reducible refine (pcollect_any HM2.out.okP ga m gc rs W2 HM2.out.ph HUG.out HM2.out.bw HGF.out (by omega)).mono ?_
  rintro e W3 ⟨sa, sc, rfl, hU3, hs3, F3, hp3, hf3, hn3, hm3⟩
  have HMD := hid hm3
  have HP3 := hid hp3
  have HU3 := hid hU3
  have HUR3 := hid ((HUR.out.on HB2.out).mod hm3 (fun a ha => (HRA.out a ha).2.1))
  have HUG3 := hid (HUG.out.mod hm3 HGF.out)
  have HRH3 := hid (HM2.out.rh.mod hm3 (fun b hb hf => HM2.out.dj b hf hb))
  have HB3 : Hid (Below w.heap.size w W3) := (Bt HB1.out HB2.out).trans (hm3.below (fun b hb => (HM2.out.ph.ge b hb).1) HM2.out.bw)
  have HCL : Hid (usedL (collO os (lvL os rs)) ≤ 1860) := by
    have h1 := toM_le (lvL_length os rs) (i := os.length) (Nat.le_refl _)
    have h2 := at_all os
    unfold toM at h1
    rw [keep_all _ _ (lvL_length os rs)] at h1
    unfold Hid; rw [coll_used]; omega
  have CC : Hid (Calls Try.prog 12 #[.pointer (some ⟨g, 0, none⟩), .slice ra m rc] W3 _) := rcollect_any ra m rc rs W3 HRH3.out HUR3.out (by omega)
  rw [HM2.out.mp] at CC
  obtain ⟨os', hos'⟩ : ∃ x, x = collO os (lvL os rs) := ⟨_, rfl⟩
  obtain ⟨rs', hrs'⟩ : ∃ x, x = collR os (lvL os rs) rs := ⟨_, rfl⟩
  rw [← hos', ← hrs'] at CC
  rw [← hos'] at HP3 HCL
  rw [← hrs'] at HU3
  clear hU3 hs3 hp3 hf3 hn3 hm3 hos' hrs'
  have CW : Hid (∀ wx, Below W3.heap.size W3 wx → _) := fun wx hb => words_any wx (HP3.out.keep (fun b hf => hb.block b (HP3.out.ge b hf).2)) (by rw [wordsL_length]; have := HCL.out; omega)
  have CX : Hid (∀ g4 vT lsT wx, RH W3.heap.size g4 4000 vT lsT wx → lsT.map Prod.fst = os' → Calls Try.prog 15 #[.pointer (some ⟨g4, 0, none⟩)] wx fun e w' => ∃ ao cap, e = .returned (.slice ao (wordsL os').length cap) ∧ URow w' ao (wordsL os').length cap (wordsL os') ∧ Below wx.heap.size wx w') := fun g4 vT lsT wx h he => by
    refine (rwords_any wx h).mono ?_
    rintro e w' ⟨ao, cap, rfl, h1, _, h3⟩
    rw [he, ← wordsL_length] at h1 ⊢
    exact ⟨ao, cap, rfl, h1, h3⟩
  have CS : Hid (∀ l a1 n c1 a2 c2 wx, URow wx a1 n c1 l → URow wx a2 n c2 l → Calls Try.prog 13 #[.slice a1 n c1, .slice a2 n c2] wx fun e w' => e = .returned (.bool true) ∧ Below wx.heap.size wx w') := fun l a1 n c1 a2 c2 wx h1 h2 => by
    have := samew_any a1 _ c1 _ a2 _ c2 _ wx h1 h2
    rw [decide_eq_true rfl] at this; exact this
  obtain ⟨wl, hwl⟩ : ∃ l, l = (wordsL os').length := ⟨_, rfl⟩
  rw [← hwl] at CW CX
  clear hwl
  go_wp2_with (go_at_call 12; (with_reducible refine CC.out.mono ?_); rintro e W4 ⟨g4, vT, lsT, ta, tc, rfl, hr4, hm4, hU4, _, b4⟩; have HB4 := hid b4; have HR4 := hid hr4; have HM4 := hid hm4; have HU4 := hid hU4; have HS4 := hid (HU3.out.on b4); clear b4 hr4 hm4 hU4)
  with_reducible refine (CS.out rs' _ _ _ _ _ _ HS4.out HU4.out).mono ?_
  rintro e W5 ⟨rfl, b5⟩
  have HB5 := hid (Bt HB4.out b5)
  have HR5 := hid (HR4.out.on b5)
  clear b5
  go_wp2_with (first
    | (go_at_call 14; (with_reducible refine (CW.out _ HB5.out).mono ?_); rintro e W6 ⟨a6, c6, rfl, hu6, _, b6⟩; have HB6 := hid (Bt HB5.out b6); have HU6 := hid hu6; have HR6 := hid (HR5.out.on b6); clear b6 hu6)
    | (go_at_call 15; (with_reducible refine (CX.out _ _ _ _ HR6.out HM4.out).mono ?_); rintro e W7 ⟨a7, c7, rfl, hu7, b7⟩; have HB7 := hid (Bt HB6.out b7); have HU7 := hid hu7; have HU6b := hid (HU6.out.on b7); clear b7 hu7))
  with_reducible refine (CS.out _ _ _ _ _ _ _ HU6b.out HU7.out).mono ?_
  rintro e W8 ⟨rfl, b8⟩
  have HB8 := hid (Bt HB7.out b8)
  clear b8
  have CS2 := hid (CS.out rs ga m gc ra rc W8 (HUG3.out.on HB8.out) (HUR3.out.on HB8.out))
  go_wp2_with (first
    | (go_at_call 13; (with_reducible refine CS2.out.mono ?_); rintro e W9 ⟨rfl, b9⟩; have HB9 := hid (Bt HB8.out b9); clear b9)
    | (go_at_call 16; (refine (CA.out _).mono ?_); rintro e w9 ⟨rfl, b9⟩))
  go_ret
  exact ⟨rfl, Bt (Bt HB3.out HB9.out) b9⟩
end Go.Proofs.Ythgkonjglappjaa
