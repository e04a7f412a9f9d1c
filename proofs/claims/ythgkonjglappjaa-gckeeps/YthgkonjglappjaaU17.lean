/-
  Walks: stray, GcTwice.
-/
import Derived.Test.YthgkonjglappjaaU15
import Derived.Test.YthgkonjglappjaaU16
set_option linter.unusedVariables false
set_option linter.unusedSimpArgs false
set_option maxRecDepth 100000
namespace Go.Proofs.Ythgkonjglappjaa
open Go.RowKit

set_option maxHeartbeats 8000000 in
theorem stray_any (ao : Option Addr) (n cap : Nat) (xs : List Oj) (fo : Option Addr) (m fcap : Nat) (fs : List Fd) (w : World) (R : ORow w ao n cap xs) (Q : FRow w fo m fcap fs) (hfew : fewG xs fs = true) :
    Calls Try.prog 19 #[.slice ao n cap, .slice fo m fcap] w fun e w' => ∃ b, e = .returned (.bool b) ∧ Below w.heap.size w w' := by
  have HR := hid R
  have HQ := hid Q
  have hf := R.fits
  have hm := R.most
  have hf2 := Q.fits
  have hm2 := Q.most
  unfold maxLen at hm hm2
  obtain ⟨hf60, hr60, hf30⟩ := few_parts_g hfew
  have HF30 := hid hf30
  obtain rfl := R.len
  obtain rfl := Q.len
  clear R Q hfew hf30
  have HSE : Hid ((w.alloc (.cells #[] 64)).ownsRow w.heap.size 64 3 (.slice (some ⟨w.heap.size, 0, none⟩) 0 0) 0 (fz [])) := ⟨rfl, .inr ⟨w.heap.size, 0, #[], rfl, Nat.le_refl _, blk_new _ _ _, Nat.le_refl _, by unfold maxLen; omega, rfl, rfl⟩⟩
  have HUE := hid (HQ.out.on (Ba w (.cells #[] 64)))
  have HZ1 : Hid (w.heap.size ≤ (w.alloc (.cells #[] 64)).heap.size) := (Ba w _).size
  go_enter Try.func19, Try.ntmps19
  go_wp2_with (at_builtin; refine appF rfl _ _ 23 rfl w.heap.size 64 Try.underlying23 info_field _ 0 [] rfl HSE.out fo fs.length fcap fs rfl HUE.out (by omega) HZ1.out ?_; intro v2 W2 ho2 hg2; rw [Nat.zero_add, List.nil_append] at ho2; have HO2 := hid ho2; have HB2 : Hid (Below w.heap.size w W2) := (Ba w (.cells #[] 64)).grown hg2 HZ1.out (fun k hk => (HSE.out.lt k hk).1); clear ho2 hg2)
  go_loopw [5, 6] (fun va vi wr => ∃ q : Nat, q ≤ xs.length ∧ vi = .int .i64 q ∧ Hid (∃ L : List Fd, wr.ownsRow w.heap.size 64 3 va L.length (fz L) ∧ (∀ f ∈ L, FOk f) ∧ L.length ≤ 60 + 30 * q ∧ Below w.heap.size w wr)) (fun _ vi _ => xs.length - (intOf vi).toNat)
  case atStart => exact ⟨0, Nat.zero_le _, rfl, fs, HO2.out, HQ.out.ok, by omega, HB2.out⟩
  case round =>
    obtain ⟨q, hq, rfl, hI⟩ := hrel
    obtain ⟨L, hL1, hL2, hL3, hL4⟩ := hI.out
    have HL1 := hid hL1
    have HL2 := hid hL2
    have HL4 := hid hL4
    clear hI hL2 hL4
    obtain ⟨aA, cA, rfl, hFR⟩ := frow_own hL1 HL2.out
    have HFR := hid hFR
    have hfa := hFR.fits
    have hfm := hFR.most
    unfold maxLen at hfm
    clear hL1 hFR
    by_cases hlt : q < xs.length
    · obtain ⟨b, o, rfl, hlb, hcc⟩ := (HR.out.on HL4.out).some (by omega)
      obtain ⟨d0, fa, fn, fcc, d1, hF⟩ := hcc q hlt
      have hx30 := HF30.out _ (getD_in_oj hlt)
      have hfl := hF.len
      have HFF := hid hF
      have HFK := hid hF.ok
      obtain ⟨xl, hxl⟩ : ∃ l, l = (xs.getD q default).l := ⟨_, rfl⟩
      rw [← hxl] at HFF HFK hfl hx30
      clear hcc d0 hF hxl
      obtain ⟨nL, hnL⟩ : ∃ x, x = L.length := ⟨_, rfl⟩
      rw [← hnL] at HL1 hL3 hfa ⊢
      have HNL := hid hnL
      clear hnL
      go_wp2_with (at_builtin; refine appF rfl _ _ 23 rfl w.heap.size 64 Try.underlying23 info_field _ nL L rfl HL1.out fa fn fcc xl rfl HFF.out (by omega) HL4.out.size ?_; intro v6 w6 ho hg)
      have HE6 : Hid (Below w.heap.size w w6) := HL4.out.grown hg HL4.out.size (fun k hk => (HL1.out.lt k hk).1)
      have HO6 : Hid (w6.ownsRow w.heap.size 64 3 v6 (L ++ xl).length (fz (L ++ xl))) := by
        unfold Hid; rw [List.length_append, ← HNL.out, hfl]; exact ho
      refine ⟨⟨q + 1, by omega, by go_num, L ++ xl, HO6.out, fun f hf => ?_, ?_, HE6.out⟩, by simp [intOf] <;> omega⟩
      · rcases List.mem_append.1 hf with h | h
        · exact HL2.out f h
        · exact HFK.out f h
      · rw [List.length_append, ← HNL.out]; omega
    · obtain rfl : q = xs.length := by omega
      obtain ⟨WQ, rfl⟩ : ∃ x, x = wr := ⟨_, rfl⟩
      obtain ⟨nL, hnL⟩ : ∃ x, x = L.length := ⟨_, rfl⟩
      rw [← hnL] at HFR hL3 hfa ⊢
      have HNL := hid hnL
      clear HL1 hnL
      go_wp2_with fail
      go_loopw [7] (fun vi wr => ∃ k : Nat, k ≤ nL ∧ vi = .int .i64 k ∧ Hid (Below WQ.heap.size WQ wr)) (fun vi _ => nL - (intOf vi).toNat)
      case atStart => exact ⟨0, Nat.zero_le _, rfl, Below.refl _ _⟩
      case round =>
        obtain ⟨k, hk, rfl, hb⟩ := hrel
        by_cases hlk : k < nL
        · obtain ⟨bb, o, rfl, hlb, hcc⟩ := (HFR.out.on hb.out).some (by omega)
          obtain ⟨c0, c1, c2⟩ := hcc k hlk
          have hfok := HL2.out _ (getD_in_fd (l := L) (i := k) (by have := HNL.out; omega))
          obtain ⟨f, hff⟩ : ∃ f, f = L.getD k default := ⟨_, rfl⟩
          rw [← hff] at c0 c1 c2 hfok
          have hfw := hfok.w
          clear hcc hff c1 hfok
          obtain ⟨fis, fto, ffw⟩ := f
          simp only at c0 c2 hfw
          have CAt := hid (at_any ffw hfw)
          obtain ⟨hv, hhv⟩ : ∃ x, x = hasR 2 ffw := ⟨_, rfl⟩
          obtain ⟨bv, hbv⟩ : ∃ x, x = isR 2 ffw := ⟨_, rfl⟩
          rw [← hhv, ← hbv] at CAt
          clear hhv hbv hfw
          cases bv
          · go_wp2_with (go_at_call 43; (with_reducible refine (CAt.out _).mono ?_); rintro e w9 ⟨rfl, hw9⟩; rw [hw9]; clear hw9)
            exact ⟨⟨k + 1, by omega, by go_num, hb⟩, by simp [intOf] <;> omega⟩
          · cases fis
            · go_wp2_with (go_at_call 43; (with_reducible refine (CAt.out _).mono ?_); rintro e w9 ⟨rfl, hw9⟩; rw [hw9]; clear hw9)
              go_ret
              exact ⟨_, rfl, HL4.out.trans (hb.out.mono HL4.out.size)⟩
            · by_cases hn0 : xs.length = 0
              · have en : ((xs.length : Int) == 0) = true := by simp [hn0]
                clear hn0
                go_wp2_with (go_at_call 43; (with_reducible refine (CAt.out _).mono ?_); rintro e w9 ⟨rfl, hw9⟩; rw [hw9]; clear hw9)
                go_ret
                exact ⟨_, rfl, HL4.out.trans (hb.out.mono HL4.out.size)⟩
              · have en : ((xs.length : Int) == 0) = false := by simp; intro e; rw [e] at hn0; simp at hn0
                clear hn0
                go_wp2_with (go_at_call 43; (with_reducible refine (CAt.out _).mono ?_); rintro e w9 ⟨rfl, hw9⟩; rw [hw9]; clear hw9)
                exact ⟨⟨k + 1, by omega, by go_num, hb⟩, by simp [intOf] <;> omega⟩
        · obtain rfl : k = nL := by omega
          go_wp2_with fail
          go_ret
          exact ⟨_, rfl, HL4.out.trans (hb.out.mono HL4.out.size)⟩
set_option maxHeartbeats 8000000 in
theorem gcTwice_walk (ao : Option Addr) (n cap : Nat) (xs : List Oj) (fo : Option Addr) (m fcap : Nat) (fs : List Fd) (w : World) (R : ORow w ao n cap xs) (Q : FRow w fo m fcap fs) :
    Calls Try.prog 6 #[.slice ao n cap, .slice fo m fcap] w fun e w' => e = .returned (.bool true) ∧ Below w.heap.size w w' := by
  have C0 := hid (fewg_any ao n cap xs fo m fcap fs w R Q)
  have CA := hid gawake_any
  obtain ⟨fb, hfb⟩ : ∃ b, b = fewG xs fs := ⟨_, rfl⟩
  rw [← hfb] at C0
  cases fb
  · clear hfb
    go_enter Try.func6, Try.ntmps6
    go_wp2_with (first
      | (go_at_call 9; (refine C0.out.mono ?_); rintro e w9 ⟨rfl, hw9⟩; rw [hw9]; clear hw9)
      | (go_at_call 16; (refine (CA.out _).mono ?_); rintro e w9 ⟨rfl, b9⟩))
    go_ret
    exact ⟨rfl, b9⟩
  have hus := made_used hfb.symm
  have hm60 : m ≤ 60 := by have := (few_parts_g hfb.symm).2.1; have := Q.len; omega
  have CT := hid (stray_any ao n cap xs fo m fcap fs w R Q hfb.symm)
  have C1 : Hid (∀ wx, Below w.heap.size w wx → _) := fun wx hb => made_any ao n cap xs fo m fcap fs wx (R.on hb) (Q.on hb) hfb.symm
  clear hfb R Q
  obtain ⟨os, hos⟩ : ∃ os, os = madeL xs := ⟨_, rfl⟩
  obtain ⟨rs, hrs⟩ : ∃ rs, rs = fs.map (saysM (atsL xs)) := ⟨_, rfl⟩
  rw [← hos] at hus
  rw [← hos, ← hrs] at C1
  clear hos hrs
  go_enter Try.func6, Try.ntmps6
  go_wp2_with (first
    | (go_at_call 9; (refine C0.out.mono ?_); rintro e w9 ⟨rfl, hw9⟩; rw [hw9]; clear hw9))
  with_reducible refine CT.out.mono ?_
  rintro e W0 ⟨sb, rfl, b0⟩
  have HB0 := hid b0
  clear b0
  cases sb
  case true =>
    go_wp2_with (go_at_call 16; (refine (CA.out _).mono ?_); rintro e w9 ⟨rfl, b9⟩)
    go_ret
    exact ⟨rfl, Bt HB0.out b9⟩
  go_wp2_with (go_at_call 10; (refine (C1.out _ HB0.out).mono ?_); rintro e W1 ⟨v, F, g, vL, ls, ra, rc, rfl, hmx, hU, hra, b1⟩; obtain ⟨gh, rfl⟩ := hmx.ph.ptr; have HMX := hid hmx; have HUR := hid hU; have HB1 := hid (Bt HB0.out b1); have HRA := hid hra; have HRU := hid hU.bd; clear hmx hU hra b1)
  obtain ⟨t1, t2, t3, t4⟩ := coll_twice (os := os) (rs := rs) (by omega) HMX.out.okP HRU.out
  have HBW := hid HMX.out.bw
  have HOK1 := hid (coll_ok HMX.out.okP (by omega) (lvL_length os rs))
  have CL := hid (plive_any HMX.out.okP ra m rc rs W1 HMX.out.ph HUR.out (by omega))
  have HCL : Hid (usedL (collO os (lvL os rs)) ≤ 1860) := by
    have h1 := toM_le (lvL_length os rs) (i := os.length) (Nat.le_refl _)
    have h2 := at_all os
    unfold toM at h1
    rw [keep_all _ _ (lvL_length os rs)] at h1
    unfold Hid; rw [coll_used]; omega
  have CC : Hid (∀ wx, Below W1.heap.size W1 wx → _) := fun wx hb => pcollect_any HMX.out.okP ra m rc rs wx (HMX.out.on hb).ph (HUR.out.on hb) (HMX.out.on hb).bw (fun a ha => (HRA.out a ha).2.1) (by omega)
  obtain ⟨os1, hos1⟩ : ∃ x, x = collO os (lvL os rs) := ⟨_, rfl⟩
  obtain ⟨rs1, hrs1⟩ : ∃ x, x = collR os (lvL os rs) rs := ⟨_, rfl⟩
  obtain ⟨U, hU⟩ : ∃ u, u = usedL (keepL os (lvL os rs)) := ⟨_, rfl⟩
  simp only [← hos1, ← hrs1, ← hU] at t1 t2 t3 t4
  rw [← hU] at CL
  rw [← hos1, ← hrs1] at CC
  rw [← hos1] at HOK1 HCL
  have HT := hid (And.intro t1 (And.intro t2 (And.intro t3 t4)))
  clear t1 t2 t3 t4 hos1 hrs1 hU
  go_wp2_with (go_at_call 17; (with_reducible refine CL.out.mono ?_); rintro e W2 ⟨rfl, b2⟩; have HB2 := hid b2; clear b2)
  with_reducible refine (CC.out W2 HB2.out).mono ?_
  rintro e W3 ⟨sa, sc, rfl, hU3, hs3, F3, hp3, hf3, hn3, hm3⟩
  have HP3 := hid hp3
  have HU3 := hid hU3
  have HN3 := hid hn3
  have HWW : Hid (w.heap.size ≤ W0.heap.size) := HB0.out.size
  have HB3 : Hid (Below w.heap.size w W3) := (HB1.out.trans (HB2.out.mono HB1.out.size)).trans ((hm3.below (fun b hb => (HMX.out.ph.ge b hb).1) (HMX.out.on HB2.out).bw).mono HWW.out)
  have HS3 : Hid (W0.heap.size ≤ W3.heap.size) := Nat.le_trans (HMX.out.on HB2.out).bw hm3.size
  clear hU3 hs3 hp3 hf3 hn3 hm3
  have hlw : (wordsL os1).length = U := by rw [wordsL_length]; exact HT.out.2.2.2
  have CW : Hid (∀ wx F', PH W0.heap.size (.pointer (some ⟨gh, 0, none⟩)) 4000 (wordsL os1) F' wx → Calls Try.prog 14 #[.pointer (some ⟨gh, 0, none⟩)] wx fun e w' => ∃ ao cap, e = .returned (.slice ao U cap) ∧ URow w' ao U cap (wordsL os1) ∧ (∀ a, ao = some a → wx.heap.size ≤ a.block) ∧ Below wx.heap.size wx w') := fun wx F' h => by
    have := words_any wx h (by rw [wordsL_length]; have := HCL.out; omega)
    rw [hlw] at this; exact this
  have CC2 : Hid (∀ wx F' ra' rc', PH W0.heap.size (.pointer (some ⟨gh, 0, none⟩)) 4000 (wordsL os1) F' wx → URow wx ra' m rc' rs1 → W0.heap.size ≤ wx.heap.size → (∀ a, ra' = some a → ¬ F' a.block) → Calls Try.prog 11 #[.pointer (some ⟨gh, 0, none⟩), .slice ra' m rc'] wx fun e w' => ∃ ao cap, e = .returned (.slice ao m cap) ∧ URow w' ao m cap rs1 ∧ ∃ F5, PH W0.heap.size (.pointer (some ⟨gh, 0, none⟩)) 4000 (wordsL os1) F5 w' ∧ Mod F' wx w') := fun wx F' ra' rc' h hu hB hn => by
    refine (pcollect_any HOK1.out ra' m rc' rs1 wx h hu hB hn (by omega)).mono ?_
    rintro e w' ⟨ao, cap, rfl, h1, _, F5, h2, _, _, h5⟩
    rw [HT.out.1] at h2
    rw [HT.out.2.1] at h1
    exact ⟨ao, cap, rfl, h1, F5, h2, h5⟩
  have CL2 : Hid (∀ wx F' ra' rc', PH W0.heap.size (.pointer (some ⟨gh, 0, none⟩)) 4000 (wordsL os1) F' wx → URow wx ra' m rc' rs1 → Calls Try.prog 17 #[.pointer (some ⟨gh, 0, none⟩), .slice ra' m rc'] wx fun e w' => e = .returned (.int .i64 (U : Nat)) ∧ Below wx.heap.size wx w') := fun wx F' ra' rc' h hu => by
    have := plive_any HOK1.out ra' m rc' rs1 wx h hu (by omega)
    rw [HT.out.2.2.1] at this; exact this
  have CS : Hid (∀ l a1 n c1 a2 c2 wx, URow wx a1 n c1 l → URow wx a2 n c2 l → Calls Try.prog 13 #[.slice a1 n c1, .slice a2 n c2] wx fun e w' => e = .returned (.bool true) ∧ Below wx.heap.size wx w') := fun l a1 n c1 a2 c2 wx h1 h2 => by
    have := samew_any a1 _ c1 _ a2 _ c2 _ wx h1 h2
    rw [decide_eq_true rfl] at this; exact this
  have eU : ((U : Int) == (U : Int)) = true := by simp
  clear hlw
  go_wp2_with fail
  with_reducible refine (CW.out W3 F3 HP3.out).mono ?_
  rintro e W4 ⟨wa, wc, rfl, hu4, ha4, b4⟩
  have HP4 := hid (HP3.out.keep (fun b hf => b4.block b (HP3.out.ge b hf).2))
  have HWAS := hid hu4
  have HNW : Hid (∀ a, wa = some a → ¬ F3 a.block) := fun a ha e => by have h1 := ha4 a ha; have h2 := (HP3.out.ge _ e).2; omega
  have HU4 := hid (HU3.out.on b4)
  have HB4 := hid (Bt HB3.out b4)
  have HS4 : Hid (W0.heap.size ≤ W4.heap.size) := Nat.le_trans HS3.out b4.size
  clear hu4 ha4 b4
  go_wp2_with fail
  with_reducible refine (CC2.out W4 F3 sa sc HP4.out HU4.out HS4.out HN3.out).mono ?_
  rintro e W5 ⟨ta, tc, rfl, hu5, F5, hp5, hm5⟩
  have HP5 := hid hp5
  have HU5 := hid hu5
  have HSS := hid (HU4.out.mod hm5 HN3.out)
  have HWS := hid (HWAS.out.mod hm5 HNW.out)
  have HB5 : Hid (Below w.heap.size w W5) := HB4.out.trans ((hm5.below (fun b hb => (HP4.out.ge b hb).1) HS4.out).mono HWW.out)
  clear hu5 hp5 hm5
  have C6 := hid (CL2.out W5 F5 ta tc HP5.out HU5.out)
  go_wp2_with (go_at_call 17; (with_reducible refine C6.out.mono ?_); rintro e W6 ⟨rfl, b6⟩; have HB6 := hid b6; clear b6)
  with_reducible refine (CS.out rs1 _ _ _ _ _ _ (HSS.out.on HB6.out) (HU5.out.on HB6.out)).mono ?_
  rintro e W7 ⟨rfl, b7⟩
  have HB7 := hid (Bt HB6.out b7)
  clear b7
  have C8 := hid (CW.out W7 F5 (HP5.out.keep (fun b hf => HB7.out.block b (HP5.out.ge b hf).2)))
  go_wp2_with (go_at_call 14; (with_reducible refine C8.out.mono ?_); rintro e W8 ⟨a8, c8, rfl, hu8, _, b8⟩; have HB8 := hid (Bt HB7.out b8); have HU8 := hid hu8; clear b8 hu8)
  with_reducible refine (CS.out _ _ _ _ _ _ _ HU8.out (HWS.out.on HB8.out)).mono ?_
  rintro e W9 ⟨rfl, b9⟩
  have HB9 := hid (Bt HB8.out b9)
  clear b9
  go_wp2_with (go_at_call 16; (refine (CA.out _).mono ?_); rintro e w9 ⟨rfl, b9⟩)
  go_ret
  exact ⟨rfl, Bt (Bt HB5.out HB9.out) b9⟩
end Go.Proofs.Ythgkonjglappjaa
