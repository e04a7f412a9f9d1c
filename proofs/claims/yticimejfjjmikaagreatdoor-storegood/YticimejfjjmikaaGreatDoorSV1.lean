import Derived.Test.YticimejfjjmikaaGreatDoorSG11
import Derived.Test.YticimejfjjmikaaGreatDoorSK2
import Derived.Test.YticimejfjjmikaaGreatDoorSR
import Derived.Test.YticimejfjjmikaaGreatDoorSG1
import Derived.Test.YticimejfjjmikaaGreatDoorK1
import Derived.Test.YticimejfjjmikaaGreatDoorC4
import Derived.Test.YticimejfjjmikaaGreatDoorG21
import Derived.Test.YticimejfjjmikaaGreatDoorG13
import Derived.Test.YticimejfjjmikaaGreatDoorW40
set_option linter.unusedVariables false
set_option linter.unusedSimpArgs false
set_option maxRecDepth 100000
namespace Go.Proofs.YticimejfjjmikaaGreatDoor
open Go.RowKit
theorem shown_good {os : List Ob} {nm : List ByteArray} {rts W rs : List Int} {ns : List Nd} (hn : ∀ s ∈ nm, s.size <= 2000) (ho : ∀ o ∈ os, o.f.length <= 30) (T : Told (wordD os nm) rts W ns rs) (F : Fine ns rs 300001) :
  goodG (canonN ns rs).1 (canonN ns rs).2 = true /\ smallG (canonN ns rs).1 /\ (∀ d ∈ (canonN ns rs).1, d.kids.length <= 100) /\ canonN (canonN ns rs).1 (canonN ns rs).2 = canonN ns rs /\ (canonN ns rs).1.length <= 2500 /\ (canonN ns rs).2.length = rts.length := by
 have hl := F.len
 have hs : ∀ d ∈ ns, d.text.size <= 2000 := fun d hd => by
  obtain ⟨i, hi, rfl⟩ := List.getElem_of_mem hd
  have e : ns.getD i default = ns[i] := by rw [List.getD_eq_getElem?_getD, List.getElem?_eq_getElem hi]; rfl
  have h2 := (T.node i hi).2.2
  rw [e] at h2
  rw [h2]; exact (word_small hn ho _).2.2
 have hr : rs.length = rts.length := by rw [<- T.rts, List.length_map]
 exact ⟨F.goodC, F.smallC hs, F.kidsC, F.again, Nat.le_trans hl.1 F.nn, hl.2.trans hr⟩
theorem g2_on {w1 wx wy : World} {p : Nat} {a0 a1 : Value} (h : wx.cell? ⟨p, 0, none⟩ = some a0 /\ wx.cell? ⟨p, 1, none⟩ = some a1 /\ Below w1.heap.size w1 wx) (hb : Below wx.heap.size wx wy) : wy.cell? ⟨p, 0, none⟩ = some a0 /\ wy.cell? ⟨p, 1, none⟩ = some a1 /\ Below w1.heap.size w1 wy := by
 obtain ⟨h1, h2, h7⟩ := h
 exact ⟨(hb.cell (p := ⟨p, 0, none⟩) (cell_lt h1)).trans h1, (hb.cell (p := ⟨p, 1, none⟩) (cell_lt h1)).trans h2, Bt h7 hb⟩
theorem g2_bel {w1 wx : World} {p : Nat} {a0 a1 : Value} (h : wx.cell? ⟨p, 0, none⟩ = some a0 /\ wx.cell? ⟨p, 1, none⟩ = some a1 /\ Below w1.heap.size w1 wx) : Below w1.heap.size w1 wx := h.2.2
set_option maxHeartbeats 16000000 in
theorem storeGood_walk (ao : Option Addr) (n cap : Nat) (xs : List So) (ro : Option Addr) (nr cr : Nat) (rts : List Int) (w : World) (R : SoRow w ao n cap xs) (Q : URow w ro nr cr rts) (hT : TabsS w) :
  Calls Tryz.prog 3 #[.slice ao n cap, .slice ro nr cr] w fun e w' => e = .returned (.bool true) /\ Below w.heap.size w w' := by
 have CF := hid (sfew_any ao n cap xs w R)
 have hqf := Q.fits
 have hqm := Q.most
 unfold maxLen at hqm
 cases hfb : fewS xs with
 | false =>
  rw [hfb] at CF
  clear R Q hT hfb
  go_enter Tryz.func3, Tryz.ntmps3
  go_wp2_with (go_at_call 9; (with_reducible refine CF.out.mono ?_); rintro e W1 ⟨rfl, hW1⟩; rw [hW1]; clear hW1)
  go_ret
  exact ⟨rfl, Below.refl _ _⟩
 | true =>
  rw [hfb] at CF
  by_cases hnr : nr <= 60
  ·have CM := hid (smade_any ao n cap xs w R hfb)
   have hsm := few_parts_s hfb
   have hms := made_small hsm
   have HMS := hid hms
   have HQ := hid Q
   have HT := hid hT
   have hxl := R.len
   have hn60 : n <= 60 := by have := hsm.1; omega
   have HAL : Hid ((atsL (xs.map ojOf)).length = n) := by unfold Hid; simp [atsL]; exact hxl
   have HRL := hid Q.len
   have HAU : Hid (∀ z ∈ atsL (xs.map ojOf), U64 z) := atsL_u64
   obtain ⟨ats, hats⟩ : ∃ x, x = atsL (xs.map ojOf) := ⟨_, rfl⟩
   unfold MadePost at CM
   rw [<- hats] at CM HAL HAU
   obtain ⟨m, hm⟩ : ∃ m, m = n + nr := ⟨_, rfl⟩
   have hwr : IntKind.i64.wrap ((n : Int) + (nr : Int)) = (m : Int) := by rw [hm, IntKind.wrap_i64]; omega
   have CSH : Hid (∀ (gh gp : Nat) (F : Nat -> Prop) (wx : World) (a3 : Option Addr) (c3 : Nat), PN w.heap.size (.pointer (some ⟨gh, 0, none⟩)) (.pointer (some ⟨gp, 0, none⟩)) 5000 (madeS xs) nm4 F wx -> URow wx a3 m c3 (ats ++ rts) -> TabsS wx -> Calls Tryz.prog 11 #[.pointer (some ⟨gh, 0, none⟩), .pointer (some ⟨gp, 0, none⟩), .slice a3 m c3] wx fun e w' => ∃ a1 n1 c1 a2 c2 cs crs, e = .returned (.agg #[.slice a1 n1 c1, .slice a2 m c2]) /\ GIs w' a1 n1 c1 a2 m c2 cs crs /\ goodG cs crs = true /\ smallG cs /\ (∀ d ∈ cs, d.kids.length <= 100) /\ canonN cs crs = (cs, crs) /\ n1 <= 2500 /\ Below wx.heap.size wx w') := fun gh gp F wx a3 c3 hp hu ht => by
    have hal := HAL.out
    have hrl := HRL.out
    refine (sshow_any a3 m c3 (ats ++ rts) wx hp hu (allW (madeS xs) (ats ++ rts)) (fun x hx => rch_all nm4_small HMS.out.2 hx) ?_ (fun x _ => (word_small nm4_small HMS.out.2 x).2) (by omega) (by decide) (fun s hs => Nat.le_trans (nm4_small s hs) (by decide)) ht).mono ?_
    ·have := flat_len HMS.out.2
     have := HMS.out.1
     unfold allW
     rw [List.length_append, List.length_append]; omega
    ·rintro e w' ⟨a1, n1, c1, a2, n2, c2, W, ns, rs, rfl, hTd, hF, hGI, _, hB⟩
     obtain ⟨k1, k2, k3, k4, k5, k6⟩ := shown_good nm4_small HMS.out.2 hTd hF
     have hn1 := hGI.nodes.len
     have hn2 := hGI.roots.len
     have e2 : n2 = m := by rw [<- hn2, k6, List.length_append, hal, hrl, hm]
     subst e2
     exact ⟨a1, n1, c1, a2, c2, (canonN ns rs).1, (canonN ns rs).2, rfl, hGI, k1, k2, k3, k4, by omega, hB⟩
   have hm120 : m <= 120 := by omega
   have HMM := hid hm
   clear R Q hT hfb hsm hms hxl hats hm
   go_enter Tryz.func3, Tryz.ntmps3
   go_wp2_with (first
    | (go_at_call 9; (with_reducible refine CF.out.mono ?_); rintro e W1 ⟨rfl, hW1⟩; rw [hW1]; clear hW1)
    | (go_at_call 10; (with_reducible refine CM.out.mono ?_); rintro e W1 ⟨gh, gp, g, gn, B', F, vL, ls, vN, aA, cA, rfl, hkz, hoA, b1⟩; have HPN := hid hkz.z.pn; have hoA' := hoA; rw [<- HAL.out] at hoA'; obtain ⟨aA2, cA2, hva, hUA⟩ := urow_own hoA' HAU.out; rw [HAL.out] at hva hUA; obtain ⟨rfl, rfl⟩ : aA = aA2 /\ cA = cA2 := (by injection hva with x1 _ x3; exact ⟨x1, x3⟩); have hcf := hUA.fits; have hcm := hUA.most; have HUA := hid (hUA.on (Ba W1 (.cells #[] 44))); have HB1 := hid b1; have HSE : Hid ((W1.alloc (.cells #[] 44)).ownsRow W1.heap.size 44 1 (.slice (some ⟨W1.heap.size, 0, none⟩) 0 0) 0 (uz [])) := ⟨rfl, .inr ⟨W1.heap.size, 0, #[], rfl, Nat.le_refl _, blk_new _ _ _, Nat.le_refl _, by unfold maxLen; omega, rfl, rfl⟩⟩; have HZ1 : Hid (W1.heap.size <= (W1.alloc (.cells #[] 44)).heap.size) := (Ba W1 _).size; clear hkz hoA hoA' hva hUA b1)
    | (at_builtin; refine appU rfl _ _ 23 rfl W1.heap.size 44 Tryz.underlying23 info_word _ 0 [] rfl HSE.out aA n cA ats rfl HUA.out (by omega) HZ1.out ?_; intro v2 W2 ho2 hg2; rw [Nat.zero_add, List.nil_append] at ho2; have HO2 := hid ho2; have HB2 : Hid (Below W1.heap.size W1 W2) := (Ba W1 (.cells #[] 44)).grown hg2 HZ1.out (fun k hk => (HSE.out.lt k hk).1); have HQ2 := hid (HQ.out.on (Bt HB1.out HB2.out)); have HZ2 := hid HB2.out.size; clear ho2 hg2)
    | (at_builtin; refine appU rfl _ _ 23 rfl W1.heap.size 44 Tryz.underlying23 info_word _ n ats rfl HO2.out ro nr cr rts rfl HQ2.out (by omega) HZ2.out ?_; intro v3 W3 ho3 hg3; have HB3 : Hid (Below W1.heap.size W1 W3) := HB2.out.grown hg3 HZ2.out (fun k hk => (HO2.out.lt k hk).1); rw [<- HMM.out] at ho3; have hlen3 : (ats ++ rts).length = m := (by rw [List.length_append, HAL.out, HRL.out, HMM.out]); rw [<- hlen3] at ho3; obtain ⟨a3, c3, hv3, hU3⟩ := urow_own ho3 (fun z hz => (List.mem_append.1 hz).elim (HAU.out z) (HQ.out.bd z)); rw [hlen3] at hv3 hU3; subst hv3; have hU3f := hU3.fits; have CS3 := hid (CSH.out gh gp F W3 a3 c3 (HPN.out.on HB3.out) hU3 (HT.out.below (Bt HB1.out HB3.out))); clear ho3 hg3 hlen3 hU3)
    | (go_at_call 11; (with_reducible refine CS3.out.mono ?_); rintro e W5 ⟨a1, n1, c1, a2, c2, cs, crs, rfl, hGI, k1, k2, k3, k4, k5, b5⟩; have HGI := hid hGI; have HK1 := hid k1; have HK2 := hid k2; have HK3 := hid k3; have HK4 := hid k4; have HB5 := hid (Bt (Bt HB1.out HB3.out) b5); clear hGI k1 k2 k3 k4 b5))
   obtain ⟨gg, hgg⟩ : ∃ g, g = W5.heap.size := ⟨_, rfl⟩
   have x6 := GBox.new 34 W5 a1 a2 n1 c1 m c2
   have bX := Ba W5 (.cells #[.slice a1 n1 c1, .slice a2 m c2] 34)
   have HG6 := hid (HGI.out.below bX)
   have HB6 := hid (Bt HB5.out bX)
   obtain ⟨W6, hW6⟩ : ∃ W, W = W5.alloc (.cells #[.slice a1 n1 c1, .slice a2 m c2] 34) := ⟨_, rfl⟩
   rw [<- hW6] at x6 HG6 HB6
   rw [<- hgg] at x6
   rw [<- hW6, <- hgg]
   obtain ⟨p0, q0⟩ := GBox.c x6
   have C1 : Hid (∀ wx, Below W6.heap.size W6 wx -> Calls Tryz.prog 12 #[.agg #[.slice a1 n1 c1, .slice a2 m c2]] wx fun e w' => e = .returned (.bool true) /\ Below wx.heap.size wx w') := fun wx b => by
    have := rgood_g a1 a2 n1 c1 m c2 cs crs wx (HG6.out.below b) HK2.out k5
    rw [HK1.out] at this; exact this
   have C2 : Hid (∀ wx, Below W6.heap.size W6 wx -> Calls Tryz.prog 14 #[.agg #[.slice a1 n1 c1, .slice a2 m c2]] wx fun e w' => ∃ b1 k1 e1 b2 k2 e2, e = .returned (.agg #[.slice b1 k1 e1, .slice b2 k2 e2]) /\ GIs w' b1 k1 e1 b2 k2 e2 cs crs /\ Below wx.heap.size wx w') := fun wx b => by
    have := rcanon_any a1 a2 n1 c1 m c2 cs crs wx (HG6.out.below b) HK2.out HK3.out k5 (by omega)
    rw [HK4.out] at this; exact this
   have C3 : Hid (∀ wx b1 k1 e1 b2 k2 e2, Below W6.heap.size W6 wx -> GIs wx b1 k1 e1 b2 k2 e2 cs crs -> Calls Tryz.prog 13 #[.agg #[.slice b1 k1 e1, .slice b2 k2 e2], .agg #[.slice a1 n1 c1, .slice a2 m c2]] wx fun e w' => e = .returned (.bool true) /\ Below wx.heap.size wx w') := fun wx b1 k1 e1 b2 k2 e2 b h => by
    have := requal_any b1 b2 k1 e1 k2 e2 cs crs a1 a2 n1 c1 m c2 cs crs wx h (HG6.out.below b)
    rw [decide_eq_true (⟨rfl, rfl⟩ : cs = cs /\ crs = crs)] at this; exact this
   have TW := hid (HT.out.below HB6.out)
   have HS0 : Hid (W6.cell? ⟨gg, 0, none⟩ = some (.slice a1 n1 c1) /\ W6.cell? ⟨gg, 1, none⟩ = some (.slice a2 m c2) /\ Below W6.heap.size W6 W6) := ⟨p0, q0, Below.refl _ _⟩
   clear p0 q0 x6 bX hgg hW6
   go_region_held3 (fun wx => wx.cell? ⟨gg, 0, none⟩ = some (.slice a1 n1 c1) /\ wx.cell? ⟨gg, 1, none⟩ = some (.slice a2 m c2) /\ Below W6.heap.size W6 wx)
    (first | exact g2_on HS0.out (Bd W6 1) | exact g2_on (by assumption) (by assumption))
    (first
     | (go_at_call 12; with_reducible refine (C1.out _ ?_).mono ?_; (exact g2_bel (p := gg) (a0 := .slice a1 n1 c1) (a1 := .slice a2 m c2) (by assumption)); rintro e wg ⟨rfl, bg⟩)
     | (go_at_call 14; with_reducible refine (C2.out _ ?_).mono ?_; (exact g2_bel (p := gg) (a0 := .slice a1 n1 c1) (a1 := .slice a2 m c2) (by assumption)); rintro e wa ⟨y1, y2, y3, y4, y5, y6, rfl, hgy, ba⟩)
     | (go_at_call 13; with_reducible refine (C3.out _ _ _ _ _ _ _ ?_ hgy).mono ?_; (exact g2_bel (p := gg) (a0 := .slice a1 n1 c1) (a1 := .slice a2 m c2) (by assumption)); rintro e wb ⟨rfl, bb⟩)
     | (go_at_call 15; refine (sawake_any _ ?_).mono ?_; (exact TW.out.below (g2_bel (p := gg) (a0 := .slice a1 n1 c1) (a1 := .slice a2 m c2) (by assumption))); rintro e wf ⟨rfl, bf⟩))
   have HBE : Hid (Below w.heap.size w wf) := Bt HB6.out (g2_bel (p := gg) (a0 := .slice a1 n1 c1) (a1 := .slice a2 m c2) (by assumption))
   rename_i hHeld
   clear hHeld
   go_wp2
   go_ret
   exact ⟨rfl, HBE.out⟩
  ·clear R Q hT hfb
   go_enter Tryz.func3, Tryz.ntmps3
   go_wp2_with (go_at_call 9; (with_reducible refine CF.out.mono ?_); rintro e W1 ⟨rfl, hW1⟩; rw [hW1]; clear hW1)
   go_ret
   exact ⟨rfl, Below.refl _ _⟩
end Go.Proofs.YticimejfjjmikaaGreatDoor
