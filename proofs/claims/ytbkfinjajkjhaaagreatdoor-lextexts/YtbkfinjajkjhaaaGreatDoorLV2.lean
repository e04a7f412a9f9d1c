import Derived.Test.YtbkfinjajkjhaaaGreatDoorLV1
import Derived.Lib.ValidLaws
import Derived.Laws.BitsAllLaws
import Derived.BigQuiet
set_option linter.unusedVariables false
set_option linter.unusedSimpArgs false
set_option maxRecDepth 100000
namespace Go.Proofs.YtbkfinjajkjhaaaGreatDoor
open Go.RowKit
theorem cutB {t : ByteArray} {a : Option Addr} {k : Nat} (h : k <= t.size) (W : World) : (Instr.slice 22 (.slice a t.size t.size) (some (.int .i64 (k : Int))) none none).run Tryz.prog W = .ok (.slice (adv a t.size k) (t.extract k t.size).size (t.extract k t.size).size) W := by
 rw [Lib.ext_size]; exact slice_from h
theorem cutBA {t : ByteArray} {a : Option Addr} {k : Nat} (h : k <= t.size) (W : World) : (Instr.sliceAt 22 (.slice a t.size t.size) (some (.int .i64 (k : Int))) none none).run Tryz.prog W = .ok (.slice (adv a t.size k) (t.extract k t.size).size (t.extract k t.size).size) W := by
 rw [Lib.ext_size]; exact sliceAt_from h
structure Cut (w : World) (a : Option Addr) (t : ByteArray) (k : Nat) (a1 : Option Addr) (t1 : ByteArray) : Prop where
 is : t1 = t.extract k t.size
 size : t1.size + k = t.size
 row : ∀ W, Below w.heap.size w W -> BT W a1 t1
 valid : Lib.Asc t k -> Lib.validD t1.data.toList = Lib.validD t.data.toList
 list : t1.data.toList = t.data.toList.drop k
theorem Cut.of {w : World} {a : Option Addr} {t : ByteArray} (R : BT w a t) {k : Nat} (h : k <= t.size) : Cut w a t k (adv a t.size k) (t.extract k t.size) :=
 ⟨rfl, by rw [Lib.ext_size]; omega, fun W hW => (BT.cut R h).below hW, fun hA => Lib.valid_skip t k hA, Lib.ext_list t k⟩
structure Wd (w : World) (a : Option Addr) (t : ByteArray) (A : Nat) : Prop where
 lt : A < 18446744073709551616
 asc : A &&& 9259542123273814144 = 0 -> Lib.Asc t 8
 call : ∀ n, Calls Tryz.prog 58 #[.slice a t.size t.size] (w.drewN n) fun e w' => e = .returned (.int .u64 (A : Nat)) /\ ∃ q, w' = (w.drewN n).drewN q
theorem Wd.of {w : World} {a : Option Addr} {t : ByteArray} (R : BT w a t) (h : 8 <= t.size) : ∃ A, Wd w a t A :=
 ⟨Lib.leNat [t.get! 0, t.get! 1, t.get! 2, t.get! 3, t.get! 4, t.get! 5, t.get! 6, t.get! 7], Lib.word_lt t, (Lib.word_asc t h).1, fun n => wordB_any a t _ (R.below (Bd w n)) h⟩
theorem Wd.call0 {w : World} {a : Option Addr} {t : ByteArray} {A : Nat} (h : Wd w a t A) : Calls Tryz.prog 58 #[.slice a t.size t.size] w fun e w' => e = .returned (.int .u64 (A : Nat)) /\ ∃ q, w' = w.drewN q := h.call 0
theorem mask_is (A : Nat) (h : A < 18446744073709551616) : bits .and .u64 (A : Int) 9259542123273814144 = ((A &&& 9259542123273814144 : Nat) : Int) := u64_and_nat A 9259542123273814144 h (by omega)
theorem or_is (A B : Nat) (ha : A < 18446744073709551616) (hb : B < 18446744073709551616) : bits .or .u64 (A : Int) (B : Int) = ((A ||| B : Nat) : Int) /\ A ||| B < 18446744073709551616 := ⟨u64_or_nat A B ha hb, Nat.or_lt_two_pow (n := 64) ha hb⟩
theorem low3 : ∀ X : Fin 256, bits .and .u8 ((X.val : Nat) : Int) 7 = ((X.val % 8 : Nat) : Int) := by decide
set_option maxHeartbeats 16000000 in
theorem bvalid_any (ao : Option Addr) (t0 : ByteArray) (cap : Nat) (w : World) (R : BRow w ao t0.size cap (t0.data.toList.map UInt8.toNat)) (hsm : t0.size <= 1000000) (hT : Lib.Utf8Tabs 1 2 w) :
  Calls Tryz.prog 35 #[.slice ao t0.size cap] w fun e w' => e = .returned (.bool (Lib.validD t0.data.toList)) /\ Below w.heap.size w w' := by
 obtain ⟨ANS, hANS⟩ : ∃ ANS, Lib.validD t0.data.toList = ANS := ⟨_, rfl⟩
 rw [hANS]
 have HV0 := hid hANS
 have R1 : BT w ao t0 := by have := R.take (Nat.le_refl _) t0.size (Nat.le_refl _) R.fits; rwa [List.take_of_length_le (by rw [len_nat]; exact Nat.le_refl _)] at this
 have HR0 := hid R1
 have HT0 := hid hT
 have HB0 : Hid (Below w.heap.size w w) := Below.refl _ _
 have hf := R.fits
 have hs3 : ∀ W, (Instr.slice 22 (.slice ao t0.size cap) none (some (.int .i64 (t0.size : Int))) (some (.int .i64 (t0.size : Int)))).run Tryz.prog W = .ok (.slice ao t0.size t0.size) W := fun W => by
  rw [run_slice_hm W 22 ao t0.size cap under_bytes .i64 .i64 t0.size t0.size (by omega) (by omega) (by omega), elem_bytes, Tryz.sizeOf5]
  cases ao <;> simp [Result.andThen, sliced, Addr.add]
 clear R R1 hT hANS hf
 go_enter Tryz.func35, Tryz.ntmps35
 go_wp2_with fail
 clear hs3
 go_loopg [0] (t0.size + 1) (fun gk s0 wx => Hid (Below w.heap.size w wx) /\ ∃ (t : ByteArray) (a : Option Addr), s0 = .slice a t.size t.size /\ Hid (BT wx a t) /\ Hid (Lib.validD t.data.toList = ANS) /\ t.size < gk /\ t.size <= 1000000)
 case atStart => exact ⟨HB0.out, t0, ao, rfl, HR0.out, HV0.out, by omega, hsm⟩
 case round =>
  obtain ⟨hB, t, a, rfl, hR, hv, hg, hts⟩ := hrel
  clear HB0 HR0 HV0
  have HTr := hid (Utf8Tabs_below HT0.out hB.out)
  by_cases h0 : 0 < t.size
  ·obtain ⟨g', rfl⟩ : ∃ g', gk = g' + 1 := ⟨gk - 1, by omega⟩
   have h0z : (0 : Int) < (t.size : Int) := by omega
   obtain ⟨b, o, rfl, hbs, hc⟩ := hR.out.at_ h0
   have HC := hid hc
   have hbs' := hid hbs
   have hc0 := hc 0 h0
   obtain ⟨x0, hx0⟩ : ∃ x0, t.get! 0 = x0 := ⟨_, rfl⟩
   rw [hx0, Nat.add_zero] at hc0
   have hx0lt : x0.toNat < 256 := x0.toNat_lt
   clear hc hbs
   by_cases hasc : x0.toNat < 128
   ·have hascz : (x0.toNat : Int) < 128 := by omega
    have ac1 := hid (Lib.asc_one t h0 (by rw [hx0]; exact hasc))
    clear hasc hx0lt
    have hslt1 : ∀ W, (Instr.slice 22 (.slice (some ⟨b, o, none⟩) t.size t.size) (some (.int .i64 1)) none none).run Tryz.prog W = _ := cutB (k := 1) (by omega)
    have hsat1 : ∀ W, (Instr.sliceAt 22 (.slice (some ⟨b, o, none⟩) t.size t.size) (some (.int .i64 1)) none none).run Tryz.prog W = _ := cutBA (k := 1) (by omega)
    have Ct1 := Cut.of (k := 1) hR.out (by omega)
    obtain ⟨t1, ht1⟩ : ∃ x, x = t.extract 1 t.size := ⟨_, rfl⟩
    obtain ⟨a1, ha1⟩ : ∃ x, x = adv (some ⟨b, o, none⟩) t.size 1 := ⟨_, rfl⟩
    rw [<- ht1, <- ha1] at hslt1 hsat1 Ct1
    have zt1 := Ct1.size
    have Dt1 := hid Ct1
    clear Ct1 ht1 ha1
    have v1 : Hid (Lib.validD t1.data.toList = ANS) := (Dt1.out.valid ac1.out).trans hv.out
    clear ac1 hR HC HTr hv
    by_cases c8 : 8 < t1.size
    ·have c8z : (8 : Int) < (t1.size : Int) := by omega
     have c8b : decide ((8 : Int) < (t1.size : Int)) = true := decide_eq_true c8z
     have R1 := hid (Dt1.out.row wr (Below.refl _ _))
     obtain ⟨A1, wA1⟩ := Wd.of (a := a1) (t := t1) R1.out (by omega)
     have HA1 := hid wA1
     have cA1 := wA1.call
     clear wA1
     have m1 := mask_is A1 HA1.out.lt
     obtain ⟨Z1, hZ1⟩ : ∃ Z1, Z1 = A1 &&& 9259542123273814144 := ⟨_, rfl⟩
     rw [<- hZ1] at m1
     have HZ1 : Hid (Z1 = 0 -> Lib.Asc t1 8) := fun e => HA1.out.asc (by rw [<- hZ1]; exact e)
     have dA1 := HA1.out.call0
     clear hZ1 cA1
     by_cases hz1 : Z1 = 0
     ·have hz1b : ((Z1 : Int) == 0) = true := by simp [hz1]
      as_aux_lemma =>
       have hslt2 : ∀ W, (Instr.slice 22 (.slice a1 t1.size t1.size) (some (.int .i64 8)) none none).run Tryz.prog W = _ := cutB (k := 8) (by omega)
       have hsat2 : ∀ W, (Instr.sliceAt 22 (.slice a1 t1.size t1.size) (some (.int .i64 8)) none none).run Tryz.prog W = _ := cutBA (k := 8) (by omega)
       have Ct2 := Cut.of (k := 8) R1.out (by omega)
       obtain ⟨t2, ht2⟩ : ∃ x, x = t1.extract 8 t1.size := ⟨_, rfl⟩
       obtain ⟨a2, ha2⟩ : ∃ x, x = adv a1 t1.size 8 := ⟨_, rfl⟩
       rw [<- ht2, <- ha2] at hslt2 hsat2 Ct2
       have zt2 := Ct2.size
       have Dt2 := hid Ct2
       clear Ct2 ht2 ha2
       have v2 : Hid (Lib.validD t2.data.toList = ANS) := (Dt2.out.valid (HZ1.out hz1)).trans v1.out
       go_wp2_with (go_at_call 58; with_reducible refine Calls.mono dA1 ?_; rintro e W1 ⟨rfl, q1, rfl⟩)
       have HB1 : Hid (Below wr.heap.size wr (wr.drewN q1)) := Bd _ _
       generalize wr.drewN q1 = wq at HB1 ⊢
       have R2 := hid (Dt2.out.row wq HB1.out)
       clear dA1 HZ1 v1 hz1 hz1b m1
       by_cases c16 : 16 < t2.size
       ·have c16z : (16 : Int) < (t2.size : Int) := by omega
        have c16b : decide ((16 : Int) < (t2.size : Int)) = true := decide_eq_true c16z
        have hslt2b : ∀ W, (Instr.slice 22 (.slice a2 t2.size t2.size) (some (.int .i64 8)) none none).run Tryz.prog W = _ := cutB (k := 8) (by omega)
        have hsat2b : ∀ W, (Instr.sliceAt 22 (.slice a2 t2.size t2.size) (some (.int .i64 8)) none none).run Tryz.prog W = _ := cutBA (k := 8) (by omega)
        have Ct2b := Cut.of (k := 8) R2.out (by omega)
        obtain ⟨t2b, ht2b⟩ : ∃ x, x = t2.extract 8 t2.size := ⟨_, rfl⟩
        obtain ⟨a2b, ha2b⟩ : ∃ x, x = adv a2 t2.size 8 := ⟨_, rfl⟩
        rw [<- ht2b, <- ha2b] at hslt2b hsat2b Ct2b
        have zt2b := Ct2b.size
        have Dt2b := hid Ct2b
        clear Ct2b ht2b ha2b
        obtain ⟨A2, wA2⟩ := Wd.of (a := a2) (t := t2) R2.out (by omega)
        have HA2 := hid wA2
        have cA2 := wA2.call
        clear wA2
        obtain ⟨A3, wA3⟩ := Wd.of (a := a2b) (t := t2b) (Dt2b.out.row wq (Below.refl _ _)) (by omega)
        have HA3 := hid wA3
        have cA3 := wA3.call
        clear wA3
        obtain ⟨o2, l2⟩ := or_is A2 A3 HA2.out.lt HA3.out.lt
        have m2 := mask_is (A2 ||| A3) l2
        have k2 : Hid ((A2 ||| A3) &&& 9259542123273814144 = 0 -> Lib.Asc t2 16) := fun e => by
         obtain ⟨e1, e2⟩ := (Lib.or_mask A2 A3 _).1 e
         exact Lib.asc_add t2 8 8 (HA2.out.asc e1) (by rw [<- Dt2b.out.is]; exact HA3.out.asc e2)
        obtain ⟨O2, hO2⟩ : ∃ O2, O2 = A2 ||| A3 := ⟨_, rfl⟩
        rw [<- hO2] at o2 m2 k2
        obtain ⟨Z2, hZ2⟩ : ∃ Z2, Z2 = O2 &&& 9259542123273814144 := ⟨_, rfl⟩
        rw [<- hZ2] at m2 k2
        clear hO2 hZ2 l2
        by_cases hz2 : Z2 = 0
        ·have hz2b : ((Z2 : Int) == 0) = true := by simp [hz2]
         have hslt3 : ∀ W, (Instr.slice 22 (.slice a2 t2.size t2.size) (some (.int .i64 16)) none none).run Tryz.prog W = _ := cutB (k := 16) (by omega)
         have hsat3 : ∀ W, (Instr.sliceAt 22 (.slice a2 t2.size t2.size) (some (.int .i64 16)) none none).run Tryz.prog W = _ := cutBA (k := 16) (by omega)
         have Ct3 := Cut.of (k := 16) R2.out (by omega)
         obtain ⟨t3, ht3⟩ : ∃ x, x = t2.extract 16 t2.size := ⟨_, rfl⟩
         obtain ⟨a3, ha3⟩ : ∃ x, x = adv a2 t2.size 16 := ⟨_, rfl⟩
         rw [<- ht3, <- ha3] at hslt3 hsat3 Ct3
         have zt3 := Ct3.size
         have Dt3 := hid Ct3
         clear Ct3 ht3 ha3
         have v3 : Hid (Lib.validD t3.data.toList = ANS) := (Dt3.out.valid (k2.out hz2)).trans v2.out
         go_quiet (first | (go_at_call 58; with_reducible exact Calls.quiet_of (cA2 _)) | (go_at_call 58; with_reducible exact Calls.quiet_of (cA3 _)))
         have HB2 : Hid (Below wq.heap.size wq (wq.drewN nq)) := Bd _ _
         generalize wq.drewN nq = wq2 at HB2 ⊢
         clear cA2 cA3 k2 v2 m2 o2
         go_wp2_with fail
         go_loopg [0] (t3.size + 1) (fun g2 s0 wx => Hid (Below wr.heap.size wr wx) /\ ∃ (u : ByteArray) (au : Option Addr), s0 = .slice au u.size u.size /\ Hid (BT wx au u) /\ Hid (Lib.validD u.data.toList = ANS) /\ u.size < g2 /\ u.size <= t3.size)
         case atStart => exact ⟨HB1.out.trans (HB2.out.mono HB1.out.size), t3, a3, rfl, Dt3.out.row _ HB2.out, v3.out, by omega, Nat.le_refl _⟩
         case round =>
          clear hslt1 hsat1 hslt2 hsat2 hslt2b hsat2b hslt3 hsat3
          obtain ⟨hBu, u, au, rfl, hRu, vu, hgu, hut⟩ := hrel
          by_cases c32 : 32 < u.size
          ·obtain ⟨g3, rfl⟩ : ∃ g3, gk = g3 + 1 := ⟨gk - 1, by omega⟩
           as_aux_lemma =>
            have c32z : (32 : Int) < (u.size : Int) := by omega
            have c32b : decide ((32 : Int) < (u.size : Int)) = true := decide_eq_true c32z
            have hslub : ∀ W, (Instr.slice 22 (.slice au u.size u.size) (some (.int .i64 8)) none none).run Tryz.prog W = _ := cutB (k := 8) (by omega)
            have hsaub : ∀ W, (Instr.sliceAt 22 (.slice au u.size u.size) (some (.int .i64 8)) none none).run Tryz.prog W = _ := cutBA (k := 8) (by omega)
            have Cub := Cut.of (k := 8) hRu.out (by omega)
            obtain ⟨ub, hub⟩ : ∃ x, x = u.extract 8 u.size := ⟨_, rfl⟩
            obtain ⟨aub, haub⟩ : ∃ x, x = adv au u.size 8 := ⟨_, rfl⟩
            rw [<- hub, <- haub] at hslub hsaub Cub
            have zub := Cub.size
            have Dub := hid Cub
            clear Cub hub haub
            have hsluc : ∀ W, (Instr.slice 22 (.slice au u.size u.size) (some (.int .i64 16)) none none).run Tryz.prog W = _ := cutB (k := 16) (by omega)
            have hsauc : ∀ W, (Instr.sliceAt 22 (.slice au u.size u.size) (some (.int .i64 16)) none none).run Tryz.prog W = _ := cutBA (k := 16) (by omega)
            have Cuc := Cut.of (k := 16) hRu.out (by omega)
            obtain ⟨uc, huc⟩ : ∃ x, x = u.extract 16 u.size := ⟨_, rfl⟩
            obtain ⟨auc, hauc⟩ : ∃ x, x = adv au u.size 16 := ⟨_, rfl⟩
            rw [<- huc, <- hauc] at hsluc hsauc Cuc
            have zuc := Cuc.size
            have Duc := hid Cuc
            clear Cuc huc hauc
            have hslud : ∀ W, (Instr.slice 22 (.slice au u.size u.size) (some (.int .i64 24)) none none).run Tryz.prog W = _ := cutB (k := 24) (by omega)
            have hsaud : ∀ W, (Instr.sliceAt 22 (.slice au u.size u.size) (some (.int .i64 24)) none none).run Tryz.prog W = _ := cutBA (k := 24) (by omega)
            have Cud := Cut.of (k := 24) hRu.out (by omega)
            obtain ⟨ud, hud⟩ : ∃ x, x = u.extract 24 u.size := ⟨_, rfl⟩
            obtain ⟨aud, haud⟩ : ∃ x, x = adv au u.size 24 := ⟨_, rfl⟩
            rw [<- hud, <- haud] at hslud hsaud Cud
            have zud := Cud.size
            have Dud := hid Cud
            clear Cud hud haud
            obtain ⟨B0, wB0⟩ := Wd.of (a := au) (t := u) hRu.out (by omega)
            have HB0 := hid wB0
            have cB0 := wB0.call
            clear wB0
            obtain ⟨B1, wB1⟩ := Wd.of (a := aub) (t := ub) (Dub.out.row wr (Below.refl _ _)) (by omega)
            have HB1 := hid wB1
            have cB1 := wB1.call
            clear wB1
            obtain ⟨B2, wB2⟩ := Wd.of (a := auc) (t := uc) (Duc.out.row wr (Below.refl _ _)) (by omega)
            have HB2 := hid wB2
            have cB2 := wB2.call
            clear wB2
            obtain ⟨B3, wB3⟩ := Wd.of (a := aud) (t := ud) (Dud.out.row wr (Below.refl _ _)) (by omega)
            have HB3 := hid wB3
            have cB3 := wB3.call
            clear wB3
            obtain ⟨o5, l5⟩ := or_is B0 B1 HB0.out.lt HB1.out.lt
            obtain ⟨o6, l6⟩ := or_is B2 B3 HB2.out.lt HB3.out.lt
            obtain ⟨o7, l7⟩ := or_is (B0 ||| B1) (B2 ||| B3) l5 l6
            have m3 := mask_is _ l7
            have k3 : Hid (((B0 ||| B1) ||| (B2 ||| B3)) &&& 9259542123273814144 = 0 -> Lib.Asc u 32) := fun e => by
             obtain ⟨e01, e23⟩ := (Lib.or_mask _ _ _).1 e
             obtain ⟨e0, e1⟩ := (Lib.or_mask _ _ _).1 e01
             obtain ⟨e2, e3⟩ := (Lib.or_mask _ _ _).1 e23
             have s16 : Lib.Asc u 16 := Lib.asc_add u 8 8 (HB0.out.asc e0) (by rw [<- Dub.out.is]; exact HB1.out.asc e1)
             have s24 : Lib.Asc u 24 := Lib.asc_add u 16 8 s16 (by rw [<- Duc.out.is]; exact HB2.out.asc e2)
             exact Lib.asc_add u 24 8 s24 (by rw [<- Dud.out.is]; exact HB3.out.asc e3)
            obtain ⟨P1, hP1⟩ : ∃ P1, P1 = B0 ||| B1 := ⟨_, rfl⟩
            obtain ⟨P2, hP2⟩ : ∃ P2, P2 = B2 ||| B3 := ⟨_, rfl⟩
            rw [<- hP1, <- hP2] at o7 m3 k3
            rw [<- hP1] at o5
            rw [<- hP2] at o6
            obtain ⟨P3, hP3⟩ : ∃ P3, P3 = P1 ||| P2 := ⟨_, rfl⟩
            rw [<- hP3] at o7 m3 k3
            obtain ⟨Z3, hZ3⟩ : ∃ Z3, Z3 = P3 &&& 9259542123273814144 := ⟨_, rfl⟩
            rw [<- hZ3] at m3 k3
            clear hP1 hP2 hP3 hZ3 l5 l6 l7
            by_cases hz3 : Z3 = 0
            ·have hz3b : ((Z3 : Int) == 0) = true := by simp [hz3]
             have hslu2 : ∀ W, (Instr.slice 22 (.slice au u.size u.size) (some (.int .i64 32)) none none).run Tryz.prog W = _ := cutB (k := 32) (by omega)
             have hsau2 : ∀ W, (Instr.sliceAt 22 (.slice au u.size u.size) (some (.int .i64 32)) none none).run Tryz.prog W = _ := cutBA (k := 32) (by omega)
             have Cu2 := Cut.of (k := 32) hRu.out (by omega)
             obtain ⟨u2, hu2⟩ : ∃ x, x = u.extract 32 u.size := ⟨_, rfl⟩
             obtain ⟨au2, hau2⟩ : ∃ x, x = adv au u.size 32 := ⟨_, rfl⟩
             rw [<- hu2, <- hau2] at hslu2 hsau2 Cu2
             have zu2 := Cu2.size
             have Du2 := hid Cu2
             clear Cu2 hu2 hau2
             have vu2 : Hid (Lib.validD u2.data.toList = ANS) := (Du2.out.valid (k3.out hz3)).trans vu.out
             go_wp2_with fail
             go_quiet (first | (go_at_call 58; with_reducible exact Calls.quiet_of (cB0 _)) | (go_at_call 58; with_reducible exact Calls.quiet_of (cB1 _)) | (go_at_call 58; with_reducible exact Calls.quiet_of (cB2 _)) | (go_at_call 58; with_reducible exact Calls.quiet_of (cB3 _)))
             go_wp2_with fail
             go_roundg g3
             case measure => omega
             case rel => exact ⟨Bdn hBu.out nq, u2, au2, rfl, Du2.out.row _ (Bd _ nq), vu2.out, by omega, by omega⟩
            ·have hz3b : ((Z3 : Int) == 0) = false := by simp; omega
             go_wp2_with fail
             go_quiet (first | (go_at_call 58; with_reducible exact Calls.quiet_of (cB0 _)) | (go_at_call 58; with_reducible exact Calls.quiet_of (cB1 _)) | (go_at_call 58; with_reducible exact Calls.quiet_of (cB2 _)) | (go_at_call 58; with_reducible exact Calls.quiet_of (cB3 _)))
             go_wp2_with fail
             go_roundg g'
             case measure => omega
             case rel => exact ⟨hB.out.trans ((Bdn hBu.out nq).mono hB.out.size), u, au, rfl, hRu.out.below (Bd _ nq), vu.out, by omega, by omega⟩
          ·have c32z : ¬ ((32 : Int) < (u.size : Int)) := by omega
           have c32b : decide ((32 : Int) < (u.size : Int)) = false := decide_eq_false c32z
           go_wp2_with fail
           go_quiet (fail)
           go_wp2_with fail
           go_roundg g'
           case measure => omega
           case rel => exact ⟨hB.out.trans ((Bdn hBu.out nq).mono hB.out.size), u, au, rfl, hRu.out.below (Bd _ nq), vu.out, by omega, by omega⟩
        ·have hz2b : ((Z2 : Int) == 0) = false := by simp; omega
         go_quiet (first | (go_at_call 58; with_reducible exact Calls.quiet_of (cA2 _)) | (go_at_call 58; with_reducible exact Calls.quiet_of (cA3 _)))
         go_wp2_with fail
         go_roundg g'
         case measure => omega
         case rel => exact ⟨hB.out.trans ((Bdn HB1.out nq).mono hB.out.size), t2, a2, rfl, R2.out.below (Bd _ nq), v2.out, by omega, by omega⟩
       ·have c16z : ¬ ((16 : Int) < (t2.size : Int)) := by omega
        have c16b : decide ((16 : Int) < (t2.size : Int)) = false := decide_eq_false c16z
        go_quiet (fail)
        go_wp2_with fail
        go_roundg g'
        case measure => omega
        case rel => exact ⟨hB.out.trans ((Bdn HB1.out nq).mono hB.out.size), t2, a2, rfl, R2.out.below (Bd _ nq), v2.out, by omega, by omega⟩
     ·have hz1b : ((Z1 : Int) == 0) = false := by simp; omega
      go_wp2_with (go_at_call 58; with_reducible refine Calls.mono dA1 ?_; rintro e W1 ⟨rfl, q1, rfl⟩)
      go_roundg g'
      case measure => omega
      case rel => exact ⟨Bdn hB.out _, t1, a1, rfl, R1.out.below (Bd _ q1), v1.out, by omega, by omega⟩
    ·have c8z : ¬ ((8 : Int) < (t1.size : Int)) := by omega
     have c8b : decide ((8 : Int) < (t1.size : Int)) = false := decide_eq_false c8z
     go_wp2_with fail
     go_roundg g'
     case measure => omega
     case rel => exact ⟨hB.out, t1, a1, rfl, Dt1.out.row wr (Below.refl _ _), v1.out, by omega, by omega⟩
   ·have hge : 128 <= x0.toNat := by omega
    have hascz : ¬ ((x0.toNat : Int) < 128) := by omega
    obtain ⟨x1, hx1⟩ : ∃ x, t.get! 1 = x := ⟨_, rfl⟩
    obtain ⟨x2, hx2⟩ : ∃ x, t.get! 2 = x := ⟨_, rfl⟩
    obtain ⟨x3, hx3⟩ : ∃ x, t.get! 3 = x := ⟨_, rfl⟩
    have l1 := x1.toNat_lt; have l2 := x2.toNat_lt; have l3 := x3.toNat_lt
    have hne : t.data.toList ≠ [] := fun h => by rw [Lib.size_eq, h] at h0; simp at h0
    have hlead := Lib.validD_lead t.data.toList hne (by rw [Lib.getD_get!', hx0]; exact hge)
    rw [Lib.getD_get!', Lib.getD_get!', Lib.getD_get!', Lib.getD_get!', hx0, hx1, hx2, hx3, <- Lib.size_eq, hv.out] at hlead
    have hf0 := HTr.out.1 x0.toNat hx0lt
    have hXlt : Lib.firstT x0.toNat < 256 := by rcases Lib.firstT_cases x0.toNat with h | h | h | h | h | h | h | h | h <;> omega
    obtain ⟨X, hX⟩ : ∃ X, Lib.firstT x0.toNat = X := ⟨_, rfl⟩
    rw [hX] at hf0 hXlt hlead
    have h7 := low3 ⟨X, hXlt⟩
    simp only at h7
    have ha0 : wr.cell? ⟨2, X / 16 * 2, none⟩ = some (.int .u8 (Lib.accLo (X / 16))) := by rw [Nat.mul_comm]; exact (HTr.out.2 (X / 16) (by omega)).1
    have ha1 : wr.cell? ⟨2, X / 16 * 2 + 1, none⟩ = some (.int .u8 (Lib.accHi (X / 16))) := by rw [Nat.mul_comm]; exact (HTr.out.2 (X / 16) (by omega)).2
    obtain ⟨LO, hLO⟩ : ∃ LO, Lib.accLo (X / 16) = LO := ⟨_, rfl⟩
    obtain ⟨HI, hHI⟩ : ∃ HI, Lib.accHi (X / 16) = HI := ⟨_, rfl⟩
    rw [hLO] at ha0 hlead
    rw [hHI] at ha1 hlead
    obtain ⟨SZ, hSZ⟩ : ∃ SZ, X % 8 = SZ := ⟨_, rfl⟩
    rw [hSZ] at hlead h7
    have HLd := hid hlead
    clear hlead hX hLO hHI hne HTr hge hasc
    by_cases s2 : SZ = 2
    ·subst s2
     as_aux_lemma =>
      have hSZz : (X : Int) % 8 = 2 := by omega
      have HLd2 := HLd.out
      simp only [Lib.checkN, Nat.reduceEqDiff, if_true, if_false] at HLd2
      have HL2 := hid HLd2
      clear HLd HLd2
      by_cases q0 : t.size < 2
      ·have z0 : (t.size : Int) < 2 := by omega
       have b0 : decide ((t.size : Int) < 2) = true := decide_eq_true z0
       have e1 : Hid (ANS = false) := by
        unfold Hid; have := HL2.out; rw [if_pos (show t.size < 2 \/ x1.toNat < LO \/ HI < x1.toNat by omega)] at this; exact this
       clear HL2
       go_wp2_with fail
       go_quiet (fail)
       go_wp2_with fail
       go_ret
       exact ⟨by rw [e1.out]; rfl, Bdn (hB.out.alloc hB.out.size _) _⟩
      ·have z0 : ¬ ((t.size : Int) < 2) := by omega
       have b0 : decide ((t.size : Int) < 2) = false := decide_eq_false z0
       have hz1 : (1 : Int) < (t.size : Int) := by omega
       have hc1 : ∀ ob, (wr.alloc ob).cell? ⟨b, o + 1, none⟩ = some (.int .u8 (x1.toNat : Nat)) := fun ob => by
        have h := ((Ba wr ob).cell (p := ⟨b, o + 1, none⟩) hbs'.out).trans (HC.out 1 (by omega))
        rw [hx1] at h; exact h
       by_cases q1 : x1.toNat < LO
       ·have z1 : (x1.toNat : Int) < (LO : Int) := by omega
        have b1 : decide ((x1.toNat : Int) < (LO : Int)) = true := decide_eq_true z1
        have e1 : Hid (ANS = false) := by
         unfold Hid; have := HL2.out; rw [if_pos (show t.size < 2 \/ x1.toNat < LO \/ HI < x1.toNat by omega)] at this; exact this
        clear HL2
        go_wp2_with fail
        go_quiet (fail)
        go_wp2_with fail
        go_ret
        exact ⟨by rw [e1.out]; rfl, Bdn (hB.out.alloc hB.out.size _) _⟩
       ·have z1 : ¬ ((x1.toNat : Int) < (LO : Int)) := by omega
        have b1 : decide ((x1.toNat : Int) < (LO : Int)) = false := decide_eq_false z1
        by_cases q2 : HI < x1.toNat
        ·have z2 : (HI : Int) < (x1.toNat : Int) := by omega
         have b2 : decide ((HI : Int) < (x1.toNat : Int)) = true := decide_eq_true z2
         have e1 : Hid (ANS = false) := by
          unfold Hid; have := HL2.out; rw [if_pos (show t.size < 2 \/ x1.toNat < LO \/ HI < x1.toNat by omega)] at this; exact this
         clear HL2
         go_wp2_with fail
         go_quiet (fail)
         go_wp2_with fail
         go_ret
         exact ⟨by rw [e1.out]; rfl, Bdn (hB.out.alloc hB.out.size _) _⟩
        ·have z2 : ¬ ((HI : Int) < (x1.toNat : Int)) := by omega
         have b2 : decide ((HI : Int) < (x1.toNat : Int)) = false := decide_eq_false z2
         have hslt1 : ∀ W, (Instr.slice 22 (.slice (some ⟨b, o, none⟩) t.size t.size) (some (.int .i64 2)) none none).run Tryz.prog W = _ := cutB (k := 2) (by omega)
         have hsat1 : ∀ W, (Instr.sliceAt 22 (.slice (some ⟨b, o, none⟩) t.size t.size) (some (.int .i64 2)) none none).run Tryz.prog W = _ := cutBA (k := 2) (by omega)
         have Ct1 := Cut.of (k := 2) hR.out (by omega)
         obtain ⟨t1, ht1⟩ : ∃ x, x = t.extract 2 t.size := ⟨_, rfl⟩
         obtain ⟨a1, ha1⟩ : ∃ x, x = adv (some ⟨b, o, none⟩) t.size 2 := ⟨_, rfl⟩
         rw [<- ht1, <- ha1] at hslt1 hsat1 Ct1
         have zt1 := Ct1.size
         have Dt1 := hid Ct1
         clear Ct1 ht1 ha1
         have v1 : Hid (Lib.validD t1.data.toList = ANS) := by
          unfold Hid; have := HL2.out; rw [if_neg (show ¬ (t.size < 2 \/ x1.toNat < LO \/ HI < x1.toNat) by omega)] at this; rw [Dt1.out.list]; exact this.symm
         clear HL2 HC
         go_wp2_with fail
         go_quiet (fail)
         go_wp2_with fail
         go_roundg g'
         case measure => omega
         case rel => exact ⟨Bdn (hB.out.alloc hB.out.size _) _, t1, a1, rfl, Dt1.out.row _ (Bdn (Ba wr _) _), v1.out, by omega, by omega⟩
    by_cases s3 : SZ = 3
    ·subst s3
     as_aux_lemma =>
      have hSZz : (X : Int) % 8 = 3 := by omega
      have HLd2 := HLd.out
      simp only [Lib.checkN, Nat.reduceEqDiff, if_true, if_false] at HLd2
      have HL2 := hid HLd2
      clear HLd HLd2
      by_cases q0 : t.size < 3
      ·have z0 : (t.size : Int) < 3 := by omega
       have b0 : decide ((t.size : Int) < 3) = true := decide_eq_true z0
       have e1 : Hid (ANS = false) := by
        unfold Hid; have := HL2.out; rw [if_pos (show t.size < 3 \/ x1.toNat < LO \/ HI < x1.toNat \/ x2.toNat < 128 \/ 191 < x2.toNat by omega)] at this; exact this
       clear HL2
       go_wp2_with fail
       go_quiet (fail)
       go_wp2_with fail
       go_ret
       exact ⟨by rw [e1.out]; rfl, Bdn (hB.out.alloc hB.out.size _) _⟩
      ·have z0 : ¬ ((t.size : Int) < 3) := by omega
       have b0 : decide ((t.size : Int) < 3) = false := decide_eq_false z0
       have hz1 : (1 : Int) < (t.size : Int) := by omega
       have hc1 : ∀ ob, (wr.alloc ob).cell? ⟨b, o + 1, none⟩ = some (.int .u8 (x1.toNat : Nat)) := fun ob => by
        have h := ((Ba wr ob).cell (p := ⟨b, o + 1, none⟩) hbs'.out).trans (HC.out 1 (by omega))
        rw [hx1] at h; exact h
       have hz2 : (2 : Int) < (t.size : Int) := by omega
       have hc2 : ∀ ob, (wr.alloc ob).cell? ⟨b, o + 2, none⟩ = some (.int .u8 (x2.toNat : Nat)) := fun ob => by
        have h := ((Ba wr ob).cell (p := ⟨b, o + 2, none⟩) hbs'.out).trans (HC.out 2 (by omega))
        rw [hx2] at h; exact h
       by_cases q1 : x1.toNat < LO
       ·have z1 : (x1.toNat : Int) < (LO : Int) := by omega
        have b1 : decide ((x1.toNat : Int) < (LO : Int)) = true := decide_eq_true z1
        have e1 : Hid (ANS = false) := by
         unfold Hid; have := HL2.out; rw [if_pos (show t.size < 3 \/ x1.toNat < LO \/ HI < x1.toNat \/ x2.toNat < 128 \/ 191 < x2.toNat by omega)] at this; exact this
        clear HL2
        go_wp2_with fail
        go_quiet (fail)
        go_wp2_with fail
        go_ret
        exact ⟨by rw [e1.out]; rfl, Bdn (hB.out.alloc hB.out.size _) _⟩
       ·have z1 : ¬ ((x1.toNat : Int) < (LO : Int)) := by omega
        have b1 : decide ((x1.toNat : Int) < (LO : Int)) = false := decide_eq_false z1
        by_cases q2 : HI < x1.toNat
        ·have z2 : (HI : Int) < (x1.toNat : Int) := by omega
         have b2 : decide ((HI : Int) < (x1.toNat : Int)) = true := decide_eq_true z2
         have e1 : Hid (ANS = false) := by
          unfold Hid; have := HL2.out; rw [if_pos (show t.size < 3 \/ x1.toNat < LO \/ HI < x1.toNat \/ x2.toNat < 128 \/ 191 < x2.toNat by omega)] at this; exact this
         clear HL2
         go_wp2_with fail
         go_quiet (fail)
         go_wp2_with fail
         go_ret
         exact ⟨by rw [e1.out]; rfl, Bdn (hB.out.alloc hB.out.size _) _⟩
        ·have z2 : ¬ ((HI : Int) < (x1.toNat : Int)) := by omega
         have b2 : decide ((HI : Int) < (x1.toNat : Int)) = false := decide_eq_false z2
         by_cases q3 : x2.toNat < 128
         ·have z3 : (x2.toNat : Int) < 128 := by omega
          have b3 : decide ((x2.toNat : Int) < 128) = true := decide_eq_true z3
          have e1 : Hid (ANS = false) := by
           unfold Hid; have := HL2.out; rw [if_pos (show t.size < 3 \/ x1.toNat < LO \/ HI < x1.toNat \/ x2.toNat < 128 \/ 191 < x2.toNat by omega)] at this; exact this
          clear HL2
          go_wp2_with fail
          go_quiet (fail)
          go_wp2_with fail
          go_ret
          exact ⟨by rw [e1.out]; rfl, Bdn (hB.out.alloc hB.out.size _) _⟩
         ·have z3 : ¬ ((x2.toNat : Int) < 128) := by omega
          have b3 : decide ((x2.toNat : Int) < 128) = false := decide_eq_false z3
          by_cases q4 : 191 < x2.toNat
          ·have z4 : (191 : Int) < (x2.toNat : Int) := by omega
           have b4 : decide ((191 : Int) < (x2.toNat : Int)) = true := decide_eq_true z4
           have e1 : Hid (ANS = false) := by
            unfold Hid; have := HL2.out; rw [if_pos (show t.size < 3 \/ x1.toNat < LO \/ HI < x1.toNat \/ x2.toNat < 128 \/ 191 < x2.toNat by omega)] at this; exact this
           clear HL2
           go_wp2_with fail
           go_quiet (fail)
           go_wp2_with fail
           go_ret
           exact ⟨by rw [e1.out]; rfl, Bdn (hB.out.alloc hB.out.size _) _⟩
          ·have z4 : ¬ ((191 : Int) < (x2.toNat : Int)) := by omega
           have b4 : decide ((191 : Int) < (x2.toNat : Int)) = false := decide_eq_false z4
           have hslt1 : ∀ W, (Instr.slice 22 (.slice (some ⟨b, o, none⟩) t.size t.size) (some (.int .i64 3)) none none).run Tryz.prog W = _ := cutB (k := 3) (by omega)
           have hsat1 : ∀ W, (Instr.sliceAt 22 (.slice (some ⟨b, o, none⟩) t.size t.size) (some (.int .i64 3)) none none).run Tryz.prog W = _ := cutBA (k := 3) (by omega)
           have Ct1 := Cut.of (k := 3) hR.out (by omega)
           obtain ⟨t1, ht1⟩ : ∃ x, x = t.extract 3 t.size := ⟨_, rfl⟩
           obtain ⟨a1, ha1⟩ : ∃ x, x = adv (some ⟨b, o, none⟩) t.size 3 := ⟨_, rfl⟩
           rw [<- ht1, <- ha1] at hslt1 hsat1 Ct1
           have zt1 := Ct1.size
           have Dt1 := hid Ct1
           clear Ct1 ht1 ha1
           have v1 : Hid (Lib.validD t1.data.toList = ANS) := by
            unfold Hid; have := HL2.out; rw [if_neg (show ¬ (t.size < 3 \/ x1.toNat < LO \/ HI < x1.toNat \/ x2.toNat < 128 \/ 191 < x2.toNat) by omega)] at this; rw [Dt1.out.list]; exact this.symm
           clear HL2 HC
           go_wp2_with fail
           go_quiet (fail)
           go_wp2_with fail
           go_roundg g'
           case measure => omega
           case rel => exact ⟨Bdn (hB.out.alloc hB.out.size _) _, t1, a1, rfl, Dt1.out.row _ (Bdn (Ba wr _) _), v1.out, by omega, by omega⟩
    by_cases s4 : SZ = 4
    ·subst s4
     as_aux_lemma =>
      have hSZz : (X : Int) % 8 = 4 := by omega
      have HLd2 := HLd.out
      simp only [Lib.checkN, Nat.reduceEqDiff, if_true, if_false] at HLd2
      have HL2 := hid HLd2
      clear HLd HLd2
      by_cases q0 : t.size < 4
      ·have z0 : (t.size : Int) < 4 := by omega
       have b0 : decide ((t.size : Int) < 4) = true := decide_eq_true z0
       have e1 : Hid (ANS = false) := by
        unfold Hid; have := HL2.out; rw [if_pos (show t.size < 4 \/ x1.toNat < LO \/ HI < x1.toNat \/ x2.toNat < 128 \/ 191 < x2.toNat \/ x3.toNat < 128 \/ 191 < x3.toNat by omega)] at this; exact this
       clear HL2
       go_wp2_with fail
       go_quiet (fail)
       go_wp2_with fail
       go_ret
       exact ⟨by rw [e1.out]; rfl, Bdn (hB.out.alloc hB.out.size _) _⟩
      ·have z0 : ¬ ((t.size : Int) < 4) := by omega
       have b0 : decide ((t.size : Int) < 4) = false := decide_eq_false z0
       have hz1 : (1 : Int) < (t.size : Int) := by omega
       have hc1 : ∀ ob, (wr.alloc ob).cell? ⟨b, o + 1, none⟩ = some (.int .u8 (x1.toNat : Nat)) := fun ob => by
        have h := ((Ba wr ob).cell (p := ⟨b, o + 1, none⟩) hbs'.out).trans (HC.out 1 (by omega))
        rw [hx1] at h; exact h
       have hz2 : (2 : Int) < (t.size : Int) := by omega
       have hc2 : ∀ ob, (wr.alloc ob).cell? ⟨b, o + 2, none⟩ = some (.int .u8 (x2.toNat : Nat)) := fun ob => by
        have h := ((Ba wr ob).cell (p := ⟨b, o + 2, none⟩) hbs'.out).trans (HC.out 2 (by omega))
        rw [hx2] at h; exact h
       have hz3 : (3 : Int) < (t.size : Int) := by omega
       have hc3 : ∀ ob, (wr.alloc ob).cell? ⟨b, o + 3, none⟩ = some (.int .u8 (x3.toNat : Nat)) := fun ob => by
        have h := ((Ba wr ob).cell (p := ⟨b, o + 3, none⟩) hbs'.out).trans (HC.out 3 (by omega))
        rw [hx3] at h; exact h
       by_cases q1 : x1.toNat < LO
       ·have z1 : (x1.toNat : Int) < (LO : Int) := by omega
        have b1 : decide ((x1.toNat : Int) < (LO : Int)) = true := decide_eq_true z1
        have e1 : Hid (ANS = false) := by
         unfold Hid; have := HL2.out; rw [if_pos (show t.size < 4 \/ x1.toNat < LO \/ HI < x1.toNat \/ x2.toNat < 128 \/ 191 < x2.toNat \/ x3.toNat < 128 \/ 191 < x3.toNat by omega)] at this; exact this
        clear HL2
        go_wp2_with fail
        go_quiet (fail)
        go_wp2_with fail
        go_ret
        exact ⟨by rw [e1.out]; rfl, Bdn (hB.out.alloc hB.out.size _) _⟩
       ·have z1 : ¬ ((x1.toNat : Int) < (LO : Int)) := by omega
        have b1 : decide ((x1.toNat : Int) < (LO : Int)) = false := decide_eq_false z1
        by_cases q2 : HI < x1.toNat
        ·have z2 : (HI : Int) < (x1.toNat : Int) := by omega
         have b2 : decide ((HI : Int) < (x1.toNat : Int)) = true := decide_eq_true z2
         have e1 : Hid (ANS = false) := by
          unfold Hid; have := HL2.out; rw [if_pos (show t.size < 4 \/ x1.toNat < LO \/ HI < x1.toNat \/ x2.toNat < 128 \/ 191 < x2.toNat \/ x3.toNat < 128 \/ 191 < x3.toNat by omega)] at this; exact this
         clear HL2
         go_wp2_with fail
         go_quiet (fail)
         go_wp2_with fail
         go_ret
         exact ⟨by rw [e1.out]; rfl, Bdn (hB.out.alloc hB.out.size _) _⟩
        ·have z2 : ¬ ((HI : Int) < (x1.toNat : Int)) := by omega
         have b2 : decide ((HI : Int) < (x1.toNat : Int)) = false := decide_eq_false z2
         by_cases q3 : x2.toNat < 128
         ·have z3 : (x2.toNat : Int) < 128 := by omega
          have b3 : decide ((x2.toNat : Int) < 128) = true := decide_eq_true z3
          have e1 : Hid (ANS = false) := by
           unfold Hid; have := HL2.out; rw [if_pos (show t.size < 4 \/ x1.toNat < LO \/ HI < x1.toNat \/ x2.toNat < 128 \/ 191 < x2.toNat \/ x3.toNat < 128 \/ 191 < x3.toNat by omega)] at this; exact this
          clear HL2
          go_wp2_with fail
          go_quiet (fail)
          go_wp2_with fail
          go_ret
          exact ⟨by rw [e1.out]; rfl, Bdn (hB.out.alloc hB.out.size _) _⟩
         ·have z3 : ¬ ((x2.toNat : Int) < 128) := by omega
          have b3 : decide ((x2.toNat : Int) < 128) = false := decide_eq_false z3
          by_cases q4 : 191 < x2.toNat
          ·have z4 : (191 : Int) < (x2.toNat : Int) := by omega
           have b4 : decide ((191 : Int) < (x2.toNat : Int)) = true := decide_eq_true z4
           have e1 : Hid (ANS = false) := by
            unfold Hid; have := HL2.out; rw [if_pos (show t.size < 4 \/ x1.toNat < LO \/ HI < x1.toNat \/ x2.toNat < 128 \/ 191 < x2.toNat \/ x3.toNat < 128 \/ 191 < x3.toNat by omega)] at this; exact this
           clear HL2
           go_wp2_with fail
           go_quiet (fail)
           go_wp2_with fail
           go_ret
           exact ⟨by rw [e1.out]; rfl, Bdn (hB.out.alloc hB.out.size _) _⟩
          ·have z4 : ¬ ((191 : Int) < (x2.toNat : Int)) := by omega
           have b4 : decide ((191 : Int) < (x2.toNat : Int)) = false := decide_eq_false z4
           by_cases q5 : x3.toNat < 128
           ·have z5 : (x3.toNat : Int) < 128 := by omega
            have b5 : decide ((x3.toNat : Int) < 128) = true := decide_eq_true z5
            have e1 : Hid (ANS = false) := by
             unfold Hid; have := HL2.out; rw [if_pos (show t.size < 4 \/ x1.toNat < LO \/ HI < x1.toNat \/ x2.toNat < 128 \/ 191 < x2.toNat \/ x3.toNat < 128 \/ 191 < x3.toNat by omega)] at this; exact this
            clear HL2
            go_wp2_with fail
            go_quiet (fail)
            go_wp2_with fail
            go_ret
            exact ⟨by rw [e1.out]; rfl, Bdn (hB.out.alloc hB.out.size _) _⟩
           ·have z5 : ¬ ((x3.toNat : Int) < 128) := by omega
            have b5 : decide ((x3.toNat : Int) < 128) = false := decide_eq_false z5
            by_cases q6 : 191 < x3.toNat
            ·have z6 : (191 : Int) < (x3.toNat : Int) := by omega
             have b6 : decide ((191 : Int) < (x3.toNat : Int)) = true := decide_eq_true z6
             have e1 : Hid (ANS = false) := by
              unfold Hid; have := HL2.out; rw [if_pos (show t.size < 4 \/ x1.toNat < LO \/ HI < x1.toNat \/ x2.toNat < 128 \/ 191 < x2.toNat \/ x3.toNat < 128 \/ 191 < x3.toNat by omega)] at this; exact this
             clear HL2
             go_wp2_with fail
             go_quiet (fail)
             go_wp2_with fail
             go_ret
             exact ⟨by rw [e1.out]; rfl, Bdn (hB.out.alloc hB.out.size _) _⟩
            ·have z6 : ¬ ((191 : Int) < (x3.toNat : Int)) := by omega
             have b6 : decide ((191 : Int) < (x3.toNat : Int)) = false := decide_eq_false z6
             have hslt1 : ∀ W, (Instr.slice 22 (.slice (some ⟨b, o, none⟩) t.size t.size) (some (.int .i64 4)) none none).run Tryz.prog W = _ := cutB (k := 4) (by omega)
             have hsat1 : ∀ W, (Instr.sliceAt 22 (.slice (some ⟨b, o, none⟩) t.size t.size) (some (.int .i64 4)) none none).run Tryz.prog W = _ := cutBA (k := 4) (by omega)
             have Ct1 := Cut.of (k := 4) hR.out (by omega)
             obtain ⟨t1, ht1⟩ : ∃ x, x = t.extract 4 t.size := ⟨_, rfl⟩
             obtain ⟨a1, ha1⟩ : ∃ x, x = adv (some ⟨b, o, none⟩) t.size 4 := ⟨_, rfl⟩
             rw [<- ht1, <- ha1] at hslt1 hsat1 Ct1
             have zt1 := Ct1.size
             have Dt1 := hid Ct1
             clear Ct1 ht1 ha1
             have v1 : Hid (Lib.validD t1.data.toList = ANS) := by
              unfold Hid; have := HL2.out; rw [if_neg (show ¬ (t.size < 4 \/ x1.toNat < LO \/ HI < x1.toNat \/ x2.toNat < 128 \/ 191 < x2.toNat \/ x3.toNat < 128 \/ 191 < x3.toNat) by omega)] at this; rw [Dt1.out.list]; exact this.symm
             clear HL2 HC
             go_wp2_with fail
             go_quiet (fail)
             go_wp2_with fail
             go_roundg g'
             case measure => omega
             case rel => exact ⟨Bdn (hB.out.alloc hB.out.size _) _, t1, a1, rfl, Dt1.out.row _ (Bdn (Ba wr _) _), v1.out, by omega, by omega⟩
    have e1 : Hid (ANS = false) := by
     have := HLd.out
     unfold Hid; unfold Lib.checkN at this; rw [if_neg s2, if_neg s3, if_neg s4] at this; exact this
    have d2 : ((SZ : Int) == 2) = false := by simp; omega
    have d3 : ((SZ : Int) == 3) = false := by simp; omega
    have d4 : ((SZ : Int) == 4) = false := by simp; omega
    have hSZz : (X : Int) % 8 = SZ := by omega
    clear HLd HC
    go_wp2_with fail
    go_ret
    exact ⟨by rw [e1.out]; rfl, hB.out.alloc hB.out.size _⟩
  ·have h0z : ¬ ((0 : Int) < (t.size : Int)) := by omega
   have e1 : Hid (ANS = true) := by
    unfold Hid; rw [<- hv.out]
    have : t.data.toList = [] := List.eq_nil_of_length_eq_zero (by rw [<- Lib.size_eq]; omega)
    rw [this]; rfl
   go_wp2_with fail
   go_ret
   exact ⟨by rw [e1.out]; rfl, hB.out⟩
end Go.Proofs.YtbkfinjajkjhaaaGreatDoor
