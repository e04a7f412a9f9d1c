import Derived.Test.YtadfihnffboelaaGreatDoorSR
import Derived.Test.YtadfihnffboelaaGreatDoorSG10
import Derived.Test.YtadfihnffboelaaGreatDoorC2
set_option linter.unusedVariables false
set_option linter.unusedSimpArgs false
set_option maxRecDepth 100000
namespace Go.Proofs.YtadfihnffboelaaGreatDoor
open Go.RowKit
structure Pf (W0 : World) (v vn : Value) (N : Int) (k : Nat) (os : List Ob) (nm : List ByteArray) (F : Nat -> Prop) (w : World) : Prop where
 pn : PN W0.heap.size v vn N os nm F w
 nms : NmOk k nm
 bel : Below W0.heap.size W0 w
theorem Pf.on {W0 w w' : World} {v vn : Value} {N : Int} {k : Nat} {os : List Ob} {nm : List ByteArray} {F : Nat -> Prop} (h : Pf W0 v vn N k os nm F w) (hb : Below w.heap.size w w') : Pf W0 v vn N k os nm F w' := ⟨h.pn.on hb, h.nms, Bt h.bel hb⟩
set_option maxHeartbeats 32000000 in
theorem storeMoves_walk (al : Option Addr) (nl cl : Nat) (gs : List Gr) (an ar : Option Addr) (nn cn nr cr : Nat) (ns : List Nd) (rs : List Int) (w : World) (R : GRow w al nl cl gs) (G : GIs w an nn cn ar nr cr ns rs) (hT : TabsS w) :
  Calls Tryz.prog 8 #[.slice al nl cl, GVal an nn cn ar nr cr] w fun e w' => e = .returned (.bool true) /\ Below w.heap.size w w' := by
 have HR := hid R
 have HG := hid G
 have HT := hid hT
 have hf := R.fits
 have hm := R.most
 unfold maxLen at hm
 have HRL := hid R.len
 have CA : Hid (∀ wx, Below w.heap.size w wx -> _) := fun wx hb => sawake_any wx (TabsS.below hT hb)
 clear R hT
 have hbx : GBox 41 (w.alloc (.cells #[.slice an nn cn, .slice ar nr cr] 41)) w.heap.size an nn cn ar nr cr := GBox.new _ _ _ _ _ _ _ _
 have b0 := Ba w (.cells #[.slice an nn cn, .slice ar nr cr] 41)
 have HBX := hid hbx
 have HB0 := hid b0
 obtain ⟨c0, c1⟩ := hbx.c
 unfold GVal
 by_cases h1 : 10 < nl
 ·go_enter Tryz.func8, Tryz.ntmps8
  go_wp2_with fail
  go_ret
  exact ⟨rfl, HB0.out⟩
 have hd10 : decide ((10 : Int) < (nl : Int)) = false := decide_eq_false (by omega)
 have CF := hid (few_any an ar nn cn nr cr ns rs 100 (by omega) _ (G.below b0))
 obtain ⟨fb, hfb⟩ : ∃ b, b = fewB ns rs 100 := ⟨_, rfl⟩
 rw [<- hfb] at CF
 have e100 : ((100 : Nat) : Int) = 100 := rfl
 rw [e100] at CF
 unfold GVal at CF
 cases fb
 ·go_enter Tryz.func8, Tryz.ntmps8
  go_wp2_with (go_at_call 13; (with_reducible refine CF.out.mono ?_); rintro e W1 ⟨rfl, b1⟩; have HB1 := hid (Bt HB0.out b1); clear b1)
  go_ret
  exact ⟨rfl, HB1.out⟩
 have HFW := hid hfb.symm
 obtain ⟨f1, f2, f3, f4⟩ := few_parts hfb.symm
 rw [G.nodes.len] at f1
 rw [G.roots.len] at f2
 have HSM := hid f3
 have HKD := hid f4
 clear f3 f4 hfb hbx b0
 go_enter Tryz.func8, Tryz.ntmps8
 have CN : Hid (∀ wx, Calls Tryz.prog 10 #[.int .i64 20000] wx fun e w' => ∃ v F, e = .returned (.tuple #[v, .int .i64 0]) /\ PH wx.heap.size v 20000 [] F w' /\ Below wx.heap.size wx w') := fun wx => by
  refine (pnew_is 20000 (by unfold Z64; omega) wx).mono (fun e w' h => ?_)
  unfold NewP at h
  rw [if_neg (by omega)] at h
  exact h
 go_wp2_with (first
  | (go_at_call 13; (with_reducible refine CF.out.mono ?_); rintro e W1 ⟨rfl, b1⟩; have HBX1 := hid (HBX.out.on b1); have HB1 := hid (Bt HB0.out b1); clear b1)
  | (go_at_call 10; (with_reducible refine (CN.out W1).mono ?_); rintro e W2 ⟨v, F1, rfl, hp2, b2⟩; have HP2 := hid hp2; have HB2 := hid b2; clear hp2 b2)
  | (go_at_call 12; (with_reducible refine (pnames_any W2).mono ?_); rintro e W3 ⟨vn, F2, rfl, hp3, b3⟩; have HP3 := hid hp3; have HB3 := hid b3; clear hp3 b3))
 have HPN := hid (pn_new HP2.out HB2.out HP3.out HB3.out)
 have HBW : Hid (Below W1.heap.size W1 W3) := HB2.out.trans (HB3.out.mono HB2.out.size)
 obtain ⟨gh, gp, rfl, rfl⟩ := HPN.out.ptrs
 have HS : Hid (∃ os nm F, Pf W1 (.pointer (some ⟨gh, 0, none⟩)) (.pointer (some ⟨gp, 0, none⟩)) 20000 (100 * 0) os nm F W3) := ⟨[], [], _, HPN.out, ⟨Nat.le_refl _, fun s hs => (by cases hs)⟩, HBW.out⟩
 have HGB := hid (fun wx (hb : Below W1.heap.size W1 wx) => (HBX1.out.on hb).c)
 have HT1 : Hid (∀ wx, Below W1.heap.size W1 wx -> TabsS wx) := fun wx hb => TabsS.below (TabsS.below HT.out HB1.out) hb
 have HG1 : Hid (∀ wx, Below W1.heap.size W1 wx -> GOk wx an nn cn ar nr cr ns rs) := fun wx hb => gok_of ((HG.out.below HB1.out).below hb) HFW.out
 clear CN CF HP2 HP3 HB2 HB3 HPN HBW c0 c1
 go_loopw [8] (fun i wr => ∃ q : Nat, q <= nl /\ i = .int .i64 q /\ Hid (∃ os nm F, Pf W1 (.pointer (some ⟨gh, 0, none⟩)) (.pointer (some ⟨gp, 0, none⟩)) 20000 (100 * q) os nm F wr)) (fun i _ => nl - (intOf i).toNat)
 case atStart => exact ⟨0, Nat.zero_le _, rfl, HS.out⟩
 case round =>
  clear HS
  obtain ⟨q, hq, rfl, hI⟩ := hrel
  obtain ⟨os, nm, F, hPf⟩ := hI.out
  have HPf := hid hPf
  have hnl := hPf.nms.len
  clear hI
  by_cases hlt : q < nl
  ·obtain ⟨bb, oo, rfl, hlb, hcc⟩ := HR.out.some (by omega)
   have hg := (hcc q hlt).on hlb (Bt HB1.out hPf.bel)
   obtain ⟨an1, nn1, cn1, ar1, nr1, cr1, e0, e1, g1⟩ := hg
   have HG2 := hid g1
   obtain ⟨gn, hgn⟩ : ∃ x, x = gs.getD q ([], []) := ⟨_, rfl⟩
   rw [<- hgn] at g1 HG2
   clear hgn hcc hPf
   have CF1 := hid (few_any an1 ar1 nn1 cn1 nr1 cr1 gn.1 gn.2 100 (by omega) wr g1)
   obtain ⟨fb1, hfb1⟩ : ∃ b, b = fewB gn.1 gn.2 100 := ⟨_, rfl⟩
   rw [<- hfb1, e100] at CF1
   unfold GVal at CF1
   cases fb1
   ·clear hfb1 g1
    go_wp2_with (go_at_call 13; (with_reducible refine CF1.out.mono ?_); rintro e W4 ⟨rfl, b4⟩; have HB4 := hid (Bt HB1.out (Bt HPf.out.bel b4)); clear b4)
    go_ret
    exact ⟨rfl, HB4.out⟩
   ·obtain ⟨t1, t2, t3, t4⟩ := few_parts hfb1.symm
    have hgl := g1.nodes.len
    have hgr := g1.roots.len
    have CP : Hid (∀ wx, Below wr.heap.size wr wx -> _) := fun wx hb => sput_any an1 ar1 nn1 cn1 nr1 cr1 gn.1 gn.2 wx (HPf.out.on hb).pn (gok_of (g1.below hb) hfb1.symm) (by omega) (by omega) (HPf.out.on hb).bel.size (by omega) (HT1.out wx (HPf.out.on hb).bel)
    have HNM := hid (HPf.out.nms.put (N := 20000) (os := os) (ns := gn.1) (rs := gn.2) t3 t4 t1 (by omega) (by omega))
    obtain ⟨r, hr⟩ : ∃ r, r = putR 20000 os nm gn.1 gn.2 := ⟨_, rfl⟩
    rw [<- hr] at CP HNM
    unfold GVal at CP
    have e2 := e0
    have e3 := e1
    clear hr t1 t2 t3 t4 hgl hgr hfb1 g1
    have HEE : Hid (∀ wx, Below wr.heap.size wr wx -> wx.cell? ⟨bb, oo + q * 2, none⟩ = some (.slice an1 nn1 cn1) /\ wx.cell? ⟨bb, oo + q * 2 + 1, none⟩ = some (.slice ar1 nr1 cr1)) := fun wx hb => ⟨(hb.cell (p := ⟨bb, oo + q * 2, none⟩) (cell_lt e2)).trans e2, (hb.cell (p := ⟨bb, oo + q * 2 + 1, none⟩) (cell_lt e3)).trans e3⟩
    clear e2 e3
    go_wp2_with (first
     | (go_at_call 13; (with_reducible refine CF1.out.mono ?_); rintro e W4 ⟨rfl, b4⟩; have HB4 := hid b4; obtain ⟨y0, y1⟩ := HEE.out W4 b4; clear b4)
     | (go_at_call 14; (with_reducible refine (CP.out W4 HB4.out).mono ?_); rintro e W5 ⟨ao, cap, rfl, hu5, F5, p5, q5, m5, _⟩; have HP5 := hid p5; have HM5 := hid m5; clear hu5 p5 q5 m5))
    have HN5 : Hid (∃ os nm F, Pf W1 (.pointer (some ⟨gh, 0, none⟩)) (.pointer (some ⟨gp, 0, none⟩)) 20000 (100 * (q + 1)) os nm F W5) := ⟨_, _, F5, HP5.out, (by rw [Nat.mul_succ]; exact HNM.out), (HPf.out.on HB4.out).bel.trans (HM5.out.below (fun b e => ((HPf.out.on HB4.out).pn.ge b e).1) (HPf.out.on HB4.out).bel.size)⟩
    exact ⟨⟨q + 1, by omega, by go_num, HN5.out⟩, by simp [intOf] <;> omega⟩
  ·obtain rfl : q = nl := by omega
   have CP := hid (sput_any an ar nn cn nr cr ns rs wr hPf.pn (HG1.out wr hPf.bel) f1 f2 hPf.bel.size (by omega) (HT1.out wr hPf.bel))
   have hbd := hPf.pn.bd
   have HDN : Hid ((putR 20000 os nm ns rs).2.1 = 0 -> PutDone 20000 os nm ns rs) := fun e => put_done e HSM.out HKD.out (by have := HG.out.nodes.len; omega) (by omega) (by have := hPf.nms.len; omega)
   have HNM := hid (HPf.out.nms.put (N := 20000) (os := os) (ns := ns) (rs := rs) HSM.out HKD.out (by have := HG.out.nodes.len; omega) (by omega) (by omega))
   obtain ⟨z0, z1⟩ := HGB.out wr hPf.bel
   obtain ⟨r, hr⟩ : ∃ r, r = putR 20000 os nm ns rs := ⟨_, rfl⟩
   rw [<- hr] at CP HDN HNM
   have HRE := hid hr
   unfold GVal at CP
   clear hr hPf hbd
   obtain ⟨er, her⟩ : ∃ x, x = r.2.1 := ⟨_, rfl⟩
   obtain ⟨nw, hnw⟩ : ∃ x, x = r.1.length := ⟨_, rfl⟩
   rw [<- her, <- hnw] at CP
   rw [<- her] at HDN
   have HNW := hid hnw
   clear her hnw
   by_cases hz : er = 0
   ·subst hz
    have HD := hid (HDN.out rfl)
    have hx1 : r.1 = pR nm os (canonN ns rs).1 (canonN ns rs).2 := by rw [HRE.out]; exact HD.out.words
    have hx2 : r.2.2.1 = pO nm os (canonN ns rs).1 := by rw [HRE.out]; exact HD.out.objs
    have hx3 : r.2.2.2 = (putS nm (usedL os) (canonN ns rs).1).nm := by rw [HRE.out]; exact HD.out.names
    have hnw : nw <= 100 := by rw [HNW.out, hx1, List.length_map, HD.out.len.2, HG.out.roots.len]; exact f2
    have hgn := HG.out.nodes.len
    have hgr := HG.out.roots.len
    have CC : Hid (∀ (ao : Option Addr) (cap : Nat) (F5 : Nat -> Prop) (W5 : World), PN W1.heap.size (.pointer (some ⟨gh, 0, none⟩)) (.pointer (some ⟨gp, 0, none⟩)) 20000 r.2.2.1 r.2.2.2 F5 W5 -> URow W5 ao nw cap r.1 -> (∀ a, ao = some a -> ¬ F5 a.block) -> W1.heap.size <= W5.heap.size -> Calls Tryz.prog 33 #[.pointer (some ⟨gh, 0, none⟩), .slice ao nw cap] W5 fun e w' => ∃ ao' cap', e = .returned (.slice ao' nw cap') /\ URow w' ao' nw cap' (collR r.2.2.1 (lvL r.2.2.1 r.1) r.1) /\ PNPost W1.heap.size (.pointer (some ⟨gh, 0, none⟩)) (.pointer (some ⟨gp, 0, none⟩)) 20000 F5 W5 (collO r.2.2.1 (lvL r.2.2.1 r.1)) r.2.2.2 w') := fun ao cap F5 W5 h5 hu5 ha5 hB5 => pn_collect h5 ao nw cap r.1 hu5 hB5 ha5 (by omega)
    obtain ⟨os6, hos6⟩ : ∃ x, x = collO r.2.2.1 (lvL r.2.2.1 r.1) := ⟨_, rfl⟩
    obtain ⟨rt6, hrt6⟩ : ∃ x, x = collR r.2.2.1 (lvL r.2.2.1 r.1) r.1 := ⟨_, rfl⟩
    rw [<- hos6, <- hrt6] at CC
    rw [hx1, hx2] at hos6 hrt6
    have hU : ((usedL os6 : Nat) : Int) = needM ns rs := by rw [hos6, HD.out.need]; exact used_moved HD.out.ok HD.out.goodC HD.out.ord
    have CS : Hid (∀ (F6 : Nat -> Prop) (wx : World) (ao' : Option Addr) (cap' : Nat), PN W1.heap.size (.pointer (some ⟨gh, 0, none⟩)) (.pointer (some ⟨gp, 0, none⟩)) 20000 os6 r.2.2.2 F6 wx -> URow wx ao' nw cap' rt6 -> TabsS wx -> Calls Tryz.prog 23 #[.pointer (some ⟨gh, 0, none⟩), .pointer (some ⟨gp, 0, none⟩), .slice ao' nw cap'] wx fun e w' => ∃ a1 n1 c1 a2 n2 c2, e = .returned (.agg #[.slice a1 n1 c1, .slice a2 n2 c2]) /\ GOk w' a1 n1 c1 a2 n2 c2 (canonN ns rs).1 (canonN ns rs).2 /\ n1 <= 100 /\ n2 <= 100 /\ Below wx.heap.size wx w') := fun F6 wx ao' cap' h6 hu6 t6 => by
     have hl6 := HNM.out.len
     refine (sshow_any ao' nw cap' rt6 wx h6 hu6 ((List.range (canonN ns rs).1.length).map (fun i => movedM (pO nm os (canonN ns rs).1) (lvL (pO nm os (canonN ns rs).1) (pR nm os (canonN ns rs).1 (canonN ns rs).2)) (pW nm os (canonN ns rs).1 (i : Nat)))) (fun x hx => ?_) (by rw [List.length_map, List.length_range]; have := HD.out.len.1; omega) (fun x hx => ?_) (by omega) (by omega) (fun s hs => Nat.le_trans (HNM.out.sz s hs) (by decide)) t6).mono ?_
     ·rw [hos6, hx3, hrt6] at hx
      obtain ⟨i, hi, rfl⟩ := rch_moved HD.out.ok HD.out.goodC hx
      have hri := rch_self HD.out.goodC hi
      refine List.mem_map.2 ⟨i.toNat, List.mem_range.2 (by omega), ?_⟩
      rw [show ((i.toNat : Nat) : Int) = i by omega]
     ·obtain ⟨i, hi, rfl⟩ := List.mem_map.1 hx
      have hi' := List.mem_range.1 hi
      have hrch := ordered_all HD.out.ord i hi'
      have hsd := said_moved HD.out.ok HD.out.goodC hrch
      have hmm := HD.out.small _ (HD.out.ok.mem hi').1
      rw [hos6, hx3, hsd.1, hsd.2]
      show ((canonN ns rs).1.getD ((i : Nat) : Int).toNat default).kids.length <= 100 /\ ((canonN ns rs).1.getD ((i : Nat) : Int).toNat default).text.size <= 2000
      rw [Int.toNat_natCast]
      exact ⟨hmm.2, hmm.1⟩
     ·rintro e w' ⟨a1, n1, c1, a2, n2, c2, W, ns', rs', rfl, hTd, hF, hGI, _, hB⟩
      rw [hos6, hx3, hrt6] at hTd
      have e1 : canonN ns' rs' = canonN ns rs := (show_moved HD.out.ok HD.out.goodC hTd hF HD.out.fineC).trans HD.out.again
      rw [e1] at hGI
      have hn1 := hGI.nodes.len
      have hn2 := hGI.roots.len
      have hl := HD.out.len
      exact ⟨a1, n1, c1, a2, n2, c2, rfl, ⟨hGI, fun d hd => (HD.out.small d hd).1, fun d hd => (HD.out.small d hd).2, by omega, by omega⟩, by omega, by omega, hB⟩
    have CE : Hid (∀ wx a1 n1 c1 a2 n2 c2, GOk wx a1 n1 c1 a2 n2 c2 (canonN ns rs).1 (canonN ns rs).2 -> n1 <= 100 -> n2 <= 100 -> GOk wx an nn cn ar nr cr ns rs -> Calls Tryz.prog 22 #[.agg #[.slice a1 n1 c1, .slice a2 n2 c2], .agg #[.slice an nn cn, .slice ar nr cr]] wx fun e w' => e = .returned (.bool true) /\ Below wx.heap.size wx w') := fun wx a1 n1 c1 a2 n2 c2 g1 m1 m2 g2 => by
     have := grsame_any a1 a2 n1 c1 n2 c2 (canonN ns rs).1 (canonN ns rs).2 an ar nn cn nr cr ns rs wx g1 g2 m1 m2 f1 f2
     have e1 : sameGB (canonN ns rs).1 (canonN ns rs).2 ns rs = true := by
      unfold sameGB
      have : canonN (canonN ns rs).1 (canonN ns rs).2 = canonN ns rs := HD.out.again
      rw [this, HD.out.good, HD.out.goodC, decide_eq_true rfl, decide_eq_true rfl]; rfl
     rw [e1] at this
     exact this
    have CU : Hid (∀ (F6 : Nat -> Prop) (wx : World), PN W1.heap.size (.pointer (some ⟨gh, 0, none⟩)) (.pointer (some ⟨gp, 0, none⟩)) 20000 os6 r.2.2.2 F6 wx -> Calls Tryz.prog 21 #[.pointer (some ⟨gh, 0, none⟩)] wx fun e w' => e = .returned (.int .i64 (needM ns rs)) /\ Below wx.heap.size wx w') := fun F6 wx h6 => by
     have := h6.used
     rw [hU] at this
     exact this
    have CN2 : Hid (∀ wx, GOk wx an nn cn ar nr cr ns rs -> TabsS wx -> Calls Tryz.prog 19 #[.agg #[.slice an nn cn, .slice ar nr cr]] wx fun e w' => e = .returned (.int .i64 (needM ns rs)) /\ Below wx.heap.size wx w') := fun wx g t => sneed_any an ar nn cn nr cr ns rs wx g f1 f2 t
    obtain ⟨nd, hnd⟩ : ∃ x, x = needM ns rs := ⟨_, rfl⟩
    rw [<- hnd] at CU CN2
    clear hU hos6 hrt6 hx1 hx2 hx3 hnd HDN HRE HNW
    go_wp2_with (first
     | (go_at_call 14; (with_reducible refine CP.out.mono ?_); rintro e W5 ⟨ao, cap, rfl, hu5, F5, p5, q5, m5, n5⟩; have HU5 := hid hu5; have HP5 := hid p5; have HN5 := hid n5.1; have HB5 := hid (HPf.out.bel.trans (m5.below (fun b e => (HPf.out.pn.ge b e).1) HPf.out.bel.size)); clear hu5 p5 q5 m5 n5)
     | (go_at_call 33; (with_reducible refine (CC.out ao cap F5 W5 HP5.out HU5.out HN5.out HB5.out.size).mono ?_); rintro e W6 ⟨ao6, cap6, rfl, hu6, F6, p6, q6, m6⟩; have HU6 := hid hu6; have HP6 := hid p6; have HB6 := hid (HB5.out.trans (m6.below (fun b e => (HP5.out.ge b e).1) HB5.out.size)); clear hu6 p6 q6 m6))
    obtain ⟨x0, x1⟩ := HGB.out W6 HB6.out
    have HS0 : Hid (W6.cell? ⟨w.heap.size, 0, none⟩ = some (.slice an nn cn) /\ W6.cell? ⟨w.heap.size, 1, none⟩ = some (.slice ar nr cr) /\ Below W6.heap.size W6 W6) := ⟨x0, x1, Below.refl _ _⟩
    have HP7 : Hid (∀ wx, Below W6.heap.size W6 wx -> PN W1.heap.size (.pointer (some ⟨gh, 0, none⟩)) (.pointer (some ⟨gp, 0, none⟩)) 20000 os6 r.2.2.2 F6 wx) := fun wx hb => HP6.out.on hb
    have HU7 : Hid (∀ wx, Below W6.heap.size W6 wx -> URow wx ao6 nw cap6 rt6) := fun wx hb => HU6.out.on hb
    have HT7 : Hid (∀ wx, Below W6.heap.size W6 wx -> TabsS wx) := fun wx hb => HT1.out wx (Bt HB6.out hb)
    have HG7 : Hid (∀ wx, Below W6.heap.size W6 wx -> GOk wx an nn cn ar nr cr ns rs) := fun wx hb => HG1.out wx (Bt HB6.out hb)
    have HW7 : Hid (∀ wx, Below W6.heap.size W6 wx -> Below w.heap.size w wx) := fun wx hb => Bt HB1.out (Bt HB6.out hb)
    have eqn : (nd == nd) = true := by simp
    clear x0 x1
    go_region_held3 (fun wx => wx.cell? ⟨w.heap.size, 0, none⟩ = some (.slice an nn cn) /\ wx.cell? ⟨w.heap.size, 1, none⟩ = some (.slice ar nr cr) /\ Below W6.heap.size W6 wx)
     (first | exact gone_on HS0.out (Bd W6 1) | exact gone_on (by assumption) (by assumption))
     (first
      | (go_at_call 23; with_reducible refine (CS.out F6 _ ao6 cap6 ?_ ?_ ?_).mono ?_; (exact HP7.out _ (gone_bel (p := w.heap.size) (a0 := .slice an nn cn) (a1 := .slice ar nr cr) (by assumption))); (exact HU7.out _ (gone_bel (p := w.heap.size) (a0 := .slice an nn cn) (a1 := .slice ar nr cr) (by assumption))); (exact HT7.out _ (gone_bel (p := w.heap.size) (a0 := .slice an nn cn) (a1 := .slice ar nr cr) (by assumption))); rintro e wa ⟨a1, n1, c1, a2, n2, c2, rfl, hgy, hm1, hm2, ba⟩)
      | (go_at_call 22; with_reducible refine (CE.out _ _ _ _ _ _ _ hgy hm1 hm2 ?_).mono ?_; (exact HG7.out _ (gone_bel (p := w.heap.size) (a0 := .slice an nn cn) (a1 := .slice ar nr cr) (by assumption))); rintro e wb ⟨rfl, bb⟩)
      | (go_at_call 21; with_reducible refine (CU.out F6 _ ?_).mono ?_; (exact HP7.out _ (gone_bel (p := w.heap.size) (a0 := .slice an nn cn) (a1 := .slice ar nr cr) (by assumption))); rintro e wc ⟨rfl, bc⟩)
      | (go_at_call 19; with_reducible refine (CN2.out _ ?_ ?_).mono ?_; (exact HG7.out _ (gone_bel (p := w.heap.size) (a0 := .slice an nn cn) (a1 := .slice ar nr cr) (by assumption))); (exact HT7.out _ (gone_bel (p := w.heap.size) (a0 := .slice an nn cn) (a1 := .slice ar nr cr) (by assumption))); rintro e wd ⟨rfl, bd⟩)
      | (go_at_call 9; with_reducible refine (CA.out _ ?_).mono ?_; (exact HW7.out _ (gone_bel (p := w.heap.size) (a0 := .slice an nn cn) (a1 := .slice ar nr cr) (by assumption))); rintro e we ⟨rfl, be⟩))
    have HBE : Hid (Below w.heap.size w we) := HW7.out _ (gone_bel (p := w.heap.size) (a0 := .slice an nn cn) (a1 := .slice ar nr cr) (by assumption))
    rename_i hHeld
    clear hHeld
    go_wp2
    go_ret
    exact ⟨rfl, HBE.out⟩
   ·have ez : (er != 0) = true := by simpa using hz
    have hee : ((er : Int) == 0) = false := by simpa using hz
    clear hz
    go_wp2_with (first
     | (go_at_call 14; (with_reducible refine CP.out.mono ?_); rintro e W5 ⟨ao, cap, rfl, hu5, F5, p5, q5, m5, _⟩; have HB5 := hid (HPf.out.bel.trans (m5.below (fun b e => (HPf.out.pn.ge b e).1) HPf.out.bel.size)); clear hu5 p5 q5 m5)
     | (go_at_call 9; (with_reducible refine (CA.out W5 (Bt HB1.out HB5.out)).mono ?_); rintro e W6 ⟨rfl, b6⟩; have HB6 := hid (Bt (Bt HB1.out HB5.out) b6); clear b6))
    go_ret
    exact ⟨rfl, HB6.out⟩
end Go.Proofs.YtadfihnffboelaaGreatDoor
