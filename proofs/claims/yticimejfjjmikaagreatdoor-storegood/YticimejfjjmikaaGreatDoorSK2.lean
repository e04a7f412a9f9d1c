import Derived.Test.YticimejfjjmikaaGreatDoorSG11
set_option linter.unusedVariables false
set_option linter.unusedSimpArgs false
set_option maxRecDepth 100000
namespace Go.Proofs.YticimejfjjmikaaGreatDoor
open Go.RowKit
theorem results_tmp5 {fn : Func} {t u v x y : Tmp} (h : fn.results = #[.tmp t, .tmp u, .tmp v, .tmp x, .tmp y]) (tmps : Array Value) (P : Program) (w : World) :
  (results fn tmps).run P w = .ok (.tuple #[tmps.getD t undef, tmps.getD u undef, tmps.getD v undef, tmps.getD x undef, tmps.getD y undef]) w := by
 simp [results, h]
def nmC : Array Value := #[.string ⟨#[120]⟩, .string ⟨#[121]⟩, .string ⟨#[]⟩, .string ⟨#[255]⟩]
theorem nmC_get : ∀ q, q < 4 -> nmC[q]? = some (.string (nm4.getD q ByteArray.empty)) /\ (nm4.getD q ByteArray.empty).size <= 1
 | 0, _ => ⟨rfl, by decide⟩
 | 1, _ => ⟨rfl, by decide⟩
 | 2, _ => ⟨rfl, by decide⟩
 | 3, _ => ⟨rfl, by decide⟩
 | n + 4, h => by omega
def MadePost (w : World) (n : Nat) (xs : List So) (e : Ending) (w' : World) : Prop :=
 ∃ gh gp g gn B' F vL ls vN aA cA, e = .returned (.tuple #[.pointer (some ⟨gh, 0, none⟩), .pointer (some ⟨g, 0, none⟩), .pointer (some ⟨gp, 0, none⟩), .pointer (some ⟨gn, 0, none⟩), .slice aA n cA]) /\
  KZ w.heap.size B' (.pointer (some ⟨gh, 0, none⟩)) (.pointer (some ⟨gp, 0, none⟩)) 5000 g gn (madeS xs) nm4 (madeS xs) nm4 F vL ls vN (fun b => (Value.slice aA n cA).ownBlock = some b) w' /\ w'.ownsRow w.heap.size 44 1 (.slice aA n cA) n (uz (atsL (xs.map ojOf))) /\ Below w.heap.size w w'
set_option maxHeartbeats 32000000 in
theorem smade_any (ao : Option Addr) (n cap : Nat) (xs : List So) (w : World) (R : SoRow w ao n cap xs) (hfew : fewS xs = true) :
  Calls Tryz.prog 10 #[.slice ao n cap] w (MadePost w n xs) := by
 have HR := hid R
 have hn := R.len
 have hf := R.fits
 have hm := R.most
 unfold maxLen at hm
 obtain ⟨hf60, hf30⟩ := few_parts_s hfew
 have HF30 := hid hf30
 clear R hfew hf30
 subst hn
 obtain ⟨ys, hys⟩ : ∃ y, y = xs.map ojOf := ⟨_, rfl⟩
 have hyl : ys.length = xs.length := by rw [hys, List.length_map]
 have hus : usedL (blankL ys) <= 1860 := by
  have := small_used (xs := ys) (by omega) (fun y hy => by rw [hys] at hy; obtain ⟨x, hx, rfl⟩ := List.mem_map.1 hy; show (x.l.map _).length <= 30; rw [List.length_map]; exact HF30.out x hx)
  omega
 have HYS := hid hys
 clear hys
 have CN : Hid (∀ wx, Calls Tryz.prog 29 #[.int .i64 5000] wx fun e w' => ∃ v F, e = .returned (.tuple #[v, .int .i64 0]) /\ PH wx.heap.size v 5000 [] F w' /\ Below wx.heap.size wx w') := fun wx => by
  refine (pnew_is 5000 (by unfold Z64; omega) wx).mono (fun e w' h => ?_)
  unfold NewP at h
  rw [if_neg (by omega)] at h
  exact h
 have CR : Hid (∀ wx, Calls Tryz.prog 30 #[.int .i64 5000] wx fun e w' => ∃ g, e = .returned (.tuple #[.pointer (some ⟨g, 0, none⟩), .int .i64 0]) /\ wx.heap.size <= g /\ RH wx.heap.size g 5000 (.slice none 0 0) [] w' /\ Below wx.heap.size wx w') := fun wx => by
  refine (rnew_any 5000 (by unfold Z64; omega) wx).mono (fun e w' h => ?_)
  rw [if_neg (by omega)] at h
  exact h
 go_enter Tryz.func10, Tryz.ntmps10
 go_wp2_with (first
  | (go_at_call 29; (with_reducible refine (CN.out w).mono ?_); rintro e W1 ⟨v, F1, rfl, hp1, b1⟩; have HP1 := hid hp1; have HB1 := hid b1; clear hp1 b1)
  | (go_at_call 30; (with_reducible refine (CR.out W1).mono ?_); rintro e W2 ⟨g, rfl, hg2, hr2, b2⟩; have HG2 := hid hg2; have HR2 := hid hr2; have HB2 := hid b2; clear hg2 hr2 b2)
  | (go_at_call 31; (with_reducible refine (pnames_any W2).mono ?_); rintro e W3 ⟨vn, F2, rfl, hp3, b3⟩; have HP3 := hid hp3; have HB3 := hid b3; clear hp3 b3))
 have HPN := hid (pn_new (HP1.out.keep (fun b e => HB2.out.block b (HP1.out.ge b e).2)) (HB1.out.trans (HB2.out.mono HB1.out.size)) HP3.out HB3.out)
 have b4 := Baa W3 (.cells #[.slice none 0 0] 73) (.cells #[.string ⟨#[120]⟩, .string ⟨#[121]⟩, .string ⟨#[]⟩, .string ⟨#[255]⟩] 9)
 obtain ⟨t1, t2⟩ := two_new W3 (.cells #[.slice none 0 0] 73) (.cells #[.string ⟨#[120]⟩, .string ⟨#[121]⟩, .string ⟨#[]⟩, .string ⟨#[255]⟩] 9)
 have hsz : ((W3.alloc (.cells #[.slice none 0 0] 73)).alloc (.cells #[.string ⟨#[120]⟩, .string ⟨#[121]⟩, .string ⟨#[]⟩, .string ⟨#[255]⟩] 9)).heap.size = W3.heap.size + 2 := by simp only [size_alloc]
 generalize (W3.alloc (.cells #[.slice none 0 0] 73)).alloc (.cells #[.string ⟨#[120]⟩, .string ⟨#[121]⟩, .string ⟨#[]⟩, .string ⟨#[255]⟩] 9) = W4 at *
 have HS : Hid (∃ F vL ls vN, KZ w.heap.size W1.heap.size v vn 5000 g W3.heap.size [] (nm4.take 0) [] (nm4.take 0) F vL ls vN (fun b => b = W3.heap.size + 1) W4 /\ W4.heap[W3.heap.size + 1]? = some (.cells nmC 9 (0, 0)) /\ Below w.heap.size w W4) := by
  have hb1 := HB1.out.size
  have hb2 := HB2.out.size
  have hb3 := HB3.out.size
  have hFF : ∀ b, F1 b \/ F2 b -> b < W1.heap.size \/ (W2.heap.size <= b /\ b < W3.heap.size) := fun b e1 => by
   rcases e1 with e1 | e1
   ·exact .inl (HP1.out.ge b e1).2
   ·exact .inr (HP3.out.ge b e1)
  refine ⟨_, .slice none 0 0, [], .slice none 0 0, ⟨⟨HPN.out.on b4, ⟨HR2.out.on (Bt HB3.out b4), ⟨t1, World.ownsRow_nil _ _ _ _, fun e => (by cases e), by omega⟩, fun b e1 e2 => ?_⟩, rfl, fun b e1 e2 => ?_⟩, fun b e => ?_, by omega, by omega⟩, t2, (HB1.out.trans (HB2.out.mono HB1.out.size)).trans ((Bt HB3.out b4).mono (by omega))⟩
  ·have := (HR2.out.foot_ge b e1).2
   rcases e2 with e2 | e2
   ·omega
   ·cases e2
  ·have hF := hFF b e1
   rcases e2 with e2 | e2
   ·have := HR2.out.foot_ge b e2; omega
   ·rcases e2 with e2 | e2
    ·omega
    ·cases e2
  ·subst e
   refine ⟨by omega, fun e => ?_, fun e => ?_⟩
   ·have := hFF _ e; omega
   ·rcases e with e | e
    ·have := HR2.out.foot_ge _ e; omega
    ·rcases e with e | e
     ·omega
     ·cases e
 obtain ⟨gh, gp, rfl, rfl⟩ := HPN.out.ptrs
 obtain ⟨gn, hgn⟩ : ∃ g, g = W3.heap.size := ⟨_, rfl⟩
 obtain ⟨gs, hgs⟩ : ∃ g, g = W3.heap.size + 1 := ⟨_, rfl⟩
 rw [<- hgs] at HS ⊢
 rw [<- hgn] at HS ⊢
 obtain ⟨B', hB'⟩ : ∃ b, b = W1.heap.size := ⟨_, rfl⟩
 rw [<- hB'] at HS
 clear CN CR HP1 HP3 HB1 HB2 HB3 HPN HR2 HG2 b4 hgn hB' hgs t1 t2 hsz
 go_loopw [14] (fun i wr => ∃ q : Nat, q <= 4 /\ i = .int .i64 q /\ Hid (∃ F vL ls vN, KZ w.heap.size B' (.pointer (some ⟨gh, 0, none⟩)) (.pointer (some ⟨gp, 0, none⟩)) 5000 g gn [] (nm4.take q) [] (nm4.take q) F vL ls vN (fun b => b = gs) wr /\ wr.heap[gs]? = some (.cells nmC 9 (0, 0)) /\ Below w.heap.size w wr)) (fun i _ => 4 - (intOf i).toNat)
 case atStart => exact ⟨0, Nat.zero_le _, rfl, HS.out⟩
 case round =>
  clear HS
  obtain ⟨q, hq, rfl, hI⟩ := hrel
  obtain ⟨F, vL, ls, vN, hK, hL, hB⟩ := hI.out
  have HK := hid hK
  have HL := hid hL
  have HB := hid hB
  clear hI hK hL hB
  by_cases hlt : q < 4
  ·obtain ⟨hc0, hc1⟩ := nmC_get q hlt
   have hcell : ∀ wx : World, wx.heap[gs]? = some (.cells nmC 9 (0, 0)) -> wx.cell? ⟨gs, q, none⟩ = some (.string (nm4.getD q ByteArray.empty)) := fun wx h => (blk_cell h q).trans hc0
   have hst := nm4_step q hlt
   have hlen : (nm4.take q).length <= 4 := by rw [List.length_take]; show min q 4 <= 4; omega
   obtain ⟨s, hs⟩ : ∃ s, s = nm4.getD q ByteArray.empty := ⟨_, rfl⟩
   rw [<- hs] at hc1 hst hcell
   have HCL := hid hcell
   have d0 := hcell wr HL.out
   have C1 : Hid (Calls Tryz.prog 32 #[.pointer (some ⟨gp, 0, none⟩), .string s] wr fun e w' => ∃ z F', e = .returned (.int .i64 z) /\ KZ w.heap.size B' (.pointer (some ⟨gh, 0, none⟩)) (.pointer (some ⟨gp, 0, none⟩)) 5000 g gn [] (nm4.take (q + 1)) [] (nm4.take q) F' vL ls vN (fun b => b = gs) w' /\ w'.heap[gs]? = some (.cells nmC 9 (0, 0)) /\ Below w.heap.size w w') := by
    refine (pn_id HK.out.z.pn s HB.out.size (by omega) (by omega)).mono ?_
    rintro e w' ⟨rfl, hp⟩
    rw [hst] at hp
    obtain ⟨F', k1, k2, k3⟩ := HK.out.stepP hp
    exact ⟨_, F', rfl, k1, (k2 gs rfl).trans HL.out, HB.out.trans k3⟩
   have C2 : Hid (∀ F' wx, KZ w.heap.size B' (.pointer (some ⟨gh, 0, none⟩)) (.pointer (some ⟨gp, 0, none⟩)) 5000 g gn [] (nm4.take (q + 1)) [] (nm4.take q) F' vL ls vN (fun b => b = gs) wx -> wx.heap[gs]? = some (.cells nmC 9 (0, 0)) -> Below w.heap.size w wx -> Calls Tryz.prog 33 #[.pointer (some ⟨gn, 0, none⟩), .string s] wx fun e w' => ∃ z vL' ls' vN', e = .returned (.int .i64 z) /\ KZ w.heap.size B' (.pointer (some ⟨gh, 0, none⟩)) (.pointer (some ⟨gp, 0, none⟩)) 5000 g gn [] (nm4.take (q + 1)) [] (nm4.take (q + 1)) F' vL' ls' vN' (fun b => b = gs) w' /\ w'.heap[gs]? = some (.cells nmC 9 (0, 0)) /\ Below w.heap.size w w') := fun F' wx hk hl hb => by
    refine (hn_id hk.z.hn s hk.bb.2 (by omega)).mono ?_
    rintro e w' ⟨rfl, hp⟩
    rw [hst, hk.z.os2_] at hp
    obtain ⟨vL', ls', vN', k1, k2, k3⟩ := hk.stepD hp
    exact ⟨_, vL', ls', vN', rfl, k1, (k2 gs rfl).trans hl, hb.trans k3⟩
   clear hcell hs hst hc0 hc1 hlen
   go_wp2_with (first
    | (go_at_call 32; (with_reducible refine C1.out.mono ?_); rintro e W5 ⟨z5, F5, rfl, k5, l5, b5⟩; have HK5 := hid k5; have HL5 := hid l5; have HB5 := hid b5; have d5 := HCL.out W5 l5; clear k5 l5 b5)
    | (go_at_call 33; (with_reducible refine (C2.out F5 W5 HK5.out HL5.out HB5.out).mono ?_); rintro e W6 ⟨z6, vL6, ls6, vN6, rfl, k6, l6, b6⟩; have HK6 := hid k6; have HL6 := hid l6; have HB6 := hid b6; clear k6 l6 b6))
   exact ⟨⟨q + 1, by omega, by go_num, _, _, _, _, HK6.out, HL6.out, HB6.out⟩, by simp [intOf] <;> omega⟩
  ·obtain rfl : q = 4 := by omega
   go_wp2_with fail
   have hK4 : Hid (KZ w.heap.size B' (.pointer (some ⟨gh, 0, none⟩)) (.pointer (some ⟨gp, 0, none⟩)) 5000 g gn (blankL (ys.take 0)) nm4 (blankL (ys.take 0)) nm4 F vL ls vN (fun b => (Value.slice none 0 0).ownBlock = some b) wr) := HK.out.other (fun b e => (by cases e))
   have HB4 := hid HB.out
   have HO4 : Hid (wr.ownsRow w.heap.size 44 1 (.slice none 0 0) 0 (uz ((atsL ys).take 0))) := World.ownsRow_nil _ _ _ _
   obtain ⟨Wn, hWn⟩ : ∃ x, x = wr := ⟨_, rfl⟩
   rw [<- hWn] at hK4 HB4 HO4
   subst hWn
   clear HK HL HB
   go_loopw [15, 16] (fun r i wr => ∃ q : Nat, q <= xs.length /\ i = .int .i64 q /\ Hid (∃ aA cA F vL ls vN, r = .slice aA q cA /\ KZ w.heap.size B' (.pointer (some ⟨gh, 0, none⟩)) (.pointer (some ⟨gp, 0, none⟩)) 5000 g gn (blankL (ys.take q)) nm4 (blankL (ys.take q)) nm4 F vL ls vN (fun b => r.ownBlock = some b) wr /\ wr.ownsRow w.heap.size 44 1 r q (uz ((atsL ys).take q)) /\ Below w.heap.size w wr)) (fun r i _ => xs.length - (intOf i).toNat)
   case atStart => exact ⟨0, Nat.zero_le _, rfl, none, 0, _, _, _, _, rfl, hK4.out, HO4.out, HB4.out⟩
   case round =>
    clear hK4 HB4 HO4 F vL ls vN
    obtain ⟨q, hq, rfl, hI⟩ := hrel
    obtain ⟨aA, cA, F, vL, ls, vN, rfl, hK, hO, hB⟩ := hI.out
    have HK := hid hK
    have HO := hid hO
    have HB := hid hB
    clear hI hK hO hB
    by_cases hlt : q < xs.length
    ·obtain ⟨b, o, rfl, hlb0, hcc⟩ := HR.out.some (by omega)
     obtain ⟨d0', fa, fn, fcc, d1', hF⟩ := hcc q hlt
     have hxm := getD_in_so hlt
     have hfl := hF.len
     have hff := hF.fits
     have hfm := hF.most
     unfold maxLen at hfm
     have hx30 := HF30.out _ hxm
     have hzk := HR.out.ok _ hxm
     have hqy : q < ys.length := by omega
     have HBK := hid (blank_take_s hqy)
     have HAT := hid (ats_take_s hqy)
     have hyq : ys.getD q default = ojOf (xs.getD q default) := by rw [HYS.out, List.getD_eq_getElem?_getD, List.getElem?_map, List.getElem?_eq_getElem hlt, List.getD_eq_getElem?_getD, List.getElem?_eq_getElem hlt]; rfl
     have HOB : Hid (blankO (ys.getD q default) = ⟨kindO (xs.getD q default).kind, List.replicate (xs.getD q default).l.length 2⟩) := by
      unfold Hid; rw [hyq]; unfold blankO ojOf; simp only [List.length_map]
     obtain ⟨x, hx⟩ : ∃ x, x = xs.getD q default := ⟨_, rfl⟩
     rw [<- hx] at d0' hfl hx30 hzk HOB
     clear hcc hF hxm hx hyq
     obtain ⟨xk, xl⟩ := x
     simp only at d0' hfl hx30 hzk HOB
     have HC : Hid (∀ wx, Below w.heap.size w wx -> wx.cell? ⟨b, o + q * 2, none⟩ = some (.int .i64 xk) /\ wx.cell? ⟨b, o + q * 2 + 1, none⟩ = some (.slice fa fn fcc)) := fun wx hb => ⟨(hb.cell (p := ⟨b, o + q * 2, none⟩) hlb0).trans d0', (hb.cell (p := ⟨b, o + q * 2 + 1, none⟩) hlb0).trans d1'⟩
     obtain ⟨d0, d1⟩ := HC.out wr HB.out
     clear d0' d1'
     have hkr := kindO_rng xk
     have hut : usedL (blankL (ys.take q)) <= 1860 := by
      have := used_take_le (blankL ys) q
      unfold atO blankL at this
      rw [<- List.map_take] at this
      unfold blankL; unfold blankL at hus; omega
     obtain ⟨hfi1, hfi2⟩ := fill5_is (os := blankL (ys.take q)) (kind := kindO xk) (n := (fn : Int)) hkr (by omega) (by omega)
     have hok2 : OsOk (blankL (ys.take (q + 1))) := blank_ok _
     have e2 : blankL (ys.take q) ++ [⟨kindO xk, List.replicate (fn : Int).toNat 2⟩] = blankL (ys.take (q + 1)) := by
      rw [HBK.out, HOB.out, hfl]; rfl
     rw [e2] at hfi2
     obtain ⟨K, hK⟩ : ∃ K, K = kindO xk := ⟨_, rfl⟩
     rw [<- hK] at hfi1 hfi2 hkr
     obtain ⟨P, hP⟩ : ∃ P, P = wordR 2 (usedL (blankL (ys.take q)) : Nat) 0 := ⟨_, rfl⟩
     rw [<- hP] at hfi1 HAT
     have HPU : Hid (U64 P) := by unfold Hid; rw [hP]; exact wordR_rng _ _ _
     have CP : Hid (Calls Tryz.prog 34 #[.pointer (some ⟨gh, 0, none⟩), .int .i64 K, .int .i64 (fn : Nat), .int .u64 2] wr fun e w' => ∃ F', e = .returned (.tuple #[.int .u64 P, .int .i64 0]) /\ KZ w.heap.size B' (.pointer (some ⟨gh, 0, none⟩)) (.pointer (some ⟨gp, 0, none⟩)) 5000 g gn (blankL (ys.take (q + 1))) nm4 (blankL (ys.take q)) nm4 F' vL ls vN (fun b => (Value.slice aA q cA).ownBlock = some b) w' /\ w'.ownsRow w.heap.size 44 1 (.slice aA q cA) q (uz ((atsL ys).take q)) /\ Below w.heap.size w w') := by
      have := pn_fill HK.out.z.pn K (fn : Int) 2 (by unfold Z64; omega) (by unfold Z64; omega) (by unfold U64; omega) HB.out.size (by rw [fillQ_is (by decide), hfi2]; exact hok2)
      rw [fillP_is (by decide), fillQ_is (by decide), hfi1, hfi2] at this
      refine this.mono ?_
      rintro e w' ⟨rfl, hp⟩
      obtain ⟨F', k1, k2, k3⟩ := HK.out.stepP hp
      exact ⟨F', rfl, k1, own_at HO.out k2, HB.out.trans k3⟩
     have CD : Hid (∀ F' wx, KZ w.heap.size B' (.pointer (some ⟨gh, 0, none⟩)) (.pointer (some ⟨gp, 0, none⟩)) 5000 g gn (blankL (ys.take (q + 1))) nm4 (blankL (ys.take q)) nm4 F' vL ls vN (fun b => (Value.slice aA q cA).ownBlock = some b) wx -> wx.ownsRow w.heap.size 44 1 (.slice aA q cA) q (uz ((atsL ys).take q)) -> Below w.heap.size w wx -> Calls Tryz.prog 35 #[.pointer (some ⟨g, 0, none⟩), .int .i64 K, .int .i64 (fn : Nat), .int .u64 2] wx fun e w' => ∃ vL' ls' vN', e = .returned (.tuple #[.int .u64 P, .int .i64 0]) /\ KZ w.heap.size B' (.pointer (some ⟨gh, 0, none⟩)) (.pointer (some ⟨gp, 0, none⟩)) 5000 g gn (blankL (ys.take (q + 1))) nm4 (blankL (ys.take (q + 1))) nm4 F' vL' ls' vN' (fun b => (Value.slice aA q cA).ownBlock = some b) w' /\ w'.ownsRow w.heap.size 44 1 (.slice aA q cA) q (uz ((atsL ys).take q)) /\ Below w.heap.size w w') := fun F' wx hk ho hb => by
      have := hn_fill hk.z.hn K (fn : Int) 2 (by unfold Z64; omega) (by unfold Z64; omega) (by unfold U64; omega) hk.bb.2
      rw [hk.z.os2_, hfi1, hfi2] at this
      refine this.mono ?_
      rintro e w' ⟨rfl, hp⟩
      obtain ⟨vL', ls', vN', k1, k2, k3⟩ := hk.stepD hp
      exact ⟨vL', ls', vN', rfl, k1, own_at ho k2, hb.trans k3⟩
     have ht22 : (Int.tmod xk 22).natAbs < 22 := by rw [Int.natAbs_tmod]; exact Nat.mod_lt _ (by omega)
     have hk22 : Int.tmod xk 22 % 22 + 1 = K := by
      have e1 : Int.tmod (Int.tmod xk 22 + 22) 22 = (Int.tmod xk 22 + 22) % 22 := Int.tmod_eq_emod_of_nonneg (by omega)
      have e2 : K = Int.tmod (Int.tmod xk 22 + 22) 22 + 1 := hK
      rw [e2, e1]; omega
     have hw1 : IntKind.i64.wrap (Int.tmod xk 22) = Int.tmod xk 22 := by rw [IntKind.wrap_i64]; omega
     have hw3 : wrap64 (Int.tmod xk 22) = Int.tmod xk 22 := by unfold wrap64; omega
     have hw2 : IntKind.i64.wrap (Int.tmod xk 22 + 22) = Int.tmod xk 22 + 22 := by rw [IntKind.wrap_i64]; omega
     have hw4 : wrap64 (Int.tmod xk 22 + 22) = Int.tmod xk 22 + 22 := by unfold wrap64; omega
     have hqq : q <= 60 := by omega
     clear hfi1 hfi2 hok2 e2 hP hK HBK HOB
     go_wp2_with (first
      | (go_at_call 34; (try rw [hk22]); (with_reducible refine CP.out.mono ?_); rintro e W5 ⟨F5, rfl, k5, o5, b5⟩; have HK5 := hid k5; have HO5 := hid o5; have HB5 := hid b5; have j1 := (HC.out W5 b5).2; clear k5 o5 b5)
      | (go_at_call 35; (try rw [hk22]); (with_reducible refine (CD.out F5 W5 HK5.out HO5.out HB5.out).mono ?_); rintro e W6 ⟨vL6, ls6, vN6, rfl, k6, o6, b6⟩; have HK6 := hid (k6.on (Ba W6 (.cells #[.int .u64 P] 44))); have HO6 := hid (uown_on o6 (Ba W6 (.cells #[.int .u64 P] 44))); have HB6 := hid (b6.trans ((Ba W6 (.cells #[.int .u64 P] 44)).mono b6.size)); have HN6 : Hid ((W6.alloc (.cells #[.int .u64 P] 44)).cell? ⟨W6.heap.size, 0, none⟩ = some (.int .u64 P)) := blk_cell (blk_new W6 #[.int .u64 P] 44) 0; clear k6 o6 b6)
      | (at_builtin; refine appW rfl _ _ 23 rfl w.heap.size 44 Tryz.underlying23 info_word _ q ((atsL ys).take q) rfl HO6.out ⟨W6.heap.size, 0, none⟩ 1 P rfl HN6.out (by omega) HB6.out.size ?_; intro g7 c7 W7 ho hg hloc hlt7; have HO7 := hid ho; have HG7 := hid hg; have HL7 := hid hloc; have HT7 := hid hlt7; clear ho hg hloc hlt7))
     have HK7 : Hid (KZ w.heap.size B' (.pointer (some ⟨gh, 0, none⟩)) (.pointer (some ⟨gp, 0, none⟩)) 5000 g gn (blankL (ys.take (q + 1))) nm4 (blankL (ys.take (q + 1))) nm4 F5 vL6 ls6 vN6 (fun b => (Value.slice (some ⟨g7, 0, none⟩) (q + 1) c7).ownBlock = some b) W7) := HK6.out.grown HG7.out (fun k hk => hk) (fun b e => by
      have e' : g7 = b := Option.some.inj e
      subst e'
      refine ⟨?_, HT7.out⟩
      rcases HL7.out with e1 | e1
      ·exact .inl e1
      ·exact .inr (by omega))
     have HO8 : Hid (W7.ownsRow w.heap.size 44 1 (.slice (some ⟨g7, 0, none⟩) (q + 1) c7) (q + 1) (uz ((atsL ys).take (q + 1)))) := by unfold Hid; rw [HAT.out]; exact HO7.out
     have HB7 : Hid (Below w.heap.size w W7) := HB6.out.grown HG7.out HB6.out.size (fun k hk => (HO6.out.lt k hk).1)
     refine ⟨⟨_, _, _, _, _, _, _, _, _, _, _, _, _, _, _, _, _, _, _, _, _, _, _, _, _, _, _, _, _, _, _, _, _, _, _, _, _, _, _, _, _, _, _, _, _, ⟨q + 1, by omega, by go_num, some ⟨g7, 0, none⟩, c7, _, _, _, _, rfl, HK7.out, HO8.out, HB7.out⟩, rfl⟩, by simp [intOf] <;> omega⟩
    ·obtain rfl : q = xs.length := by omega
     have hk1 := HK.out
     have ho1 := HO.out
     rw [List.take_of_length_le (by omega)] at hk1
     rw [List.take_of_length_le (by rw [atsL_len]; omega)] at ho1
     obtain ⟨aA', cA', hvA, hUA⟩ := urow_own (l := atsL ys) (by rw [atsL_len, hyl]; exact ho1) atsL_u64
     rw [atsL_len, hyl] at hvA hUA
     cases hvA
     have HS3 : Hid (∃ F vL ls vN, KZ w.heap.size B' (.pointer (some ⟨gh, 0, none⟩)) (.pointer (some ⟨gp, 0, none⟩)) 5000 g gn (setA (atsL ys) xs 0 (blankL ys)) nm4 (setA (atsL ys) xs 0 (blankL ys)) nm4 F vL ls vN (fun b => (Value.slice aA xs.length cA).ownBlock = some b) wr /\ wr.ownsRow w.heap.size 44 1 (.slice aA xs.length cA) xs.length (uz (atsL ys)) /\ Below w.heap.size w wr) := ⟨_, _, _, _, hk1, ho1, HB.out⟩
     have hcA := hUA.fits
     have hcM := hUA.most
     unfold maxLen at hcM
     clear HK HO HB hk1 ho1 hUA F vL ls vN
     go_wp2_with fail
     go_loopw [20] (fun vi wr => ∃ i : Nat, i <= xs.length /\ vi = .int .i64 i /\ Hid (∃ F vL ls vN, KZ w.heap.size B' (.pointer (some ⟨gh, 0, none⟩)) (.pointer (some ⟨gp, 0, none⟩)) 5000 g gn (setA (atsL ys) xs i (blankL ys)) nm4 (setA (atsL ys) xs i (blankL ys)) nm4 F vL ls vN (fun b => (Value.slice aA xs.length cA).ownBlock = some b) wr /\ wr.ownsRow w.heap.size 44 1 (.slice aA xs.length cA) xs.length (uz (atsL ys)) /\ Below w.heap.size w wr)) (fun vi _ => xs.length - (intOf vi).toNat)
     case atStart => exact ⟨0, Nat.zero_le _, rfl, HS3.out⟩
     case round =>
      clear HS3
      obtain ⟨i, hi, rfl, hI⟩ := hrel
      have HI := hid hI.out
      clear hI
      by_cases hlt2 : i < xs.length
      ·obtain ⟨os0, hos0⟩ : ∃ o, o = setA (atsL ys) xs i (blankL ys) := ⟨_, rfl⟩
       rw [<- hos0] at HI
       go_wp2_with fail
       go_loopw [21] (fun vk wr => ∃ k : Nat, k <= (xs.getD i default).l.length /\ vk = .int .i64 k /\ Hid (∃ F vL ls vN, KZ w.heap.size B' (.pointer (some ⟨gh, 0, none⟩)) (.pointer (some ⟨gp, 0, none⟩)) 5000 g gn (setK ((atsL ys).getD i 0) (atsL ys) (xs.getD i default).l k os0) nm4 (setK ((atsL ys).getD i 0) (atsL ys) (xs.getD i default).l k os0) nm4 F vL ls vN (fun b => (Value.slice aA xs.length cA).ownBlock = some b) wr /\ wr.ownsRow w.heap.size 44 1 (.slice aA xs.length cA) xs.length (uz (atsL ys)) /\ Below w.heap.size w wr)) (fun vk _ => (xs.getD i default).l.length - (intOf vk).toNat)
       case atStart => exact ⟨0, Nat.zero_le _, rfl, HI.out⟩
       case round =>
        clear HI
        obtain ⟨k, hk, rfl, hI⟩ := hrel
        obtain ⟨F, vL, ls, vN, hK, hO, hB⟩ := hI.out
        have HK := hid hK
        have HO := hid hO
        have HB := hid hB
        clear hI hK hO hB
        obtain ⟨b, o, rfl, hlb0, hcc⟩ := HR.out.some (by omega)
        obtain ⟨_, fa, fn, fcc, d1', hF⟩ := hcc i hlt2
        have hfl := hF.len
        have hff := hF.fits
        have hfm := hF.most
        unfold maxLen at hfm
        have hx30 := HF30.out _ (getD_in_so hlt2)
        have HC1 : Hid (∀ wx, Below w.heap.size w wx -> wx.cell? ⟨b, o + i * 2 + 1, none⟩ = some (.slice fa fn fcc)) := fun wx hb => (hb.cell (p := ⟨b, o + i * 2 + 1, none⟩) hlb0).trans d1'
        have d1 := HC1.out wr HB.out
        clear hcc d1'
        rw [hfl] at hk ⊢
        by_cases hlk : k < fn
        ·obtain ⟨fb, fo', rfl, hfb, hfc⟩ := (hF.on HB.out).some (by omega)
         obtain ⟨c0, c1, c2⟩ := hfc k hlk
         have hfok := hF.ok _ (getD_in_sf (l := (xs.getD i default).l) (i := k) (by omega))
         obtain ⟨aA', cA', hvA, hUA⟩ := urow_own (l := atsL ys) (by rw [atsL_len, hyl]; exact HO.out) atsL_u64
         rw [atsL_len, hyl] at hvA hUA
         cases hvA
         obtain ⟨gr, og, rfl, hgr, hgc⟩ := hUA.some (by omega)
         have HPU : Hid (U64 ((atsL ys).getD i 0)) := atsL_u64 _ (getD_in_f (l := atsL ys) (i := i) (by rw [atsL_len]; omega))
         have HCA : Hid (∀ (wx : World) j, wx.ownsRow w.heap.size 44 1 (.slice (some ⟨gr, og, none⟩) xs.length cA) xs.length (uz (atsL ys)) -> j < xs.length -> wx.cell? ⟨gr, og + j, none⟩ = some (.int .u64 ((atsL ys).getD j 0))) := fun wx j ho hj => by
          obtain ⟨a2, c2', hv2, hU2⟩ := urow_own (l := atsL ys) (by rw [atsL_len, hyl]; exact ho) atsL_u64
          rw [atsL_len, hyl] at hv2 hU2
          cases hv2
          obtain ⟨b2, o2, e2, _, hg2⟩ := hU2.some (by omega)
          cases e2
          exact hg2 j hj
         have HSTEP : Hid ((setM (setK ((atsL ys).getD i 0) (atsL ys) (xs.getD i default).l k os0) ((atsL ys).getD i 0) 0 (k : Nat) (sayS (atsL ys) ((xs.getD i default).l.getD k default))).1 = setK ((atsL ys).getD i 0) (atsL ys) (xs.getD i default).l (k + 1) os0) := rfl
         obtain ⟨f, hff0⟩ : ∃ f, f = (xs.getD i default).l.getD k default := ⟨_, rfl⟩
         rw [<- hff0] at c0 c1 c2 hfok HSTEP
         have hatl : (atsL ys).length = xs.length := by rw [atsL_len]; exact hyl
         have HSY : Hid (sayS (atsL ys) f = if f.is_ = true then (atsL ys).getD (roundI f.to_ xs.length) 0 else f.w) := by unfold Hid sayS; rw [hatl]
         have HZU : Hid (U64 (sayS (atsL ys) f)) := by
          unfold Hid; rw [HSY.out]
          split
          ·exact atsL_u64 _ (getD_in_f (by rw [hatl]; exact (round_at (n := xs.length) (by omega) f.to_).1))
          ·exact hfok.w
         have hto := hfok.to_
         unfold Z64 at hto
         obtain ⟨z, hz⟩ : ∃ z, z = sayS (atsL ys) f := ⟨_, rfl⟩
         rw [<- hz] at HSTEP HSY HZU
         obtain ⟨osk, hosk⟩ : ∃ x, x = setK ((atsL ys).getD i 0) (atsL ys) (xs.getD i default).l k os0 := ⟨_, rfl⟩
         rw [<- hosk] at HK HSTEP
         obtain ⟨P, hP⟩ : ∃ P, P = (atsL ys).getD i 0 := ⟨_, rfl⟩
         have hci := HCA.out
         rw [<- hP] at HPU HSTEP
         have HCI : Hid (∀ (wx : World), wx.ownsRow w.heap.size 44 1 (.slice (some ⟨gr, og, none⟩) xs.length cA) xs.length (uz (atsL ys)) -> wx.cell? ⟨gr, og + i, none⟩ = some (.int .u64 P)) := fun wx ho => by rw [hP]; exact HCA.out wx i ho hlt2
         have CP : Hid (∀ wx, KZ w.heap.size B' (.pointer (some ⟨gh, 0, none⟩)) (.pointer (some ⟨gp, 0, none⟩)) 5000 g gn osk nm4 osk nm4 F vL ls vN (fun b => (Value.slice (some ⟨gr, og, none⟩) xs.length cA).ownBlock = some b) wx -> wx.ownsRow w.heap.size 44 1 (.slice (some ⟨gr, og, none⟩) xs.length cA) xs.length (uz (atsL ys)) -> Below w.heap.size w wx -> Calls Tryz.prog 36 #[.pointer (some ⟨gh, 0, none⟩), .int .u64 P, .int .i64 0, .int .i64 (k : Nat), .int .u64 z] wx fun e w' => ∃ zz F', e = .returned (.int .i64 zz) /\ KZ w.heap.size B' (.pointer (some ⟨gh, 0, none⟩)) (.pointer (some ⟨gp, 0, none⟩)) 5000 g gn (setM osk P 0 (k : Nat) z).1 nm4 osk nm4 F' vL ls vN (fun b => (Value.slice (some ⟨gr, og, none⟩) xs.length cA).ownBlock = some b) w' /\ w'.ownsRow w.heap.size 44 1 (.slice (some ⟨gr, og, none⟩) xs.length cA) xs.length (uz (atsL ys)) /\ Below w.heap.size w w') := fun wx hk ho hb => by
          refine (pn_set hk.z.pn P 0 (k : Nat) z HPU.out (by unfold Z64; omega) (by unfold Z64; omega) HZU.out hb.size).mono ?_
          rintro e w' ⟨rfl, hp⟩
          obtain ⟨F', k1, k2, k3⟩ := hk.stepP hp
          exact ⟨_, F', rfl, k1, own_at ho k2, hb.trans k3⟩
         have CD : Hid (∀ F' wx, KZ w.heap.size B' (.pointer (some ⟨gh, 0, none⟩)) (.pointer (some ⟨gp, 0, none⟩)) 5000 g gn (setM osk P 0 (k : Nat) z).1 nm4 osk nm4 F' vL ls vN (fun b => (Value.slice (some ⟨gr, og, none⟩) xs.length cA).ownBlock = some b) wx -> wx.ownsRow w.heap.size 44 1 (.slice (some ⟨gr, og, none⟩) xs.length cA) xs.length (uz (atsL ys)) -> Below w.heap.size w wx -> Calls Tryz.prog 37 #[.pointer (some ⟨g, 0, none⟩), .int .u64 P, .int .i64 0, .int .i64 (k : Nat), .int .u64 z] wx fun e w' => ∃ zz vL' ls' vN', e = .returned (.int .i64 zz) /\ KZ w.heap.size B' (.pointer (some ⟨gh, 0, none⟩)) (.pointer (some ⟨gp, 0, none⟩)) 5000 g gn (setM osk P 0 (k : Nat) z).1 nm4 (setM osk P 0 (k : Nat) z).1 nm4 F' vL' ls' vN' (fun b => (Value.slice (some ⟨gr, og, none⟩) xs.length cA).ownBlock = some b) w' /\ w'.ownsRow w.heap.size 44 1 (.slice (some ⟨gr, og, none⟩) xs.length cA) xs.length (uz (atsL ys)) /\ Below w.heap.size w w') := fun F' wx hk ho hb => by
          refine (hn_set hk.z.hn P 0 (k : Nat) z HPU.out (by unfold Z64; omega) (by unfold Z64; omega) HZU.out).mono ?_
          rintro e w' ⟨rfl, hp⟩
          rw [hk.z.os2_] at hp
          obtain ⟨vL', ls', vN', k1, k2, k3⟩ := hk.stepD hp
          exact ⟨_, vL', ls', vN', rfl, k1, own_at ho k2, hb.trans k3⟩
         have HPE := hid hP
         clear hP hz hff0 hfok hfc hgc hUA hosk hci hgr hF
         obtain ⟨fis, fto, ffw⟩ := f
         simp only at c0 c1 c2 HSY hto
         have b5 := Ba wr (.cells #[.bool fis, .int .i64 fto, .int .u64 ffw] 78)
         have x5 := blk_new wr #[.bool fis, .int .i64 fto, .int .u64 ffw] 78
         have HK5 := hid (HK.out.on b5)
         have HO5 := hid (uown_on HO.out b5)
         have HB5 := hid (HB.out.trans (b5.mono HB.out.size))
         have p0 : (wr.alloc (.cells #[.bool fis, .int .i64 fto, .int .u64 ffw] 78)).cell? ⟨wr.heap.size, 0, none⟩ = some (.bool fis) := blk_cell x5 0
         have p1 : (wr.alloc (.cells #[.bool fis, .int .i64 fto, .int .u64 ffw] 78)).cell? ⟨wr.heap.size, 1, none⟩ = some (.int .i64 fto) := blk_cell x5 1
         have p2 : (wr.alloc (.cells #[.bool fis, .int .i64 fto, .int .u64 ffw] 78)).cell? ⟨wr.heap.size, 2, none⟩ = some (.int .u64 ffw) := blk_cell x5 2
         have p3 := HCI.out _ HO5.out
         clear b5 x5
         cases fis
         ·have hzz : ffw = z := by have := HSY.out; simpa using this.symm
          subst hzz
          go_wp2_with (first
           | (go_at_call 36; (with_reducible refine (CP.out _ HK5.out HO5.out HB5.out).mono ?_); rintro e W6 ⟨z6, F6, rfl, k6, o6, b6⟩; have HK6 := hid k6; have HO6 := hid o6; have HB6 := hid b6; have p6 := HCI.out W6 o6; clear k6 o6 b6)
           | (go_at_call 37; (with_reducible refine (CD.out F6 W6 HK6.out HO6.out HB6.out).mono ?_); rintro e W7 ⟨z7, vL7, ls7, vN7, rfl, k7, o7, b7⟩; have HK7 := hid k7; have HO7 := hid o7; have HB7 := hid b7; clear k7 o7 b7))
          rw [HSTEP.out, HPE.out] at HK7
          refine ⟨⟨_, _, _, _, _, _, _, _, _, _, _, _, _, _, _, _, _, _, _, _, _, _, _, _, _, _, _, _, _, _, _, _, _, _, _, _, _, _, _, _, _, _, _, _, _, _, _, _, _, _, _, _, _, _, _, ⟨k + 1, by omega, by go_num, _, _, _, _, HK7.out, HO7.out, HB7.out⟩, rfl⟩, by simp [intOf] <;> omega⟩
         ·obtain ⟨hr1, hr2⟩ := round_at (n := xs.length) (by omega) fto
          have hzz : (atsL ys).getD (roundI fto xs.length) 0 = z := by have := HSY.out; simpa using this.symm
          obtain ⟨j, hj⟩ : ∃ j, j = roundI fto xs.length := ⟨_, rfl⟩
          rw [<- hj] at hr1 hr2 hzz
          have htm : (Int.tmod fto xs.length).natAbs < xs.length := by rw [Int.natAbs_tmod]; exact Nat.mod_lt _ (by omega)
          have pj := HCA.out _ j HO5.out hr1
          rw [hzz] at pj
          have hnz : (xs.length : Int) ≠ 0 := by omega
          have hw1 : IntKind.i64.wrap (Int.tmod fto (xs.length : Int)) = Int.tmod fto (xs.length : Int) := by rw [IntKind.wrap_i64]; omega
          have hw2 : IntKind.i64.wrap (Int.tmod fto (xs.length : Int) + (xs.length : Int)) = Int.tmod fto (xs.length : Int) + (xs.length : Int) := by rw [IntKind.wrap_i64]; omega
          have hw3 : wrap64 (Int.tmod fto (xs.length : Int)) = Int.tmod fto (xs.length : Int) := by unfold wrap64; omega
          have hw4 : wrap64 (Int.tmod fto (xs.length : Int) + (xs.length : Int)) = Int.tmod fto (xs.length : Int) + (xs.length : Int) := by unfold wrap64; omega
          have hq1 : ¬ (j : Int) < 0 := by omega
          have hq2 : ¬ (xs.length : Int) <= (j : Int) := by omega
          have hq3 : (0 : Int) <= (j : Int) := by omega
          have hq4 : (j : Int) < (xs.length : Int) := by omega
          clear hj hzz
          go_wp2_with (first
           | (go_at_call 36; (with_reducible refine (CP.out _ HK5.out HO5.out HB5.out).mono ?_); rintro e W6 ⟨z6, F6, rfl, k6, o6, b6⟩; have HK6 := hid k6; have HO6 := hid o6; have HB6 := hid b6; have p6 := HCI.out W6 o6; clear k6 o6 b6)
           | (go_at_call 37; (with_reducible refine (CD.out F6 W6 HK6.out HO6.out HB6.out).mono ?_); rintro e W7 ⟨z7, vL7, ls7, vN7, rfl, k7, o7, b7⟩; have HK7 := hid k7; have HO7 := hid o7; have HB7 := hid b7; clear k7 o7 b7))
          rw [HSTEP.out, HPE.out] at HK7
          refine ⟨⟨_, _, _, _, _, _, _, _, _, _, _, _, _, _, _, _, _, _, _, _, _, _, _, _, _, _, _, _, _, _, _, _, _, _, _, _, _, _, _, _, _, _, _, _, _, _, _, _, _, _, _, _, _, _, _, ⟨k + 1, by omega, by go_num, _, _, _, _, HK7.out, HO7.out, HB7.out⟩, rfl⟩, by simp [intOf] <;> omega⟩
        ·obtain rfl : k = fn := by omega
         go_wp2_with fail
         have hk9 := HK.out
         rw [<- hfl, hos0] at hk9
         exact ⟨⟨i + 1, by omega, by go_num, _, _, _, _, hk9, HO.out, HB.out⟩, by simp [intOf] <;> omega⟩
      ·obtain rfl : i = xs.length := by omega
       obtain ⟨F, vL, ls, vN, hK, hO, hB⟩ := HI.out
       have HK := hid hK
       have HO := hid hO
       have HB := hid hB
       clear HI hK hO hB
       go_wp2_with fail
       (try simp only [Exit.inBlock, Exit.then]); refine bodyPost_ret (results_tmp5 rfl _ _ _) rfl ?_
       refine ⟨gh, gp, g, gn, B', F, vL, ls, vN, aA, cA, rfl, ?_, ?_, HB.out⟩
       ·have := HK.out; rw [HYS.out] at this; exact this
       ·rw [<- HYS.out]; exact HO.out
end Go.Proofs.YticimejfjjmikaaGreatDoor
